/- What the law stands on: RefVec RefMat RefLine RefRun RefRun2 AppsAt. -/
import Derived.Test.YthmiojmlaclgaaaGreatDoorJ00
import Derived.Test.YthmiojmlaclgaaaGreatDoorJ09
import Derived.Test.YthmiojmlaclgaaaGreatDoorJ01
import Derived.Test.YthmiojmlaclgaaaGreatDoorJ04
import Derived.Test.YthmiojmlaclgaaaGreatDoorJ02
set_option maxRecDepth 100000
set_option maxHeartbeats 12800000
namespace Go.Proofs.YthmiojmlaclgaaaGreatDoor.Fx
open Go.RowKit
theorem rdot_calls (a b:Option Addr) (la ca cb:Nat) (xs ys:List Int) (w:World) (ha:Lst w a la ca xs) (hb:Lst w b la cb ys) (h63:la<=1000000000000000000) :
  Calls Tryz.prog 157 #[.slice a la ca,.slice b la cb] w fun e w'=>e=.returned (.int .i64 (dotTo xs ys la))/\∃ k,w'=w.drewN k:=by
 go_enter Tryz.func157,Tryz.ntmps157
 go_wp2
 go_loopw [5,6] (fun s i wr=>∃ k n:Nat,k<=la/\i=.int .i64 k/\s=.int .i64 (dotTo xs ys k)/\wr=w.drewN n) (fun _ i _=>la - (intOf i).toNat)
 case atStart=>exact ⟨0,0,Nat.zero_le _,rfl,rfl,rfl⟩
 case round =>
  obtain ⟨k,n,hk,rfl,rfl,hw⟩:=hrel
  have ha':Lst wr a la ca xs:=hw ▸ ha.drewN n
  have hb':Lst wr b la cb ys:=hw ▸ hb.drewN n
  have HW:Hid (wr=w.drewN n):=hw
  clear hw ha hb
  by_cases hlt:k < la
  ·obtain ⟨b1,o1,x,rfl,_,c1,HX⟩:=ha'.at1 hlt
   obtain ⟨b2,o2,y,rfl,_,c2,HY⟩:=hb'.at1 hlt
   go_wp2
   go_quiet ((first | (go_at_call 111; exact Calls.quiet_of_same (Zbc _ _ _)) | (go_at_call 110; exact Calls.quiet_of_same (Zbi _ _ _))))
   go_wp2
   go_roundw
   case rel=>exact ⟨k+1,_,by omega,by go_num,by simp only [dotTo,HX.out,HY.out],by rw [HW.out,World.drewN_drewN]⟩
   case measure=>simp [intOf]; omega
  ·go_wp2
   go_ret
   obtain rfl:k=la:=by omega
   exact ⟨rfl,_,HW.out⟩

def inTo (p:Nat->Bool) (f:Nat->Int):Nat->List Int
 | 0=>[]
 | c+1=>inTo p f c ++ (if p c=true then [f c] else [])
def outTo (P:Nat->Nat->Bool) (xs:List Int) (C:Nat):Nat->List Int
 | 0=>[]
 | r+1=>outTo P xs C r ++ inTo (P r) (fun c=>xs.getD (r * C+c) 0) C
theorem inTo_yes (p:Nat->Bool) (f:Nat->Int) (c:Nat) (x:Int) (l:List Int) (h:p c=true) (hx:f c=x):l ++ inTo p f c ++ [x]=l ++ inTo p f (c+1):=by
 simp [inTo,h,hx]
theorem inTo_no (p:Nat->Bool) (f:Nat->Int) (c:Nat) (h:p c=false):inTo p f c=inTo p f (c+1):=by
 simp [inTo,h]
theorem inTo_len (p:Nat->Bool) (f:Nat->Int) (c:Nat):(inTo p f c).length<=c:=by
 induction c with
 | zero=>exact nr
 | succ c ih =>
   cases h:p c with
   | true=>simp [inTo,h]; omega
   | false=>simp [inTo,h]; omega
theorem outTo_len (P:Nat->Nat->Bool) (xs:List Int) (C r:Nat):(outTo P xs C r).length<=r * C:=by
 induction r with
 | zero=>simp [outTo]
 | succ r ih =>
   have:=inTo_len (P r) (fun c=>xs.getD (r * C+c) 0) C
   rw [outTo,List.length_append,Nat.succ_mul]; omega
theorem inTo_all (f:Nat->Int) (c:Nat):inTo (fun _=>true) f c=(List.range c).map f:=by
 induction c with
 | zero=>rfl
 | succ c ih=>rw [inTo,ih,List.range_succ]; simp
theorem inTo_none (f:Nat->Int) (c:Nat):inTo (fun _=>false) f c=[]:=by
 induction c with
 | zero=>rfl
 | succ c ih=>rw [inTo,ih]; simp
theorem inTo_one (f:Nat->Int) (k c:Nat):inTo (fun i=>decide (i=k)) f c=if k < c then [f k] else []:=by
 induction c with
 | zero=>rfl
 | succ c ih =>
   rw [inTo,ih]
   by_cases h:k < c
   ·have h1:¬ c=k:=by omega
    have h2:k < c+1:=by omega
    simp [h,h1,h2]
   ·by_cases e:c=k
    ·subst e; simp
    ·have h2:¬ k < c+1:=by omega
     simp [h,e,h2]
def rowP (k r _c:Nat):Bool:=decide (r=k)
def colP (k _r c:Nat):Bool:=decide (c=k)
theorem outTo_row (xs:List Int) (C k r:Nat):outTo (rowP k) xs C r=if k < r then rowL xs C k else []:=by
 induction r with
 | zero=>rfl
 | succ r ih =>
   rw [outTo,ih]
   by_cases e:r=k
   ·subst e
    have h1:rowP r r=fun _=>true:=by funext c; simp [rowP]
    rw [h1,inTo_all,if_neg (by omega),if_pos (by omega)]; rfl
   ·have h1:rowP k r=fun _=>false:=by funext c; simp [rowP,e]
    rw [h1,inTo_none,List.append_nil]
    by_cases h:k < r
    ·rw [if_pos h,if_pos (by omega)]
    ·rw [if_neg h,if_neg (by omega)]
theorem outTo_col (xs:List Int) (C k r:Nat) (hk:k < C):outTo (colP k) xs C r=colL xs r C k:=by
 induction r with
 | zero=>rfl
 | succ r ih =>
   have h1:colP k r=fun i=>decide (i=k):=by funext c; rfl
   rw [outTo,ih,h1,inTo_one,if_pos hk]
   unfold colL
   rw [List.range_succ,List.map_append]; rfl
theorem rline_row (R C k:Nat) (a:Option Addr) (cap:Nat) (xs:List Int) (w:World) (ha:Lst w a (R * C) cap xs) (hR:R<=4) (hC:C<=4) (hk:k < R) :
  Calls Tryz.prog 158 #[.agg #[.int .i64 R,.int .i64 C,.slice a (R * C) cap],.int .i64 k,.bool false] w fun e w'=>∃ a' n' c',e=.returned (.slice a' n' c')/\Lst w' a' n' c' (rowL xs C k)/\Below w.heap.size w w':=by
 have hal:=(Below.refl w.heap.size w).alloc nr (.cells #[.int .i64 R,.int .i64 C,.slice a (R * C) cap] 100)
 have h2:=Zae hR hC
 have i3:(R:Int) * (C:Int)<=16:=by exact_mod_cast h2
 go_enter Tryz.func158,Tryz.ntmps158
 go_wp2
 go_loopw [7,8] (fun v i wr=>∃ r:Nat,r<=R/\i=.int .i64 r/\OwnI (w.heap.size+1) wr v (outTo (rowP k) xs C r)/\Below (w.heap.size+1) (w.alloc (.cells #[.int .i64 R,.int .i64 C,.slice a (R * C) cap] 100)) wr) (fun _ i _=>R - (intOf i).toNat)
 case atStart=>exact ⟨0,Nat.zero_le _,rfl,OwnI.nil _ _,br⟩
 case round =>
  obtain ⟨r,hr,rfl,hown,hbel⟩:=hrel
  obtain ⟨g0,g1,g2⟩:=box3 _ _ _ _ hbel (Nat.lt_succ_self _)
  by_cases hlt:r < R
  ·go_wp2
   generalize hwr:wr=w1 at *
   clear hwr
   go_loopw [7,9] (fun v i wr=>∃ c:Nat,c<=C/\i=.int .i64 c/\OwnI (w.heap.size+1) wr v (outTo (rowP k) xs C r ++ inTo (rowP k r) (fun c=>xs.getD (r * C+c) 0) c)/\Below (w.heap.size+1) (w.alloc (.cells #[.int .i64 R,.int .i64 C,.slice a (R * C) cap] 100)) wr) (fun _ i _=>C - (intOf i).toNat)
   case atStart=>exact ⟨0,Nat.zero_le _,rfl,by rw [inTo,List.append_nil]; exact hown,hbel⟩
   case round =>
    clear hown hbel g0 g1 g2
    obtain ⟨c,hc,rfl,hown,hbel⟩:=hrel
    obtain ⟨g0,g1,g2⟩:=box3 _ _ _ _ hbel (Nat.lt_succ_self _)
    have hsz:w.heap.size+1<=wr.heap.size:=by have:=hbel.size; simpa using this
    by_cases hlt2:c < C
    ·have m1:(r+1) * C<=R * C:=Nat.mul_le_mul_right _ hlt
     have m2:(r+1) * C=r * C+C:=Nat.succ_mul _ _
     have m3:r * C+c < R * C:=by omega
     have i5:(0:Int)<=(r:Int) * (C:Int):=by exact_mod_cast Nat.zero_le (r * C)
     have i6:(r:Int) * (C:Int)+(c:Int) < (R:Int) * (C:Int):=by exact_mod_cast m3
     have l1:=outTo_len (rowP k) xs C r
     have l2:=inTo_len (rowP k r) (fun c=>xs.getD (r * C+c) 0) c
     obtain ⟨b1,o1,x,rfl,s1,c1,HX⟩:=(ha.below hal nr).at1b hbel (by simp) m3
     by_cases hp:r=k
     ·have ht:((r:Int) == (k:Int))=true:=by rw [beq_iff_eq]; omega
      have HP:Hid (rowP k r c=true):=decide_eq_true hp
      clear m2 hp ha hal
      go_wp2_with (at_builtin; refine Zaz (by rfl) _ _ (by rfl) (w.heap.size+1) _ (outTo (rowP k) xs C r ++ inTo (rowP k r) (fun c=>xs.getD (r * C+c) 0) c) x wr.heap.size wr (by rfl) (by rfl) (by exact hown.alloc _) (by exact Zaf _ _ _) (by rw [List.length_append]; omega) (by simp; omega) (by exact br.alloc (by omega) _) ?_; intro v1 w3 hown1 hbel1)
      go_roundw
      case rel=>exact ⟨c+1,by omega,by go_num,hown1.congr (inTo_yes _ _ _ _ _ HP.out HX.out),hbel.trans hbel1⟩
      case measure=>simp [intOf]; omega
     ·have ht:((r:Int) == (k:Int))=false:=by rw [beq_eq_false_iff_ne]; omega
      have HP:Hid (rowP k r c=false):=decide_eq_false hp
      clear m2 ha hal
      go_wp2
      go_roundw
      case rel=>exact ⟨c+1,by omega,by go_num,by rw [← inTo_no _ _ _ HP.out]; exact hown,hbel⟩
      case measure=>simp [intOf]; omega
    ·go_wp2
     go_roundw
     case rel =>
      obtain rfl:c=C:=by omega
      exact ⟨r+1,by omega,by go_num,hown,hbel⟩
     case measure=>simp [intOf]; omega
  ·obtain rfl:r=R:=by omega
   obtain ⟨a1,c1,rfl,hl⟩:=hown.lst
   have hbw:=hal.trans (hbel.mono (by omega))
   go_wp2
   go_ret
   exact ⟨_,_,_,rfl,by rw [outTo_row,if_pos hk] at hl; rw [outTo_row,if_pos hk]; exact hl,hbw⟩
theorem rline_col (R C k:Nat) (a:Option Addr) (cap:Nat) (xs:List Int) (w:World) (ha:Lst w a (R * C) cap xs) (hR:R<=4) (hC:C<=4) (hk:k < C) :
  Calls Tryz.prog 158 #[.agg #[.int .i64 R,.int .i64 C,.slice a (R * C) cap],.int .i64 k,.bool true] w fun e w'=>∃ a' n' c',e=.returned (.slice a' n' c')/\Lst w' a' n' c' (colL xs R C k)/\Below w.heap.size w w':=by
 have hal:=(Below.refl w.heap.size w).alloc nr (.cells #[.int .i64 R,.int .i64 C,.slice a (R * C) cap] 100)
 have h2:=Zae hR hC
 have i3:(R:Int) * (C:Int)<=16:=by exact_mod_cast h2
 go_enter Tryz.func158,Tryz.ntmps158
 go_wp2
 go_loopw [7,8] (fun v i wr=>∃ r:Nat,r<=R/\i=.int .i64 r/\OwnI (w.heap.size+1) wr v (outTo (colP k) xs C r)/\Below (w.heap.size+1) (w.alloc (.cells #[.int .i64 R,.int .i64 C,.slice a (R * C) cap] 100)) wr) (fun _ i _=>R - (intOf i).toNat)
 case atStart=>exact ⟨0,Nat.zero_le _,rfl,OwnI.nil _ _,br⟩
 case round =>
  obtain ⟨r,hr,rfl,hown,hbel⟩:=hrel
  obtain ⟨g0,g1,g2⟩:=box3 _ _ _ _ hbel (Nat.lt_succ_self _)
  by_cases hlt:r < R
  ·go_wp2
   generalize hwr:wr=w1 at *
   clear hwr
   go_loopw [7,9] (fun v i wr=>∃ c:Nat,c<=C/\i=.int .i64 c/\OwnI (w.heap.size+1) wr v (outTo (colP k) xs C r ++ inTo (colP k r) (fun c=>xs.getD (r * C+c) 0) c)/\Below (w.heap.size+1) (w.alloc (.cells #[.int .i64 R,.int .i64 C,.slice a (R * C) cap] 100)) wr) (fun _ i _=>C - (intOf i).toNat)
   case atStart=>exact ⟨0,Nat.zero_le _,rfl,by rw [inTo,List.append_nil]; exact hown,hbel⟩
   case round =>
    clear hown hbel g0 g1 g2
    obtain ⟨c,hc,rfl,hown,hbel⟩:=hrel
    obtain ⟨g0,g1,g2⟩:=box3 _ _ _ _ hbel (Nat.lt_succ_self _)
    have hsz:w.heap.size+1<=wr.heap.size:=by have:=hbel.size; simpa using this
    by_cases hlt2:c < C
    ·have m1:(r+1) * C<=R * C:=Nat.mul_le_mul_right _ hlt
     have m2:(r+1) * C=r * C+C:=Nat.succ_mul _ _
     have m3:r * C+c < R * C:=by omega
     have i5:(0:Int)<=(r:Int) * (C:Int):=by exact_mod_cast Nat.zero_le (r * C)
     have i6:(r:Int) * (C:Int)+(c:Int) < (R:Int) * (C:Int):=by exact_mod_cast m3
     have l1:=outTo_len (colP k) xs C r
     have l2:=inTo_len (colP k r) (fun c=>xs.getD (r * C+c) 0) c
     obtain ⟨b1,o1,x,rfl,s1,c1,HX⟩:=(ha.below hal nr).at1b hbel (by simp) m3
     by_cases hp:c=k
     ·have ht:((c:Int) == (k:Int))=true:=by rw [beq_iff_eq]; omega
      have HP:Hid (colP k r c=true):=decide_eq_true hp
      clear m2 hp ha hal
      go_wp2_with (at_builtin; refine Zaz (by rfl) _ _ (by rfl) (w.heap.size+1) _ (outTo (colP k) xs C r ++ inTo (colP k r) (fun c=>xs.getD (r * C+c) 0) c) x wr.heap.size wr (by rfl) (by rfl) (by exact hown.alloc _) (by exact Zaf _ _ _) (by rw [List.length_append]; omega) (by simp; omega) (by exact br.alloc (by omega) _) ?_; intro v1 w3 hown1 hbel1)
      go_roundw
      case rel=>exact ⟨c+1,by omega,by go_num,hown1.congr (inTo_yes _ _ _ _ _ HP.out HX.out),hbel.trans hbel1⟩
      case measure=>simp [intOf]; omega
     ·have ht:((c:Int) == (k:Int))=false:=by rw [beq_eq_false_iff_ne]; omega
      have HP:Hid (colP k r c=false):=decide_eq_false hp
      clear m2 ha hal
      go_wp2
      go_roundw
      case rel=>exact ⟨c+1,by omega,by go_num,by rw [← inTo_no _ _ _ HP.out]; exact hown,hbel⟩
      case measure=>simp [intOf]; omega
    ·go_wp2
     go_roundw
     case rel =>
      obtain rfl:c=C:=by omega
      exact ⟨r+1,by omega,by go_num,hown,hbel⟩
     case measure=>simp [intOf]; omega
  ·obtain rfl:r=R:=by omega
   obtain ⟨a1,c1,rfl,hl⟩:=hown.lst
   have hbw:=hal.trans (hbel.mono (by omega))
   go_wp2
   go_ret
   exact ⟨_,_,_,rfl,by rw [outTo_col _ _ _ _ hk] at hl; rw [outTo_col _ _ _ _ hk]; exact hl,hbw⟩
theorem rowL_long (xs:List Int) (C k:Nat):(rowL xs C k).length=C:=by simp [rowL]
theorem colL_long (xs:List Int) (R C k:Nat):(colL xs R C k).length=R:=by simp [colL]
theorem ZcR (I H O:Nat) (a1:Option Addr) (k1:Nat) (a2:Option Addr) (k2:Nat) (d1:Option Addr) (e1:Nat) (d2:Option Addr) (e2:Nat) (d:PD) (v:Option Addr) (cv:Nat) (xs:List Int) (w:World) (h:InPup w (rpup I H O a1 k1 a2 k2 d1 e1 d2 e2) d) (hv:Lst w v I cv xs) (i2:I<=4) (j1:1<=H) (j2:H<=4) (o1:1<=O) (o2:O<=4) :
  Calls Tryz.prog 108 #[(rpup I H O a1 k1 a2 k2 d1 e1 d2 e2).val,.slice v I cv] w fun e w'=>∃ ah ch ay cy,(∃ gh gy,ah=some ⟨gh,0,none⟩/\ay=some ⟨gy,0,none⟩/\w.heap.size<=gh/\w.heap.size<=gy)/\e=.returned (.tuple #[.slice ah H ch,.slice ay O cy])/\Lst w' ah H ch (hidL d xs I H)/\Lst w' ay O cy (outYL d xs I H O)/\Below w.heap.size w w':=by
 have hal:=(Below.refl w.heap.size w).alloc nr (.cells (rpup I H O a1 k1 a2 k2 d1 e1 d2 e2).cells 102)
 obtain ⟨B,hB⟩:∃ B,B=w.alloc (.cells (rpup I H O a1 k1 a2 k2 d1 e1 d2 e2).cells 102):=⟨_,rfl⟩
 rw [← hB] at hal
 have hBs:B.heap.size=w.heap.size+1:=by rw [hB]; simp
 have hin:=h.below hal nr
 have hv0:=hv.below hal nr
 obtain ⟨hx1,hx2,hb1,hb2⟩:=hin
 clear h hv
 simp only [Pup.val,Pup.cells,rpup] at *
 have KA:Hid (∀ q,Below B.heap.size B q->Box8 q w.heap.size (.int .i64 H) (.int .i64 I) (.slice a1 (H * I) k1) (.int .i64 O) (.int .i64 H) (.slice a2 (O * H) k2) (.slice d1 H e1) (.slice d2 O e2)):=by
  intro q hq
  rw [hB] at hq
  exact box8 hq (by simp)
 have KW:Hid (∀ q,Below B.heap.size B q->Below w.heap.size w q):=fun q hq=>hal.trans (hq.mono hal.size)
 have HB:Hid (B=w.alloc (.cells #[.int .i64 H,.int .i64 I,.slice a1 (H * I) k1,.int .i64 O,.int .i64 H,.slice a2 (O * H) k2,.slice d1 H e1,.slice d2 O e2] 102)):=hB
 clear hB hal
 go_enter Tryz.func108,Tryz.ntmps108
 go_wp2
 rw [← HB.out]
 go_loopw [6,8] (fun s i wr=>∃ k:Nat,k<=H/\i=.int .i64 k/\OwnI B.heap.size wr s ((List.range k).map (hidG d xs I))/\Below B.heap.size B wr) (fun _ i _=>H - (intOf i).toNat)
 case atStart=>exact ⟨0,Nat.zero_le _,rfl,OwnI.nil _ _,br⟩
 case round =>
  obtain ⟨k,hk,rfl,hown,hbel⟩:=hrel
  obtain ⟨f0,f1,f2,f3,f4,f5,f6,f7⟩:=KA.out _ hbel
  have hsz:=hbel.size
  by_cases hlt:k < H
  ·obtain ⟨b1,o1,y,rfl,s1,c1,HY⟩:=hb1.at1b hbel nr hlt
   have hx1r:=hx1.below hbel nr
   have HS:Hid (∀ q,Below wr.heap.size wr q->q.cell? ⟨w.heap.size,0,none⟩=some (.int .i64 H)/\q.cell? ⟨w.heap.size,1,none⟩=some (.int .i64 I)/\q.cell? ⟨w.heap.size,2,none⟩=some (.slice a1 (H * I) k1)/\q.cell? ⟨w.heap.size,6,none⟩=some (.slice (some ⟨b1,o1,none⟩) H e1)/\q.cell? ⟨b1,o1+k,none⟩=some (.int .i64 y)):=by
    intro q hq
    have hb:=KA.out _ (hbel.trans (hq.mono hsz))
    exact ⟨hb.c0,hb.c1,hb.c2,hb.c6,(hq.cell (p:=⟨b1,o1+k,none⟩) (by show b1 < wr.heap.size; omega)).trans c1⟩
   have HVV:Hid (∀ q,Below wr.heap.size wr q->Lst q v I cv xs):=fun q hq=>(hv0.below hbel nr).below hq nr
   have hd0:Below wr.heap.size wr wr.drew:=br.drew
   go_wp2
   go_region_held3 (fun q=>q.cell? ⟨w.heap.size,0,none⟩=some (.int .i64 H)/\q.cell? ⟨w.heap.size,1,none⟩=some (.int .i64 I)/\q.cell? ⟨w.heap.size,2,none⟩=some (.slice a1 (H * I) k1)/\q.cell? ⟨w.heap.size,6,none⟩=some (.slice (some ⟨b1,o1,none⟩) H e1)/\q.cell? ⟨b1,o1+k,none⟩=some (.int .i64 y)) (first | go_keep | exact HS.out _ T3 | exact HS.out _ T2)
    (first | (go_at_call 158; refine (rline_row H I k a1 k1 d.X1 _ (by exact hx1r.drew) j2 i2 hlt).mono ?_; rintro e w2 ⟨la,ln,lc,rfl,hl,hw2⟩; have T2:=hd0.trans (hw2.mono hd0.size); have hln:I=ln:=(by rw [← hl.len]; exact (rowL_long _ _ _).symm); subst hln) | (go_at_call 157; refine (rdot_calls _ _ _ _ _ _ xs _ hl (HVV.out _ T2) (by omega)).mono ?_; rintro e w3 ⟨rfl,nd,hw3⟩; have T3:Below wr.heap.size wr w3:=hw3 ▸ Zab T2 nd; clear hw3) | (go_at_call 110; refine (Zbi _ _ _).mono ?_; rintro e w4 ⟨rfl,hw4⟩; replace hw4:=hw4.symm; subst hw4))
   all_goals
    have hb3:Below B.heap.size wr w3:=T3.mono hsz
    have hown3:OwnI B.heap.size w3 _ _:=OwnI.below hown T3
    have hs3:=hb3.size
    have HX:Hid (layG d.X1 d.B1 xs I k=addI (dotTo (rowL d.X1 I k) xs I) y):=by show addI (mulG d.X1 xs I k) (d.B1.getD k 0)=_; rw [HY.out]; rfl
    generalize addI (dotTo (rowL d.X1 I k) xs I) y=x at *
    clear hl T2 T3 hx1r HS HVV hd0
    by_cases hx:x < 0
    ·have HG:Hid (hidG d xs I k=0):=by show pos0 (layG d.X1 d.B1 xs I k)=0; rw [HX.out]; exact if_pos hx
     clear HX
     go_wp2_with (at_builtin; refine Zaz (by rfl) _ _ (by rfl) B.heap.size _ ((List.range k).map (hidG d xs I)) 0 w3.heap.size wr (by rfl) (by rfl) (by exact hown3.alloc _) (by exact Zaf _ _ _) (by simp; omega) (by simp; omega) (by exact hb3.alloc (by omega) _) ?_; intro v1 w5 hown1 hbel1)
     go_roundw
     case rel=>exact ⟨k+1,by omega,by go_num,hown1.congr (Zay _ _ _ HG.out),hbel.trans hbel1⟩
     case measure=>simp [intOf]; omega
    ·have HG:Hid (hidG d xs I k=x):=by show pos0 (layG d.X1 d.B1 xs I k)=x; rw [HX.out]; exact if_neg hx
     clear HX
     go_wp2_with (at_builtin; refine Zaz (by rfl) _ _ (by rfl) B.heap.size _ ((List.range k).map (hidG d xs I)) x w3.heap.size wr (by rfl) (by rfl) (by exact hown3.alloc _) (by exact Zaf _ _ _) (by simp; omega) (by simp; omega) (by exact hb3.alloc (by omega) _) ?_; intro v1 w5 hown1 hbel1)
     go_roundw
     case rel=>exact ⟨k+1,by omega,by go_num,hown1.congr (Zay _ _ _ HG.out),hbel.trans hbel1⟩
     case measure=>simp [intOf]; omega
  ·obtain rfl:k=H:=by omega
   obtain ⟨ah,ch,rfl,hh⟩:=hown.lst' (n:=k) (by simp)
   have FH:Hid (∃ gh,ah=some ⟨gh,0,none⟩/\w.heap.size<=gh):=by
    obtain ⟨g,e,hg,_⟩:=hown.at (by simp) (by omega)
    exact ⟨g,e,by omega⟩
   generalize hwr:wr=wm at *
   clear hwr hown hb1 hx1
   go_wp2
   go_loopw [7,10] (fun s i wr=>∃ j:Nat,j<=O/\i=.int .i64 j/\OwnI wm.heap.size wr s ((List.range j).map (outG d xs I k))/\Below wm.heap.size wm wr) (fun _ i _=>O - (intOf i).toNat)
   case atStart=>exact ⟨0,Nat.zero_le _,rfl,OwnI.nil _ _,br⟩
   case round =>
    obtain ⟨j,hj,rfl,hown,hbl⟩:=hrel
    clear f0 f1 f2 f3 f4 f5 f6 f7
    have hbel2:=hbel.trans (hbl.mono hsz)
    obtain ⟨f0,f1,f2,f3,f4,f5,f6,f7⟩:=KA.out _ hbel2
    have hsz2:=hbl.size
    by_cases hlt2:j < O
    ·obtain ⟨b1,o1,y,rfl,s1,c1,HY⟩:=hb2.at1b hbel2 nr hlt2
     have hx2r:=hx2.below hbel2 nr
     have hhr:=hh.below hbl nr
     have HS:Hid (∀ q,Below wm.heap.size wr q->q.cell? ⟨w.heap.size,3,none⟩=some (.int .i64 O)/\q.cell? ⟨w.heap.size,4,none⟩=some (.int .i64 k)/\q.cell? ⟨w.heap.size,5,none⟩=some (.slice a2 (O * k) k2)/\q.cell? ⟨w.heap.size,7,none⟩=some (.slice (some ⟨b1,o1,none⟩) O e2)/\q.cell? ⟨b1,o1+j,none⟩=some (.int .i64 y)):=by
      intro q hq
      have hb:=KA.out _ (hbel2.trans (hq.mono hsz))
      exact ⟨hb.c3,hb.c4,hb.c5,hb.c7,(hq.cell (p:=⟨b1,o1+j,none⟩) (by show b1 < wm.heap.size; omega)).trans c1⟩
     have HVV:Hid (∀ q,Below wr.heap.size wr q->Lst q ah k ch (hidL d xs I k)):=fun q hq=>hhr.below hq nr
     have hd0:Below wr.heap.size wr wr.drew:=br.drew
     have HG:Hid (outG d xs I k j=addI (dotTo (rowL d.X2 k j) (hidL d xs I k) k) y):=by show addI (mulG d.X2 (hidL d xs I k) k j) (d.B2.getD j 0)=_; rw [HY.out]; rfl
     go_wp2
     go_region_held3 (fun q=>q.cell? ⟨w.heap.size,3,none⟩=some (.int .i64 O)/\q.cell? ⟨w.heap.size,4,none⟩=some (.int .i64 k)/\q.cell? ⟨w.heap.size,5,none⟩=some (.slice a2 (O * k) k2)/\q.cell? ⟨w.heap.size,7,none⟩=some (.slice (some ⟨b1,o1,none⟩) O e2)/\q.cell? ⟨b1,o1+j,none⟩=some (.int .i64 y)) (first | go_keep | exact HS.out _ hbel1 | exact HS.out _ (T3.mono hsz2) | exact HS.out _ (T2.mono hsz2))
      (first | (refine Zcm (by rfl) _ _ (by rfl) wm.heap.size _ ((List.range j).map (outG d xs I k)) (addI (dotTo (rowL d.X2 k j) (hidL d xs I k) k) y) w3.heap.size wr (by rfl) (by rfl) (by exact (OwnI.below hown T3).alloc _) (by exact Zaf _ _ _) (by simp; omega) (by simp; have:=T3.size; omega) (by exact (T3.mono hsz2).alloc (by have:=T3.size; omega) _) ?_; intro v1 w5 hown1 hbel1) | (go_at_call 158; refine (rline_row O k j a2 k2 d.X2 _ (by exact hx2r.drew) o2 j2 hlt2).mono ?_; rintro e w2 ⟨la,ln,lc,rfl,hl,hw2⟩; have T2:=hd0.trans (hw2.mono hd0.size); have hln:k=ln:=(by rw [← hl.len]; exact (rowL_long _ _ _).symm); subst hln) | (go_at_call 157; refine (rdot_calls _ _ _ _ _ _ _ _ hl (HVV.out _ T2) (by omega)).mono ?_; rintro e w3 ⟨rfl,nd,hw3⟩; have T3:Below wr.heap.size wr w3:=hw3 ▸ Zab T2 nd; clear hw3) | (go_at_call 110; refine (Zbi _ _ _).mono ?_; rintro e w4 ⟨rfl,hw4⟩; replace hw4:=hw4.symm; subst hw4))
     all_goals
      go_wp2
      go_roundw
      case rel=>exact ⟨j+1,by omega,by go_num,hown1.congr (Zay _ _ _ HG.out),hbl.trans hbel1⟩
      case measure=>simp [intOf]; omega
    ·obtain rfl:j=O:=by omega
     obtain ⟨ay,cy,rfl,hy⟩:=hown.lst' (n:=j) (by simp)
     have FY:Hid (∃ gy,ay=some ⟨gy,0,none⟩/\w.heap.size<=gy):=by
      obtain ⟨g,e,hg,_⟩:=hown.at (by simp) (by omega)
      exact ⟨g,e,by omega⟩
     go_wp2
     go_ret2
     obtain ⟨gh,eh,bh⟩:=FH.out
     obtain ⟨gy,ey,by'⟩:=FY.out
     exact ⟨ah,ch,ay,cy,⟨gh,gy,eh,ey,bh,by'⟩,rfl,hh.below hbl nr,hy,KW.out _ hbel2⟩
theorem rloss_calls (I H O:Nat) (a1:Option Addr) (k1:Nat) (a2:Option Addr) (k2:Nat) (d1:Option Addr) (e1:Nat) (d2:Option Addr) (e2:Nat) (d:PD) (v:Option Addr) (cv:Nat) (xs:List Int) (u:Option Addr) (cu:Nat) (ys:List Int) (w:World) (h:InPup w (rpup I H O a1 k1 a2 k2 d1 e1 d2 e2) d) (hv:Lst w v I cv xs) (hu:Lst w u O cu ys) (i2:I<=4) (j1:1<=H) (j2:H<=4) (o1:1<=O) (o2:O<=4) :
  Calls Tryz.prog 71 #[(rpup I H O a1 k1 a2 k2 d1 e1 d2 e2).val,.agg #[.slice v I cv,.slice u O cu]] w fun e w'=>e=.returned (.int .i64 (lossI d xs ys I H O))/\Below w.heap.size w w':=by
 have hal0:=(Below.refl w.heap.size w).alloc nr (.cells (rpup I H O a1 k1 a2 k2 d1 e1 d2 e2).cells 102)
 have hal:=hal0.alloc hal0.size (.cells #[.slice v I cv,.slice u O cu] 78)
 have hc:=ZcR I H O a1 k1 a2 k2 d1 e1 d2 e2 d v cv xs _ (h.below hal nr) (hv.below hal nr) i2 j1 j2 o1 o2
 have hu0:=hu.below hal nr
 clear hal0 h hv hu
 simp only [Pup.val,Pup.cells,rpup] at *
 go_enter Tryz.func71,Tryz.ntmps71
 go_wp2_with fail
 refine hc.mono ?_
 rintro e w1 ⟨ah,ch,ay,cy,_,rfl,_,hy,hw1⟩
 have hbw:=hal.trans (hw1.mono hal.size)
 obtain ⟨_,x1⟩:=boxE hw1 (by simp)
 have hu1:=hu0.below hw1 nr
 clear hc hw1 hal hu0
 go_wp2
 go_loopw [7,8] (fun s i wr=>∃ k n:Nat,k<=O/\i=.int .i64 k/\s=.int .i64 (dotTo (difL d xs ys I H O) (difL d xs ys I H O) k)/\wr=w1.drewN n) (fun _ i _=>O - (intOf i).toNat)
 case atStart=>exact ⟨0,0,Nat.zero_le _,rfl,rfl,rfl⟩
 case round =>
  obtain ⟨k,n,hk,rfl,rfl,hw⟩:=hrel
  have hy':Lst wr ay O cy (outYL d xs I H O):=hw ▸ hy.drewN n
  have hu':Lst wr u O cu ys:=hw ▸ hu1.drewN n
  have x1':wr.cell? ⟨w.heap.size+1,1,none⟩=some (.slice u O cu):=by rw [hw]; simpa using x1
  have HW:Hid (wr=w1.drewN n):=hw
  clear hw
  by_cases hlt:k < O
  ·obtain ⟨b1,o1',x,rfl,_,c1,HX⟩:=hy'.at1 hlt
   obtain ⟨b2,o2',y,rfl,_,c2,HY⟩:=hu'.at1 hlt
   have HD:Hid ((difL d xs ys I H O).getD k 0=subI x y):=by
    show ((List.range O).map (lessG (outYL d xs I H O) ys)).getD k 0=_
    rw [Zbv _ _ _ hlt]; unfold lessG; rw [HX.out,HY.out]
   go_wp2
   go_quiet ((go_at_call 109; exact Calls.quiet_of_same (rsub_calls _ _ _)))
   go_wp2_with (first | (go_at_call 111; refine (Zbc _ _ _).mono ?_; rintro e w' ⟨rfl,rfl⟩) | (go_at_call 110; refine (Zbi _ _ _).mono ?_; rintro e w' ⟨rfl,rfl⟩))
   go_roundw
   case rel=>exact ⟨k+1,_,by omega,by go_num,by simp only [dotTo,HD.out],by rw [HW.out,World.drewN_drewN]⟩
   case measure=>simp [intOf]; omega
  ·obtain rfl:k=O:=by omega
   go_wp2
   go_ret
   refine ⟨rfl,?_⟩
   rw [HW.out]
   exact Zab hbw _
structure Gr (wm:World) (G:Nat) (f:Nat->Value) (x y:Value) (Lx Ly:List Int) (wr:World):Prop where
 row:wr.rowIs G 102 8 f
 ox:OwnI wm.heap.size wr x Lx
 oy:OwnI wm.heap.size wr y Ly
 ap:Apart x y
 gr:wm.grownBy wr (some G)
theorem Gr.swap {wm:World} {G:Nat} {f:Nat->Value} {x y:Value} {Lx Ly:List Int} {wr:World} (h:Gr wm G f x y Lx Ly wr):Gr wm G f y x Ly Lx wr:=⟨h.row,h.oy,h.ox,h.ap.symm,h.gr⟩
theorem Gr.below {wm:World} {G:Nat} {f:Nat->Value} {x y:Value} {Lx Ly:List Int} {wr w2:World} (h:Gr wm G f x y Lx Ly wr) (hb:Below wr.heap.size wr w2):Gr wm G f x y Lx Ly w2 :=
 ⟨Zbg h.row hb h.row.lt,OwnI.below h.ox hb,OwnI.below h.oy hb,h.ap,grown_below h.gr hb⟩
theorem Gr.push {wm:World} {G:Nat} {f:Nat->Value} {x y x1:Value} {Lx Ly:List Int} {z:Int} {w2 w3:World} (h:Gr wm G f x y Lx Ly w2) (hG:G < wm.heap.size) (h1:OwnI wm.heap.size w3 x1 (Lx ++ [z])) (h2:w2.grownBy w3 x.ownBlock) (h3:x1.ownBlock=x.ownBlock\/x1.ownBlock=some w2.heap.size) (c:Nat) :
  Gr wm G (fun j=>if j=c then x1 else f j) x1 y (Lx ++ [z]) Ly (w3.setCell ⟨G,c,none⟩ x1):=by
 have hxb:∀ k,x.ownBlock=some k->wm.heap.size<=k:=by
  intro k hk
  rcases h.ox.blk with e | ⟨g,e,hg,_⟩
  ·rw [e] at hk; cases hk
  ·rw [e] at hk; cases hk; exact hg
 refine ⟨?_,ownsRow_setCell_below h1 hG _,ownsRow_setCell_below (h.oy.kept h2 h.ap) hG _,?_,?_⟩
 ·refine (h.row.of_block (h2.block G h.row.lt (fun e=>?_))).set c x1
  have:=hxb G e.symm
  omega
 ·rcases h3 with e | e
  ·unfold Apart; rw [e]; exact h.ap
  ·unfold Apart
   rw [e]
   rcases h.oy.blk with e2 | ⟨g,e2,_,hg⟩
   ·exact .inl e2
   ·right; rw [e2]; simp; omega
 ·exact grown1 (grown_trans h.gr h2 (fun k hk=>.inl (hxb k hk))) c x1
theorem Gr.congr {wm:World} {G:Nat} {f f':Nat->Value} {x y:Value} {Lx Ly Lx' Ly':List Int} {wr:World} (h:Gr wm G f x y Lx Ly wr) (e:∀ i,i < 8->f i=f' i) (e1:Lx=Lx') (e2:Ly=Ly'):Gr wm G f' x y Lx' Ly' wr:=by
 subst e1 e2
 exact ⟨h.row.congr e,h.ox,h.oy,h.ap,h.gr⟩
end Go.Proofs.YthmiojmlaclgaaaGreatDoor.Fx
