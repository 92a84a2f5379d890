/- What the law stands on: PupE PupA PupB PupF PupG. -/
import Derived.Test.YthmiojmlaclgaaaGreatDoorJ00
import Derived.Test.YthmiojmlaclgaaaGreatDoorJ01
set_option maxRecDepth 100000
set_option maxHeartbeats 12800000
namespace Go.Proofs.YthmiojmlaclgaaaGreatDoor.Fx
open Go.RowKit
def plusG (xs ys:List Int) (i:Nat):Int:=addI (xs.getD i 0) (ys.getD i 0)
def lessG (xs ys:List Int) (i:Nat):Int:=subI (xs.getD i 0) (ys.getD i 0)
theorem vSum_row (a b:Option Addr) (la ca cb:Nat) (xs ys:List Int) (w:World) (ha:Lst w a la ca xs) (hb:Lst w b la cb ys) (hl:la<=200) :
  Calls Tryz.prog 189 #[.slice a la ca,.slice b la cb] w fun e w'=>∃ g,e=.returned (.tuple #[.slice (some ⟨g,0,none⟩) la la,.int .i64 0])/\w.heap.size<=g/\w'.rowIs g 3 la (rowTo (plusG xs ys) la)/\Below w.heap.size w w':=by
 have H0:Hid (twoI la la=0):=by
  show twoI la la=0
  unfold twoI
  rw [if_neg (by omega),if_pos rfl]
 have hmk:=run_make_row' (P:=Tryz.prog) 66 3 (.int .i64 0) 8 Tryz.underlying66 info3 rfl .i64 .i64 la (by omega) (by omega)
 go_enter Tryz.func189,Tryz.ntmps189
 go_wp2_with (go_at_call 141; refine (two_calls _ _ _ _ _ _ _).mono ?_; rintro e w1 ⟨rfl,hw⟩; rw [H0.out])
 go_loopw [20] (fun i wr=>∃ k:Nat,k<=la/\i=.int .i64 k/\wr.rowIs w1.heap.size 3 la (rowTo (plusG xs ys) k)/\Below w.heap.size w wr) (fun i _=>la - (intOf i).toNat)
 case atStart=>exact ⟨0,Nat.zero_le _,rfl,ZaG (World.rowIs_made _ _ _ _),hw.alloc hw.size _⟩
 case round =>
  obtain ⟨k,hk,rfl,hrow,hbel⟩:=hrel
  have ha':=ha.below hbel nr
  have hb':=hb.below hbel nr
  have hsz:=hw.size
  clear ha hb hw hmk
  by_cases hlt:k < la
  ·obtain ⟨b1,o1,x,rfl,_,c1,HX⟩:=ha'.at1 hlt
   obtain ⟨b2,o2,y,rfl,_,c2,HY⟩:=hb'.at1 hlt
   have c3:=Zax hrow hlt
   have f3:=hrow.frozen k
   go_wp2
   go_region_with ((go_at_call 200; refine (add_calls _ _ _).mono ?_; rintro e w' ⟨rfl,rfl⟩))
   all_goals go_wp2
   all_goals
    go_roundw
    case rel =>
     have st:=Zaw (g:=plusG xs ys) hrow
     simp only [plusG,HX.out,HY.out] at st
     exact ⟨k+1,by omega,by go_num,st,(hbel.setCell (by omega) _).drew⟩
    case measure=>simp [intOf]; omega
  ·go_wp2
   go_ret2
   obtain rfl:k=la:=by omega
   exact ⟨_,rfl,hsz,hrow,hbel⟩
theorem vBack_row (R C:Nat) (a:Option Addr) (cap:Nat) (xs:List Int) (v:Option Addr) (cv:Nat) (ys:List Int) (w:World) (ha:Lst w a (R * C) cap xs) (hv:Lst w v R cv ys) (hR1:1<=R) (hR2:R<=4) (hC1:1<=C) (hC2:C<=4) (hx:rightB xs=true) :
  Calls Tryz.prog 219 #[.agg #[.int .i64 R,.int .i64 C,.slice a (R * C) cap],.slice v R cv] w fun e w'=>∃ g,e=.returned (.tuple #[.slice (some ⟨g,0,none⟩) C C,.int .i64 0])/\w.heap.size<=g/\w'.rowIs g 3 C (rowTo (backG xs ys R C) C)/\Below w.heap.size w w':=by
 have hal:=(Below.refl w.heap.size w).alloc nr (.cells #[.int .i64 R,.int .i64 C,.slice a (R * C) cap] 100)
 have ha0:=ha.below hal nr
 have H0:Hid (bothI R C (R * C) xs R R=0):=by
  show bothI R C (R * C) xs R R=0
  unfold bothI
  rw [if_neg (by omega),if_pos (chkI_mk hR1 hR2 hC1 hC2 hx),if_pos rfl]
 have hmk:=run_make_row' (P:=Tryz.prog) 66 3 (.int .i64 0) 8 Tryz.underlying66 info3 rfl .i64 .i64 C (by omega) (by omega)
 go_enter Tryz.func219,Tryz.ntmps219
 go_wp2_with (go_at_call 223; refine (both_calls _ _ _ _ _ xs _ _ _ _ _ ha0).mono ?_; rintro e w1 ⟨rfl,hw1⟩; rw [H0.out]; obtain ⟨f0,f1,f2⟩:=box3 _ _ _ _ hw1 (by simp))
 have hbw1:=hal.trans (hw1.mono hal.size)
 have hs1:w.heap.size < w1.heap.size:=by have:=hw1.size; simp at this; omega
 go_loopw [22] (fun i wr=>∃ j:Nat,j<=C/\i=.int .i64 j/\wr.rowIs w1.heap.size 3 C (rowTo (backG xs ys R C) j)/\Below w1.heap.size w1 wr) (fun i _=>C - (intOf i).toNat)
 case atStart=>exact ⟨0,Nat.zero_le _,rfl,ZaG (World.rowIs_made _ _ _ _),br.alloc nr _⟩
 case round =>
  obtain ⟨j,hj,rfl,hrow,hbel⟩:=hrel
  have hbw:=hbw1.trans (hbel.mono (by omega))
  have ha':=ha.below hbw nr
  have hv':=hv.below hbw nr
  have g0:=(hbel.cell (p:=⟨w.heap.size,0,none⟩) hs1).trans f0
  have g1:=(hbel.cell (p:=⟨w.heap.size,1,none⟩) hs1).trans f1
  have g2:=(hbel.cell (p:=⟨w.heap.size,2,none⟩) hs1).trans f2
  have hlt1:=hrow.lt
  clear ha hv hal hmk ha0 hw1 f0 f1 f2
  by_cases hlt:j < C
  ·go_wp2_with fail
   refine (column_calls R C j a cap xs _ ha' hR2 hC2 hlt).mono ?_
   rintro e w2 ⟨a2,c2,rfl,hrw,hb2⟩
   have hv2:=hv'.below hb2 nr
   have hrow2:=Zbg hrow hb2 hlt1
   go_wp2_with fail
   refine (dot_calls a2 v R c2 cv _ ys _ hrw hv2 (by omega)).mono ?_
   rintro e w3 ⟨rfl,nd,rfl⟩
   have c3:=Zax hrow2 hlt
   have f3:=hrow2.frozen j
   go_wp2
   go_roundw
   case rel =>
    have st:=Zaw (g:=backG xs ys R C) hrow2
    exact ⟨j+1,by omega,by go_num,Zap st _,Zab ((hbel.trans (hb2.mono hbel.size)).setCell nr _) _⟩
   case measure=>simp [intOf]; omega
  ·go_wp2
   go_ret2
   obtain rfl:j=C:=by omega
   exact ⟨_,rfl,by have:=hbw1.size; omega,hrow,hbw⟩
theorem less_calls (a b:Option Addr) (la ca cb:Nat) (xs ys:List Int) (w:World) (ha:Lst w a la ca xs) (hb:Lst w b la cb ys) (hl:la<=200) :
  Calls Tryz.prog 97 #[.slice a la ca,.slice b la cb] w fun e w'=>∃ g,e=.returned (.slice (some ⟨g,0,none⟩) la la)/\w.heap.size<=g/\Lst w' (some ⟨g,0,none⟩) la la ((List.range la).map (lessG xs ys))/\Below w.heap.size w w':=by
 have hmk:=run_make_row' (P:=Tryz.prog) 66 3 (.int .i64 0) 8 Tryz.underlying66 info3 rfl .i64 .i64 la (by omega) (by omega)
 go_enter Tryz.func97,Tryz.ntmps97
 go_wp2
 go_loopw [12] (fun i wr=>∃ k:Nat,k<=la/\i=.int .i64 k/\wr.rowIs w.heap.size 3 la (rowTo (lessG xs ys) k)/\Below w.heap.size w wr) (fun i _=>la - (intOf i).toNat)
 case atStart=>exact ⟨0,Nat.zero_le _,rfl,ZaG (World.rowIs_made _ _ _ _),br.alloc nr _⟩
 case round =>
  obtain ⟨k,hk,rfl,hrow,hbel⟩:=hrel
  have ha':=ha.below hbel nr
  have hb':=hb.below hbel nr
  clear ha hb hmk
  by_cases hlt:k < la
  ·obtain ⟨b1,o1,x,rfl,_,c1,HX⟩:=ha'.at1 hlt
   obtain ⟨b2,o2,y,rfl,_,c2,HY⟩:=hb'.at1 hlt
   have c3:=Zax hrow hlt
   have f3:=hrow.frozen k
   go_wp2
   go_region_with ((go_at_call 140; refine (sub_calls _ _ _).mono ?_; rintro e w' ⟨rfl,rfl⟩))
   all_goals go_wp2
   all_goals
    go_roundw
    case rel =>
     have st:=Zaw (g:=lessG xs ys) hrow
     simp only [lessG,HX.out,HY.out] at st
     exact ⟨k+1,by omega,by go_num,st,(hbel.setCell nr _).drew⟩
    case measure=>simp [intOf]; omega
  ·go_wp2
   go_ret
   obtain rfl:k=la:=by omega
   exact ⟨_,rfl,nr,Zbe hrow,hbel⟩
def layG (xs bs ys:List Int) (C i:Nat):Int:=addI (mulG xs ys C i) (bs.getD i 0)
theorem Zbv (g:Nat->Int) (n i:Nat) (h:i < n):((List.range n).map g).getD i 0=g i:=by simp [h]
theorem vMul_good (R C:Nat) (a:Option Addr) (cap:Nat) (xs:List Int) (v:Option Addr) (cv:Nat) (ys:List Int) (w:World) (ha:Lst w a (R * C) cap xs) (hv:Lst w v C cv ys) (hR1:1<=R) (hR2:R<=4) (hC1:1<=C) (hC2:C<=4) (hx:rightB xs=true) :
  Calls Tryz.prog 197 #[.agg #[.int .i64 R,.int .i64 C,.slice a (R * C) cap],.slice v C cv] w fun e w'=>∃ a',e=.returned (.tuple #[.slice a' R R,.int .i64 0])/\Lst w' a' R R ((List.range R).map (mulG xs ys C))/\Below w.heap.size w w':=by
 have H0:bothI R C (R * C) xs C C=0:=by
  unfold bothI
  rw [if_neg (by omega),if_pos (chkI_mk hR1 hR2 hC1 hC2 hx),if_pos rfl]
 refine (vMul_calls R C a (R * C) cap xs v C cv ys w ha hv).mono ?_
 rintro e w' ⟨a',n,rfl,_,hl,hb⟩
 unfold mulL at hl
 rw [if_pos H0] at hl
 simp only [Int.toNat_natCast] at hl
 obtain rfl:R=n:=by rw [← hl.len]; simp
 exact ⟨a',by rw [H0],hl,hb⟩
theorem layer_calls (R C:Nat) (a:Option Addr) (cap:Nat) (xs:List Int) (b:Option Addr) (cb:Nat) (bs:List Int) (v:Option Addr) (cv:Nat) (ys:List Int) (w:World) (ha:Lst w a (R * C) cap xs) (hb:Lst w b R cb bs) (hv:Lst w v C cv ys) (hR1:1<=R) (hR2:R<=4) (hC1:1<=C) (hC2:C<=4) (hx:rightB xs=true) :
  Calls Tryz.prog 139 #[.agg #[.int .i64 R,.int .i64 C,.slice a (R * C) cap],.slice b R cb,.slice v C cv] w fun e w'=>∃ g,e=.returned (.slice (some ⟨g,0,none⟩) R R)/\w.heap.size<=g/\w'.rowIs g 3 R (rowTo (layG xs bs ys C) R)/\Below w.heap.size w w':=by
 have hal:=(Below.refl w.heap.size w).alloc nr (.cells #[.int .i64 R,.int .i64 C,.slice a (R * C) cap] 100)
 have hcall:=vMul_good R C a cap xs v cv ys _ (ha.below hal nr) (hv.below hal nr) hR1 hR2 hC1 hC2 hx
 go_enter Tryz.func139,Tryz.ntmps139
 go_wp2_with fail
 refine hcall.mono ?_
 rintro e w1 ⟨a1,rfl,hl1,hw1⟩
 have hbw:=hal.trans (hw1.mono hal.size)
 have hcall2:=vSum_row a1 b R R cb _ bs w1 hl1 (hb.below hbw nr) (by omega)
 clear hcall hal hw1 hl1
 go_wp2_with fail
 refine hcall2.mono ?_
 rintro e w2 ⟨g,rfl,hg,hrow,hw2⟩
 go_wp2
 go_ret
 refine ⟨g,rfl,Nat.le_trans hbw.size hg,hrow.congr (fun i hi=>?_),hbw.trans (hw2.mono hbw.size)⟩
 unfold rowTo plusG layG
 rw [if_pos hi,if_pos hi,Zbv _ _ _ hi]
theorem Zcn (a:Option Addr) (la ca:Nat) (xs:List Int) (w:World) (ha:Lst w a la ca xs) (h63:la<=9223372036854775806) :
  Calls Tryz.prog 93 #[.slice a la ca] w fun e w'=>e=.returned (.bool (rightB xs))/\w'=w:=by
 go_enter Tryz.func93,Tryz.ntmps93
 go_wp2
 go_loopw [7] (fun i wr=>∃ k:Nat,k<=la/\i=.int .i64 k/\Hid (∀ j,j < k->xs.getD j 0=clampI (xs.getD j 0))/\wr=w) (fun i _=>la - (intOf i).toNat)
 case atStart=>exact ⟨0,Nat.zero_le _,rfl,fun j hj=>by omega,rfl⟩
 case round =>
  obtain ⟨k,hk,rfl,hg,hw⟩:=hrel
  replace hw:=hw.symm
  subst hw
  by_cases hlt:k < la
  ·obtain ⟨b1,o1,x,rfl,s1,c1,HX⟩:=ha.at1 hlt
   by_cases hx:x=clampI x
   ·have hx':(x != clampI x)=false:=by rw [bne_eq_false_iff_eq]; exact hx
    have HC:Hid (x=clampI x):=hx
    clear hx
    go_wp2_with (go_at_call 137; refine (ZaR _ _).mono ?_; rintro e w' ⟨rfl,hw'⟩; replace hw':=hw'.symm; subst hw')
    go_roundw
    case rel=>exact ⟨k+1,by omega,by go_num,fun j hj=>by
     by_cases e:j=k
     ·subst e; rw [HX.out]; exact HC.out
     ·exact hg.out j (by omega),by trivial⟩
    case measure=>simp [intOf]; omega
   ·have hx':(x != clampI x)=true:=by rw [bne_iff_ne]; exact hx
    go_wp2_with (go_at_call 137; refine (ZaR _ _).mono ?_; rintro e w' ⟨rfl,hw'⟩; replace hw':=hw'.symm; subst hw')
    go_ret
    exact ⟨Zai (Zck (k:=k) (by rw [HX.out]; exact hx)).symm,rfl⟩
  ·go_wp2
   go_ret
   exact ⟨Zai (ZbC (fun j hj=>hg.out j (by have:=ha.len; omega))).symm,rfl⟩
theorem pcheck_calls (p:Pup) (d:PD) (w:World) (h:InPup w p d) :
  Calls Tryz.prog 138 #[p.val] w fun e w'=>e=.returned (.int .i64 (pchk p d))/\Below w.heap.size w w':=by
 obtain ⟨r1,c1,a1,n1,k1,r2,c2,a2,n2,k2,d1,m1,e1,d2,m2,e2⟩:=p
 obtain ⟨X1,X2,B1,B2⟩:=d
 obtain ⟨hx1,hx2,hb1,hb2⟩:=h
 simp only [Pup.val,Pup.cells] at *
 have hal:=(Below.refl w.heap.size w).alloc nr (.cells #[.int .i64 r1,.int .i64 c1,.slice a1 n1 k1,.int .i64 r2,.int .i64 c2,.slice a2 n2 k2,.slice d1 m1 e1,.slice d2 m2 e2] 102)
 have hx1:=hx1.below hal nr
 go_enter Tryz.func138,Tryz.ntmps138
 go_wp2_with fail
 refine (ZbF _ _ _ _ _ X1 _ hx1).mono ?_
 rintro e w1 ⟨rfl,hw1⟩
 have hbw:=hal.trans (hw1.mono hal.size)
 have hx2:=hx2.below hbw nr
 obtain ⟨f0,f1,f2,f3,f4,f5,f6,f7⟩:=box8 hw1 (by simp)
 rcases chkI_cases r1 c1 n1 X1 with h1 | ⟨h1,t1,_⟩
 ·have G1:Hid (chkI r1 c1 n1 X1=0):=h1
  clear h1 hx1
  rw [G1.out]
  go_wp2_with fail
  refine (ZbF _ _ _ _ _ X2 _ hx2).mono ?_
  rintro e w2 ⟨rfl,hw2⟩
  clear hx2 f0 f1 f2 f3 f4 f5 f6 f7
  have hbw2:=hbw.trans (hw2.mono hbw.size)
  obtain ⟨f0,f1,f2,f3,f4,f5,f6,f7⟩:=box8 (hw1.trans (hw2.mono hw1.size)) (by simp)
  have hb1:=hb1.below hbw2 nr
  have hb2:=hb2.below hbw2 nr
  clear hw1 hw2 hbw hal
  rcases chkI_cases r2 c2 n2 X2 with h2 | ⟨h2,t2,_⟩
  ·have G2:Hid (chkI r2 c2 n2 X2=0):=h2
   clear h2
   rw [G2.out]
   obtain ⟨R1,C1,rfl,rfl,p1,p2,p3,p4,rfl,g1⟩:=Zcl G1.out
   obtain ⟨R2,C2,rfl,rfl,q1,q2,q3,q4,rfl,g2⟩:=Zcl G2.out
   by_cases u1:C2=R1
   ·have s1:((C2:Int) != (R1:Int))=false:=by rw [bne_eq_false_iff_eq]; omega
    by_cases u2:m1=R1
    ·have s2:((m1:Int) != (R1:Int))=false:=by rw [bne_eq_false_iff_eq]; omega
     by_cases u3:m2=R2
     ·have s3:((m2:Int) != (R2:Int))=false:=by rw [bne_eq_false_iff_eq]; omega
      have HU:Hid (((C2:Int)=(R1:Int)/\(m1:Int)=(R1:Int)/\(m2:Int)=(R2:Int))):=⟨by omega,by omega,by omega⟩
      have l1:m1<=4:=by omega
      have l2:m2<=4:=by omega
      clear u1 u2 u3
      go_wp2_with fail
      refine (Zcn _ _ _ B1 _ hb1 (by omega)).mono ?_
      rintro e w3 ⟨rfl,hw3⟩
      replace hw3:=hw3.symm
      subst hw3
      cases z1:rightB B1 with
      | false =>
        go_wp2
        go_ret
        exact ⟨Zad (by unfold pchk; dsimp only; rw [if_pos G1.out,if_pos G2.out,if_neg (fun h=>by have:=h.2.1; rw [z1] at this; cases this)]),hbw2⟩
      | true =>
        go_wp2_with fail
        refine (Zcn _ _ _ B2 _ hb2 (by omega)).mono ?_
        rintro e w3 ⟨rfl,hw3⟩
        replace hw3:=hw3.symm
        subst hw3
        cases z2:rightB B2 with
        | false =>
          go_wp2
          go_ret
          exact ⟨Zad (by unfold pchk; dsimp only; rw [if_pos G1.out,if_pos G2.out,if_neg (fun h=>by have:=h.2.2; rw [z2] at this; cases this)]),hbw2⟩
        | true =>
          go_wp2
          go_ret
          exact ⟨Zad (by unfold pchk; dsimp only; rw [if_pos G1.out,if_pos G2.out,if_pos ⟨HU.out,z1,z2⟩]),hbw2⟩
     ·have s3:((m2:Int) != (R2:Int))=true:=by rw [bne_iff_ne]; omega
      clear u1 u2
      go_wp2
      go_ret
      exact ⟨Zad (by unfold pchk; dsimp only; rw [if_pos G1.out,if_pos G2.out,if_neg (by omega)]),hbw2⟩
    ·have s2:((m1:Int) != (R1:Int))=true:=by rw [bne_iff_ne]; omega
     clear u1
     go_wp2
     go_ret
     exact ⟨Zad (by unfold pchk; dsimp only; rw [if_pos G1.out,if_pos G2.out,if_neg (by omega)]),hbw2⟩
   ·have s1:((C2:Int) != (R1:Int))=true:=by rw [bne_iff_ne]; omega
    go_wp2
    go_ret
    exact ⟨Zad (by unfold pchk; dsimp only; rw [if_pos G1.out,if_pos G2.out,if_neg (by omega)]),hbw2⟩
  ·go_wp2
   go_ret
   exact ⟨Zad (by unfold pchk; dsimp only; rw [if_pos G1.out,if_neg h2]),hbw2⟩
 ·go_wp2
  go_ret
  exact ⟨Zad (by unfold pchk; dsimp only; rw [if_neg h1]),hbw⟩
def pos0 (n:Int):Int:=if n < 0 then 0 else n
def hidG (d:PD) (xs:List Int) (I i:Nat):Int:=pos0 (layG d.X1 d.B1 xs I i)
def hidL (d:PD) (xs:List Int) (I H:Nat):List Int:=(List.range H).map (hidG d xs I)
def outG (d:PD) (xs:List Int) (I H i:Nat):Int:=layG d.X2 d.B2 (hidL d xs I H) H i
def outYL (d:PD) (xs:List Int) (I H O:Nat):List Int:=(List.range O).map (outG d xs I H)
def midTo (g1 g2:Nat->Int) (k i:Nat):Value:=if i < k then .int .i64 (g1 i) else .int .i64 (g2 i)
theorem ZcF {w:World} {b t n k:Nat} {g1 g2:Nat->Int} (h:w.rowIs b t n (midTo g1 g2 k)):(w.setCell ⟨b,k,none⟩ (.int .i64 (g1 k))).rowIs b t n (midTo g1 g2 (k+1)):=by
 refine (h.set k (.int .i64 (g1 k))).congr (fun i _=>?_)
 unfold midTo
 by_cases e:i=k
 ·subst e; rw [if_pos rfl,if_pos (by omega)]
 ·rw [if_neg e]
  by_cases e2:i < k
  ·rw [if_pos e2,if_pos (by omega)]
  ·rw [if_neg e2,if_neg (by omega)]
theorem midTo_skip {w:World} {b t n k:Nat} {g1 g2:Nat->Int} (h:w.rowIs b t n (midTo g1 g2 k)) (e:g1 k=g2 k):w.rowIs b t n (midTo g1 g2 (k+1)):=by
 refine h.congr (fun i _=>?_)
 unfold midTo
 by_cases e1:i=k
 ·subst e1; rw [if_neg (by omega),if_pos (by omega),e]
 ·by_cases e2:i < k
  ·rw [if_pos e2,if_pos (by omega)]
  ·rw [if_neg e2,if_neg (by omega)]
theorem ZcT {w:World} {b t n:Nat} {g1 g2:Nat->Int} (h:w.rowIs b t n (rowTo g2 n)):w.rowIs b t n (midTo g1 g2 0) :=
 h.congr (fun i hi=>by unfold rowTo midTo; rw [if_pos hi,if_neg (by omega)])
theorem midTo_cell {w:World} {b t n k:Nat} {g1 g2:Nat->Int} (h:w.rowIs b t n (midTo g1 g2 k)) (hk:k < n):w.cell? ⟨b,k,none⟩=some (.int .i64 (g2 k)):=by
 rw [h.cell hk]; unfold midTo; rw [if_neg (by omega)]
theorem midTo_end {w:World} {b t n:Nat} {g1 g2:Nat->Int} (h:w.rowIs b t n (midTo g1 g2 n)):Lst w (some ⟨b,0,none⟩) n n ((List.range n).map g1) :=
 Lst.row h (by simp) (fun i hi=>by unfold midTo; rw [if_pos hi]; simp [hi])
theorem forward_calls (I H O:Nat) (a1:Option Addr) (k1:Nat) (a2:Option Addr) (k2:Nat) (d1:Option Addr) (e1:Nat) (d2:Option Addr) (e2:Nat) (d:PD) (v:Option Addr) (cv:Nat) (xs:List Int) (w:World) (h:InPup w (rpup I H O a1 k1 a2 k2 d1 e1 d2 e2) d) (hv:Lst w v I cv xs) (hr:RightD d) (i1:1<=I) (i2:I<=4) (j1:1<=H) (j2:H<=4) (o1:1<=O) (o2:O<=4) :
  Calls Tryz.prog 96 #[(rpup I H O a1 k1 a2 k2 d1 e1 d2 e2).val,.slice v I cv] w fun e w'=>∃ ah ay,e=.returned (.tuple #[.slice ah H H,.slice ay O O])/\Lst w' ah H H (hidL d xs I H)/\Lst w' ay O O (outYL d xs I H O)/\Below w.heap.size w w':=by
 have hal:=(Below.refl w.heap.size w).alloc nr (.cells (rpup I H O a1 k1 a2 k2 d1 e1 d2 e2).cells 102)
 have h1:=h.below hal nr
 have hcall:=layer_calls H I a1 k1 d.X1 d1 e1 d.B1 v cv xs _ h1.x1 h1.b1 (hv.below hal nr) j1 j2 i1 i2 hr.1
 have hc2:∀ q g,Below w.heap.size w q->Lst q (some ⟨g,0,none⟩) H H (hidL d xs I H)->Calls Tryz.prog 139 #[.agg #[.int .i64 O,.int .i64 H,.slice a2 (O * H) k2],.slice d2 O e2,.slice (some ⟨g,0,none⟩) H H] q fun e w'=>∃ g,e=.returned (.slice (some ⟨g,0,none⟩) O O)/\q.heap.size<=g/\w'.rowIs g 3 O (rowTo (layG d.X2 d.B2 (hidL d xs I H) H) O)/\Below q.heap.size q w':=by
  intro q g hq hl
  have hin:=h.below hq nr
  exact layer_calls O H a2 k2 d.X2 d2 e2 d.B2 _ H _ q hin.x2 hin.b2 hl o1 o2 j1 j2 hr.2.1
 have HC:Hid (∀ q g,Below w.heap.size w q->Lst q (some ⟨g,0,none⟩) H H (hidL d xs I H)->Calls Tryz.prog 139 #[.agg #[.int .i64 O,.int .i64 H,.slice a2 (O * H) k2],.slice d2 O e2,.slice (some ⟨g,0,none⟩) H H] q fun e w'=>∃ g,e=.returned (.slice (some ⟨g,0,none⟩) O O)/\q.heap.size<=g/\w'.rowIs g 3 O (rowTo (layG d.X2 d.B2 (hidL d xs I H) H) O)/\Below q.heap.size q w'):=hc2
 clear hc2 h1 h hv
 simp only [Pup.val,Pup.cells,rpup] at *
 go_enter Tryz.func96,Tryz.ntmps96
 go_wp2_with fail
 refine hcall.mono ?_
 rintro e w1 ⟨g,rfl,hg,hrow,hw1⟩
 have hg1:w.heap.size+1<=g:=by simpa using hg
 have T1:Below (w.heap.size+1) _ w1:=hw1.mono (by simp)
 clear hcall hw1 hg
 go_wp2
 go_loopw [16] (fun i wr=>∃ k:Nat,k<=H/\i=.int .i64 k/\wr.rowIs g 3 H (midTo (hidG d xs I) (layG d.X1 d.B1 xs I) k)/\Below (w.heap.size+1) (w.alloc (.cells #[.int .i64 H,.int .i64 I,.slice a1 (H * I) k1,.int .i64 O,.int .i64 H,.slice a2 (O * H) k2,.slice d1 H e1,.slice d2 O e2] 102)) wr) (fun i _=>H - (intOf i).toNat)
 case atStart=>exact ⟨0,Nat.zero_le _,rfl,ZcT hrow,T1⟩
 case round =>
  obtain ⟨k,hk,rfl,hrow,hbel⟩:=hrel
  by_cases hlt:k < H
  ·have c3:=midTo_cell hrow hlt
   have f3:=hrow.frozen k
   obtain ⟨x,HX⟩:=nm (layG d.X1 d.B1 xs I k)
   rw [HX.out] at c3
   by_cases hx:x < 0
   ·have HG:Hid (hidG d xs I k=0):=by show pos0 (layG d.X1 d.B1 xs I k)=0; rw [HX.out]; exact if_pos hx
    go_wp2
    go_roundw
    case rel =>
     have st:=ZcF hrow
     rw [HG.out] at st
     exact ⟨k+1,by omega,by go_num,st,hbel.setCell (by exact hg1) _⟩
    case measure=>simp [intOf]; omega
   ·have HG:Hid (hidG d xs I k=x):=by show pos0 (layG d.X1 d.B1 xs I k)=x; rw [HX.out]; exact if_neg hx
    go_wp2
    go_roundw
    case rel =>
     have st:=ZcF hrow
     rw [HG.out] at st
     exact ⟨k+1,by omega,by go_num,st,hbel.setCell (by exact hg1) _⟩
    case measure=>simp [intOf]; omega
  ·obtain rfl:k=H:=by omega
   have hh:=midTo_end hrow
   obtain ⟨f0,f1,f2,f3,f4,f5,f6,f7⟩:=box8 hbel (Nat.lt_succ_self _)
   have hbw:=hal.trans (hbel.mono (by omega))
   have hcall:=HC.out wr g hbw hh
   clear hrow
   go_wp2_with fail
   refine hcall.mono ?_
   rintro e w2 ⟨g2,rfl,hg2,hrow2,hw2⟩
   go_wp2
   go_ret2
   exact ⟨_,_,rfl,hh.below hw2 nr,Zbe hrow2,hbw.trans (hw2.mono hbw.size)⟩
def exI (p:Pup) (d:PD) (n m:Nat):Int:=if pchk p d=0 then (if (n:Int)=p.c1/\(m:Int)=p.r2 then 0 else 5) else pchk p d
theorem boxA {w wr:World} {B:Nat} {v0 v1 v2 v3 v4 v5 v6 v7:Value} {t:TypeId} {o:Obj} (hb:Below B ((w.alloc (.cells #[v0,v1,v2,v3,v4,v5,v6,v7] t)).alloc o) wr) (hB:w.heap.size < B) :
  Box8 wr w.heap.size v0 v1 v2 v3 v4 v5 v6 v7 :=
 box8 (B:=w.heap.size+1) ((br.alloc (by simp) o).trans (hb.mono hB)) (Nat.lt_succ_self _)
theorem boxE {w wr:World} {B:Nat} {v0 v1:Value} {t:TypeId} {o:Obj} (hb:Below B ((w.alloc o).alloc (.cells #[v0,v1] t)) wr) (hB:w.heap.size+1 < B) :
  wr.cell? ⟨w.heap.size+1,0,none⟩=some v0/\wr.cell? ⟨w.heap.size+1,1,none⟩=some v1:=by
 have h:=box2 hb (by simpa using hB)
 simpa using h
theorem pboth_calls (p:Pup) (d:PD) (x:Exm) (w:World) (hp:InPup w p d) :
  Calls Tryz.prog 95 #[p.val,x.val] w fun e w'=>e=.returned (.int .i64 (exI p d x.n x.m))/\Below w.heap.size w w':=by
 have hal0:=(Below.refl w.heap.size w).alloc nr (.cells p.cells 102)
 have hal:=hal0.alloc hal0.size (.cells #[.slice x.a x.n x.k,.slice x.b x.m x.t] 78)
 have hcall:=pcheck_calls p d _ (hp.below hal nr)
 clear hal0 hp
 unfold exI
 obtain ⟨r1,c1,a1,n1,k1,r2,c2,a2,n2,k2,d1,m1,t1,d2,m2,t2⟩:=p
 obtain ⟨xa,xn,xk,xb,xm,xt⟩:=x
 generalize pchk ⟨r1,c1,a1,n1,k1,r2,c2,a2,n2,k2,d1,m1,t1,d2,m2,t2⟩ d=E at *
 simp only [Pup.val,Pup.cells,Exm.val] at *
 obtain ⟨V,HV⟩:=nm ((if E=0 then (if (xn:Int)=c1/\(xm:Int)=r2 then 0 else 5) else E))
 rw [HV.out]
 go_enter Tryz.func95,Tryz.ntmps95
 go_wp2_with fail
 refine hcall.mono ?_
 rintro e w1 ⟨rfl,hw1⟩
 have hbw:=hal.trans (hw1.mono hal.size)
 obtain ⟨f0,f1,f2,f3,f4,f5,f6,f7⟩:=boxA hw1 (by simp; omega)
 obtain ⟨x0,x1⟩:=boxE hw1 (by simp)
 clear hcall hw1 hal
 by_cases hE:E=0
 ·subst hE
  by_cases h1:(xn:Int)=c1
  ·have u1:((xn:Int) != c1)=false:=by rw [bne_eq_false_iff_eq]; exact h1
   have H1:Hid ((xn:Int)=c1):=h1
   clear h1
   by_cases h2:(xm:Int)=r2
   ·have u2:((xm:Int) != r2)=false:=by rw [bne_eq_false_iff_eq]; exact h2
    have H2:Hid ((xm:Int)=r2):=h2
    clear h2
    go_wp2
    go_ret
    exact ⟨Zad (by rw [← HV.out]; simp [H1.out,H2.out]),hbw⟩
   ·have u2:((xm:Int) != r2)=true:=by rw [bne_iff_ne]; exact h2
    go_wp2
    go_ret
    exact ⟨Zad (by rw [← HV.out]; simp [h2]),hbw⟩
  ·have u1:((xn:Int) != c1)=true:=by rw [bne_iff_ne]; exact h1
   go_wp2
   go_ret
   exact ⟨Zad (by rw [← HV.out]; simp [h1]),hbw⟩
 ·have hE':(E != 0)=true:=by rw [bne_iff_ne]; exact hE
  go_wp2
  go_ret
  exact ⟨Zad (by rw [← HV.out,if_neg hE]),hbw⟩
def difL (d:PD) (xs ys:List Int) (I H O:Nat):List Int:=(List.range O).map (lessG (outYL d xs I H O) ys)
def lossI (d:PD) (xs ys:List Int) (I H O:Nat):Int:=dotTo (difL d xs ys I H O) (difL d xs ys I H O) O
theorem ploss_good (I H O:Nat) (a1:Option Addr) (k1:Nat) (a2:Option Addr) (k2:Nat) (d1:Option Addr) (e1:Nat) (d2:Option Addr) (e2:Nat) (d:PD) (v:Option Addr) (cv:Nat) (xs:List Int) (u:Option Addr) (cu:Nat) (ys:List Int) (w:World) (h:InPup w (rpup I H O a1 k1 a2 k2 d1 e1 d2 e2) d) (hv:Lst w v I cv xs) (hu:Lst w u O cu ys) (hr:RightD d) (i1:1<=I) (i2:I<=4) (j1:1<=H) (j2:H<=4) (o1:1<=O) (o2:O<=4) :
  Calls Tryz.prog 60 #[(rpup I H O a1 k1 a2 k2 d1 e1 d2 e2).val,.agg #[.slice v I cv,.slice u O cu]] w fun e w'=>e=.returned (.tuple #[.int .i64 (lossI d xs ys I H O),.int .i64 0])/\Below w.heap.size w w':=by
 have hal0:=(Below.refl w.heap.size w).alloc nr (.cells (rpup I H O a1 k1 a2 k2 d1 e1 d2 e2).cells 102)
 have hal:=hal0.alloc hal0.size (.cells #[.slice v I cv,.slice u O cu] 78)
 have hcall:=pboth_calls _ d ⟨v,I,cv,u,O,cu⟩ _ (h.below hal nr)
 have hz:exI (rpup I H O a1 k1 a2 k2 d1 e1 d2 e2) d I O=0:=by
  unfold exI
  rw [if_pos (pchk_right i1 i2 j1 j2 o1 o2 hr),if_pos ⟨rfl,rfl⟩]
 rw [hz] at hcall
 have hc2:∀ q,Below w.heap.size w q->Calls Tryz.prog 96 #[(rpup I H O a1 k1 a2 k2 d1 e1 d2 e2).val,.slice v I cv] q fun e w'=>∃ ah ay,e=.returned (.tuple #[.slice ah H H,.slice ay O O])/\Lst w' ah H H (hidL d xs I H)/\Lst w' ay O O (outYL d xs I H O)/\Below q.heap.size q w' :=
  fun q hq=>forward_calls I H O a1 k1 a2 k2 d1 e1 d2 e2 d v cv xs q (h.below hq nr) (hv.below hq nr) hr i1 i2 j1 j2 o1 o2
 have H2:Hid (twoI O O=0):=by
  show twoI O O=0
  unfold twoI
  rw [if_neg (by omega),if_pos rfl]
 clear h hv hal0 hz
 simp only [Pup.val,Pup.cells,rpup,Exm.val] at *
 go_enter Tryz.func60,Tryz.ntmps60
 go_wp2_with fail
 refine hcall.mono ?_
 rintro e w1 ⟨rfl,hw1⟩
 have hbw:=hal.trans (hw1.mono hal.size)
 obtain ⟨f0,f1,f2,f3,f4,f5,f6,f7⟩:=boxA hw1 (by simp; omega)
 obtain ⟨x0,x1⟩:=boxE hw1 (by simp)
 have hcall2:=hc2 w1 hbw
 clear hcall hc2
 go_wp2_with fail
 refine hcall2.mono ?_
 rintro e w2 ⟨ah,ay,rfl,_,hy,hw2⟩
 have hbw2:=hbw.trans (hw2.mono hbw.size)
 obtain ⟨x0',x1'⟩:=boxE (hw1.trans (hw2.mono hw1.size)) (by simp)
 have hcall3:=less_calls ay u O O cu _ ys w2 hy (hu.below hbw2 nr) (by omega)
 clear hcall2 hw1 hal hbw hw2 f0 f1 f2 f3 f4 f5 f6 f7 x0 x1
 go_wp2_with fail
 refine hcall3.mono ?_
 rintro e w3 ⟨gd,rfl,_,hd,hw3⟩
 have hcall4:=vDot_calls (some ⟨gd,0,none⟩) (some ⟨gd,0,none⟩) O O O O _ _ w3 hd hd
 rw [if_pos H2.out,H2.out] at hcall4
 clear hcall3
 go_wp2_with fail
 refine hcall4.mono ?_
 rintro e w4 ⟨rfl,hw4⟩
 have hbw3:=hbw2.trans (hw3.mono hbw2.size)
 go_wp2
 go_ret2
 exact ⟨rfl,hbw3.trans (hw4.mono hbw3.size)⟩
end Go.Proofs.YthmiojmlaclgaaaGreatDoor.Fx
