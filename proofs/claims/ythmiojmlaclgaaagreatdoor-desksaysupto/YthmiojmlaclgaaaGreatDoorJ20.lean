/- What the law stands on: RefPup RefDraw RefDrawB RefOptB. -/
import Derived.Test.YthmiojmlaclgaaaGreatDoorJ00
import Derived.Test.YthmiojmlaclgaaaGreatDoorJ14
import Derived.Test.YthmiojmlaclgaaaGreatDoorJ04
import Derived.Test.YthmiojmlaclgaaaGreatDoorJ05
import Derived.Test.YthmiojmlaclgaaaGreatDoorJ03
import Derived.Test.YthmiojmlaclgaaaGreatDoorJ13
import Derived.Test.YthmiojmlaclgaaaGreatDoorJ01
import Derived.Test.YthmiojmlaclgaaaGreatDoorJ09
import Derived.Deep.RegionHeld3
set_option maxRecDepth 100000
set_option maxHeartbeats 12800000
namespace Go.Proofs.YthmiojmlaclgaaaGreatDoor.Fx
open Go.RowKit
theorem take_snoc {xs:List Int} {t:Nat} {x:Int} (h:t < xs.length) (hx:xs.getD t 0=x):xs.take t ++ [x]=xs.take (t+1):=by
 rw [List.take_add_one,← hx]
 simp [h]
theorem rflat_calls (I H O:Nat) (a1:Option Addr) (k1:Nat) (a2:Option Addr) (k2:Nat) (d1:Option Addr) (e1:Nat) (d2:Option Addr) (e2:Nat) (d:PD) (w:World) (h:InPup w (rpup I H O a1 k1 a2 k2 d1 e1 d2 e2) d) (i2:I<=4) (j2:H<=4) (o2:O<=4) :
  Calls Tryz.prog 152 #[(rpup I H O a1 k1 a2 k2 d1 e1 d2 e2).val] w fun e w'=>∃ a n c,e=.returned (.slice a n c)/\n<=40/\Lst w' a n c (flatD d)/\Below w.heap.size w w'/\(∀ g o,a=some ⟨g,o,none⟩->w.heap.size<=g):=by
 have hal:=(Below.refl w.heap.size w).alloc nr (.cells (rpup I H O a1 k1 a2 k2 d1 e1 d2 e2).cells 102)
 obtain ⟨X1,X2,B1,B2⟩:=d
 obtain ⟨hx1,hx2,hb1,hb2⟩:=h
 simp only [Pup.val,Pup.cells,rpup] at *
 have s1:=Zae j2 i2
 have s2:=Zae o2 j2
 have hal2:=hal.alloc hal.size (.cells #[.slice a1 (H * I) k1,.slice d1 H e1,.slice a2 (O * H) k2,.slice d2 O e2] 66)
 have hr:=World.rowIs_alloc (w.alloc (.cells #[.int .i64 H,.int .i64 I,.slice a1 (H * I) k1,.int .i64 O,.int .i64 H,.slice a2 (O * H) k2,.slice d1 H e1,.slice d2 O e2] 102)) #[.slice a1 (H * I) k1,.slice d1 H e1,.slice a2 (O * H) k2,.slice d2 O e2] 66 (fun i=>.slice (four a1 d1 a2 d2 i) (four (H * I) H (O * H) O i) (four k1 e1 k2 e2 i)) (by
  intro i hi
  rcases lt_four hi with rfl | rfl | rfl | rfl <;> rfl)
 have HL:Hid (∀ i,i < 4->Lst w (four a1 d1 a2 d2 i) (four (H * I) H (O * H) O i) (four k1 e1 k2 e2 i) (four X1 B1 X2 B2 i)):=by
  intro i hi
  rcases lt_four hi with rfl | rfl | rfl | rfl
  ·exact hx1
  ·exact hb1
  ·exact hx2
  ·exact hb2
 have HT:Hid (∀ i,i < 4->four (H * I) H (O * H) O i<=16):=by
  intro i hi
  rcases lt_four hi with rfl | rfl | rfl | rfl
  ·exact s1
  ·show H<=16; omega
  ·exact s2
  ·show O<=16; omega
 have HN:Hid (∀ j,j<=4->(catTo (four X1 B1 X2 B2) j).length<=40):=by
  intro j hj
  rw [catTo_len (four X1 B1 X2 B2) (four (H * I) H (O * H) O) j (fun i hi=>(HL.out i (by omega)).len)]
  refine Nat.le_trans (ZcK _ hj) ?_
  show 0+H * I+H+O * H+O<=40
  omega
 have HE:Hid (catTo (four X1 B1 X2 B2) 4=X1 ++ (B1 ++ (X2 ++ B2))):=by
  show (([] ++ X1) ++ B1 ++ X2) ++ B2=_
  simp [List.append_assoc]
 simp at hr
 clear hx1 hx2 hb1 hb2 s1 s2
 go_enter Tryz.func152,Tryz.ntmps152
 go_wp2
 generalize hW:(w.alloc (.cells #[.int .i64 H,.int .i64 I,.slice a1 (H * I) k1,.int .i64 O,.int .i64 H,.slice a2 (O * H) k2,.slice d1 H e1,.slice d2 O e2] 102)).alloc (.cells #[.slice a1 (H * I) k1,.slice d1 H e1,.slice a2 (O * H) k2,.slice d2 O e2] 66)=W at hr hal2 ⊢
 have hWs:W.heap.size=w.heap.size+1+1:=by rw [← hW]; simp
 clear hW hal
 go_loopw [3,19] (fun v i wr=>∃ j:Nat,j<=4/\i=.int .i64 j/\OwnI W.heap.size wr v (catTo (four X1 B1 X2 B2) j)/\Below W.heap.size W wr) (fun _ i _=>4 - (intOf i).toNat)
 case atStart=>exact ⟨0,Nat.zero_le _,rfl,OwnI.nil _ _,br⟩
 case round =>
  obtain ⟨j,hj,rfl,hown,hbel⟩:=hrel
  by_cases hlt:j < 4
  ·have c:=(hbel.cell (p:=⟨w.heap.size+1,j,none⟩) (by show w.heap.size+1 < W.heap.size; omega)).trans (hr.cell hlt)
   have hx:=(HL.out j hlt).below hal2 nr
   have hd4:decide ((j:Int) < 4)=true:=decide_eq_true (by omega)
   have h16:=HT.out j hlt
   have hnn:=HN.out (j+1) (by omega)
   rw [catTo,List.length_append,hx.len] at hnn
   have hXl:=hx.len
   generalize four a1 d1 a2 d2 j=sa at c hx
   generalize four (H * I) H (O * H) O j=sl at c hx h16 hnn hXl
   generalize four k1 e1 k2 e2 j=sc at c hx
   go_wp2
   generalize hwr:wr=w1 at *
   clear hwr
   go_loopw [3,6] (fun v i wr=>∃ t:Nat,t<=sl/\i=.int .i64 t/\OwnI W.heap.size wr v (catTo (four X1 B1 X2 B2) j ++ (four X1 B1 X2 B2 j).take t)/\Below W.heap.size W wr) (fun _ i _=>sl - (intOf i).toNat)
   case atStart=>exact ⟨0,Nat.zero_le _,rfl,by rw [List.take_zero,List.append_nil]; exact hown,hbel⟩
   case round =>
    clear hown hbel c
    obtain ⟨t,ht,rfl,hown,hbel⟩:=hrel
    have hsz:=hbel.size
    by_cases hlt2:t < sl
    ·obtain ⟨b1,o1,x,rfl,sb1,c1,HX⟩:=hx.at1b hbel nr hlt2
     have hl1:(List.take t (four X1 B1 X2 B2 j)).length<=sl:=by rw [List.length_take]; omega
     go_wp2_with (at_builtin; refine Zaz (by rfl) _ _ (by rfl) W.heap.size _ (catTo (four X1 B1 X2 B2) j ++ (four X1 B1 X2 B2 j).take t) x wr.heap.size wr (by rfl) (by rfl) (by exact hown.alloc _) (by exact Zaf _ _ _) (by rw [List.length_append]; omega) (by simp; omega) (by exact br.alloc (by omega) _) ?_; intro v1 w3 hown1 hbel1)
     go_roundw
     case rel=>exact ⟨t+1,by omega,by go_num,hown1.congr (by rw [List.append_assoc,take_snoc (by omega) HX.out]),hbel.trans hbel1⟩
     case measure=>simp [intOf]; omega
    ·obtain rfl:t=sl:=by omega
     go_wp2
     go_roundw
     case rel=>exact ⟨j+1,by omega,by go_num,hown.congr (by rw [List.take_of_length_le (by omega)]; rfl),hbel⟩
     case measure=>simp [intOf]; omega
  ·obtain rfl:j=4:=by omega
   have hd4:decide (((4:Nat):Int) < 4)=false:=by decide
   obtain ⟨a,c,rfl,hl⟩:=hown.lst
   have hnew:∀ g o,a=some ⟨g,o,none⟩->w.heap.size<=g:=by
    rintro g o rfl
    rcases hown.blk with h0 | ⟨g',hg',hge,_⟩
    ·simp [Value.ownBlock] at h0
    ·simp [Value.ownBlock] at hg'
     have:=hal2.size
     omega
   have hn:=HN.out 4 (by omega)
   rw [HE.out] at hl hn ⊢
   go_wp2
   go_ret
   exact ⟨a,_,c,rfl,hn,hl,hal2.trans (hbel.mono hal2.size),hnew⟩
theorem rshape_good (I H O:Nat) (a:Option Addr) (len cap:Nat) (xs:List Int) (w W0:World) (ha:Lst w a len cap xs) (ha0:Lst W0 a len cap xs) (i1:1<=I) (i2:I<=4) (j1:1<=H) (j2:H<=4) (o1:1<=O) (o2:O<=4) (hlen:len=H * I+H+O * H+O) :
  Calls Tryz.prog 69 #[.int .i64 I,.int .i64 H,.int .i64 O,.slice a len cap] w fun e w'=>∃ a1 k1 a2 k2 b1 t1 b2 t2,e=.returned ((rpup I H O a1 k1 a2 k2 b1 t1 b2 t2).val)/\InPup W0 (rpup I H O a1 k1 a2 k2 b1 t1 b2 t2) (cutD I H O xs)/\Below w.heap.size w w':=by
 have hal:=(Below.refl w.heap.size w).alloc nr (.cells #[.int .i64 0,.int .i64 0,.slice none 0 0,.int .i64 0,.int .i64 0,.slice none 0 0,.slice none 0 0,.slice none 0 0] 102)
 have hrow:=ZaF w (.int .i64 0) (.int .i64 0) (.slice none 0 0) (.int .i64 0) (.int .i64 0) (.slice none 0 0) (.slice none 0 0) (.slice none 0 0) 102
 have s1:=Zae j2 i2
 have s2:=Zae o2 j2
 have s3:0 < H * I:=Nat.mul_pos (by omega) (by omega)
 have s4:0 < O * H:=Nat.mul_pos (by omega) (by omega)
 have hlc:=ha.cap
 have z1:(H:Int) * (I:Int)=((H * I:Nat):Int):=by push_cast; rfl
 have z2:(O:Int) * (H:Int)=((O * H:Nat):Int):=by push_cast; rfl
 unfold rpup cutD
 generalize H * I=P at *
 generalize O * H=Q at *
 have e2:((P:Int)+(H:Int)).toNat=P+H:=by omega
 have e3:((P:Int)+(H:Int)+(Q:Int)).toNat=P+H+Q:=by omega
 have hxl:=ha.len
 obtain ⟨g,off,rfl,hgs,hc⟩:=ha.at (by omega)
 have HLEN:Hid (len=P+H+Q+O):=hlen
 have d1:P+H<=cap:=by omega
 have d2:P+H+Q<=len:=by omega
 have d3:P+H+Q < cap:=by omega
 have hs1:=ha0.sub (by omega) 0 P (by omega) (by omega)
 have hs2:=ha0.sub (by omega) P (P+H) (by omega) (by omega)
 have hs3:=ha0.sub (by omega) (P+H) (P+H+Q) (by omega) (by omega)
 have hs4:=ha0.sub (by omega) (P+H+Q) len (by omega) (by omega)
 have n1:¬ cap=P:=by omega
 have n2:¬ cap=P+H:=by omega
 have n3:¬ cap=P+H+Q:=by omega
 clear hlen hc
 go_enter Tryz.func69,Tryz.ntmps69
 go_wp2
 generalize w.alloc (.cells #[.int .i64 0,.int .i64 0,.slice none 0 0,.int .i64 0,.int .i64 0,.slice none 0 0,.slice none 0 0,.slice none 0 0] 102)=w0 at hal hrow ⊢
 obtain ⟨f0,f1,f2,f3,f4,f5,f6,f7⟩:=Zag hrow
 have g0:=hrow.frozen 0
 have g1:=hrow.frozen 1
 have g2:=hrow.frozen 2
 have g3:=hrow.frozen 3
 have g4:=hrow.frozen 4
 have g5:=hrow.frozen 5
 have g6:=hrow.frozen 6
 have g7:=hrow.frozen 7
 go_region
 all_goals go_wp2
 have hq:=Zbm hrow (.int .i64 H) (.int .i64 I) (.slice (some ⟨g,off,none⟩) P cap) (.int .i64 O) (.int .i64 H) (.slice (some ⟨g,off+(P+H),none⟩) Q (cap - (P+H))) (.slice (some ⟨g,off+P,none⟩) H (cap - P)) (.slice (some ⟨g,off+(P+H+Q),none⟩) (len - (P+H+Q)) (cap - (P+H+Q)))
 have hqd:=hq.drew
 have hO:len - (P+H+Q)=O:=by have:=HLEN.out; omega
 have hbq:=(((((((hal.setCell (p:=⟨w.heap.size,0,none⟩) nr (.int .i64 H)).setCell (p:=⟨w.heap.size,1,none⟩) nr (.int .i64 I)).setCell (p:=⟨w.heap.size,2,none⟩) nr (.slice (some ⟨g,off,none⟩) P cap)).setCell (p:=⟨w.heap.size,3,none⟩) nr (.int .i64 O)).setCell (p:=⟨w.heap.size,4,none⟩) nr (.int .i64 H)).setCell (p:=⟨w.heap.size,5,none⟩) nr (.slice (some ⟨g,off+(P+H),none⟩) Q (cap - (P+H)))).setCell (p:=⟨w.heap.size,6,none⟩) nr (.slice (some ⟨g,off+P,none⟩) H (cap - P))).setCell (p:=⟨w.heap.size,7,none⟩) nr (.slice (some ⟨g,off+(P+H+Q),none⟩) (len - (P+H+Q)) (cap - (P+H+Q)))
 have hbq:=hbq.drew
 refine (fun (key:∀ wz:World,wz.rowIs w.heap.size 102 8 (fn8 (.int .i64 H) (.int .i64 I) (.slice (some ⟨g,off,none⟩) P cap) (.int .i64 O) (.int .i64 H) (.slice (some ⟨g,off+(P+H),none⟩) Q (cap - (P+H))) (.slice (some ⟨g,off+P,none⟩) H (cap - P)) (.slice (some ⟨g,off+(P+H+Q),none⟩) (len - (P+H+Q)) (cap - (P+H+Q))))->Below w.heap.size w wz->bodyPost Tryz.prog Tryz.f69 _ Exit.ret _ wz)=>key _ hqd hbq) ?_
 clear hqd hbq hq hal hrow f0 f1 f2 f3 f4 f5 f6 f7 g0 g1 g2 g3 g4 g5 g6 g7
 intro wz hq hbq
 obtain ⟨q0,q1,q2,q3,q4,q5,q6,q7⟩:=Zag hq
 refine bodyPost_ret (v:=Pup.val ⟨H,I,some ⟨g,off,none⟩,P,cap,O,H,some ⟨g,off+(P+H),none⟩,Q,cap - (P+H),some ⟨g,off+P,none⟩,H,cap - P,some ⟨g,off+(P+H+Q),none⟩,O,cap - (P+H+Q)⟩) (by simp [results,Tryz.results69,go_sem,Pup.val,Pup.cells,q0,q1,q2,q3,q4,q5,q6,q7,hO]) rfl ⟨_,_,_,_,_,_,_,_,rfl,⟨?_,?_,?_,?_⟩,hbq⟩
 ·have h1:=hs1
  simpa using h1
 ·have h1:=hs3
  rw [Nat.add_sub_cancel_left,← List.drop_drop] at h1
  exact h1
 ·have h1:=hs2
  rw [Nat.add_sub_cancel_left] at h1
  exact h1
 ·have h1:=hs4
  rw [hO,← List.drop_drop,← List.drop_drop] at h1
  exact h1
def idF (x:Nat):Int:=(x:Int)
theorem rShuffle_calls (seed:Int) (hs:okW seed) (epoch n:Nat) (he:epoch<=1000) (h1:1<=n) (h2:n<=16) (w:World) :
  Calls Tryz.prog 206 #[.int .u64 seed,.int .i64 epoch,.int .i64 n] w fun e w'=>∃ b c,e=.returned (.slice (some ⟨b,0,none⟩) n c)/\w.heap.size<=b/\Arr w' b c n (shufF seed epoch n)/\Below w.heap.size w w':=by
 go_enter Tryz.func206,Tryz.ntmps206
 go_wp2
 go_loopw [7,8] (fun v i wr=>∃ k:Nat,k<=n/\i=.int .i64 k/\OwnI w.heap.size wr v ((List.range k).map idF)/\Below w.heap.size w wr) (fun _ i _=>n - (intOf i).toNat)
 case atStart=>exact ⟨0,Nat.zero_le _,rfl,OwnI.nil _ _,br⟩
 case round =>
  obtain ⟨k,hk,rfl,hown,hbel⟩:=hrel
  have hsz:=hbel.size
  by_cases hlt:k < n
  ·go_wp2_with (at_builtin; refine Zaz (by rfl) _ _ (by rfl) w.heap.size _ ((List.range k).map idF) (k:Int) wr.heap.size w (by rfl) (by rfl) (by exact hown.alloc _) (by exact Zaf _ _ _) (by simp; omega) (by simp; omega) (by exact hbel.alloc hsz _) ?_; intro v1 w3 hown1 hbel1)
   go_roundw
   case rel=>exact ⟨k+1,by omega,by go_num,hown1.congr (Zay idF _ _ rfl),hbel1⟩
   case measure=>simp [intOf]; omega
  ·obtain rfl:k=n:=by omega
   obtain ⟨b,c,rfl,hb,hA0⟩:=hown.arr h1
   have hA:Arr wr b c k (shufTo seed epoch k 0):=hA0
   clear hown hA0
   generalize hwr:wr=w1 at *
   clear hwr
   go_wp2
   go_loopw [9] (fun i wr=>∃ p j:Nat,p+j+1=k/\i=.int .i64 p/\Arr wr b c k (shufTo seed epoch k j)/\Below w.heap.size w wr) (fun i _=>(intOf i).toNat)
   case atStart=>exact ⟨k - 1,0,by omega,by go_num,hA,hbel⟩
   case round =>
    obtain ⟨p,j,hp,rfl,hR,hB⟩:=hrel
    clear hA hbel
    by_cases hlt2:1<=p
    ·obtain ⟨t,ht⟩:∃ t:Nat,64 * epoch+p=t:=⟨_,rfl⟩
     have e1:(epoch:Int) * 64+(p:Int)=(t:Int):=by omega
     have kt:okW (t:Int):=⟨by omega,by omega⟩
     go_wp2_with fail
     refine (rWord_calls _ _ hs kt _).mono ?_
     rintro e w2 ⟨rfl,hw2⟩
     have HE:Hid (ofP 2 [seed,((64 * epoch+p:Nat):Int)] % ((p:Int)+1)=(placeP seed epoch p:Int)):=placeP_eq _ _ _
     have HK:Hid (okP (ofP 2 [seed,((64 * epoch+p:Nat):Int)])):=ZbO _ _
     have hle:=placeP_le seed epoch p
     have HS:Hid (swapF (shufTo seed epoch k j) p (placeP seed epoch p)=shufTo seed epoch k (j+1)):=shufTo_step hp
     generalize placeP seed epoch p=q at *
     rw [ht] at HE HK
     obtain ⟨M,hM⟩:∃ M,ofP 2 [seed,(t:Int)]=M:=⟨_,rfl⟩
     rw [hM] at HE HK ⊢
     obtain ⟨m0,m1⟩:=HK.out
     have e2:M.tmod ((p:Int)+1)=(q:Int):=by rw [Int.tmod_eq_emod_of_nonneg m0]; exact HE.out
     have e3:M % ((p:Int)+1)=(q:Int):=HE.out
     clear hM
     replace hB:=hB.trans (hw2.mono hB.size)
     replace hR:=hR.below hw2
     have hcap:=hR.cap
     have c1:=hR.cell (i:=p) (by omega)
     have c2:=hR.cell (i:=q) (by omega)
     have f1:=hR.frozen p
     have R1:=hR.set p (shufTo seed epoch k j q)
     have f3:=R1.frozen q
     have d3:=R1.cell (i:=q) (by omega)
     have hqk:q < k:=by omega
     have hpk:p < k:=by omega
     generalize (if q=p then shufTo seed epoch k j q else shufTo seed epoch k j q)=z at d3
     obtain ⟨x,hx⟩:∃ x,shufTo seed epoch k j q=x:=⟨_,rfl⟩
     obtain ⟨y,hy⟩:∃ y,shufTo seed epoch k j p=y:=⟨_,rfl⟩
     have RR:=hR.swap p q x y hx hy
     rw [hx] at c2 f3 d3
     rw [hy] at c1
     clear R1 hx hy hw2
     go_wp2
     go_roundw
     case rel=>exact ⟨p - 1,j+1,by omega,by go_num,HS.out ▸ RR,(hB.setCell hb _).setCell hb _⟩
     case measure=>simp [intOf]; omega
    ·obtain rfl:p=0:=by omega
     go_wp2
     go_ret
     obtain rfl:j=k - 1:=by omega
     exact ⟨_,_,rfl,hb,hR,hB⟩
theorem rBatch_calls (seed:Int) (hs:okW seed) (size n step:Nat) (z1:1<=size) (z2:size<=8) (h1:1<=n) (h2:n<=16) (hp:step<=39) (w:World) :
  Calls Tryz.prog 150 #[.int .u64 seed,.int .i64 size,.int .i64 n,.int .i64 step] w fun e w'=>∃ g c,e=.returned (.slice (some ⟨g,0,none⟩) size c)/\w.heap.size<=g/\Lst w' (some ⟨g,0,none⟩) size c (batchP seed size n (step * size))/\Below w.heap.size w w':=by
 have hmul:step * size<=39 * 8:=Nat.mul_le_mul hp z2
 obtain ⟨s,hsz⟩:∃ s,step * size=s:=⟨_,rfl⟩
 have e1:(step:Int) * (size:Int)=(s:Int):=by rw [← hsz]; simp
 rw [hsz] at hmul ⊢
 unfold batchP
 clear hsz
 go_enter Tryz.func150,Tryz.ntmps150
 go_wp2
 go_loopw [9,10,11,12] (fun out last v i wr=>∃ k:Nat,k<=size/\i=.int .i64 k/\LastIs seed n out last v wr/\OwnI w.heap.size wr out ((List.range k).map (batchG seed n s))/\Below w.heap.size w wr) (fun _ _ _ i _=>size - (intOf i).toNat)
 case atStart=>exact ⟨0,Nat.zero_le _,rfl,LastIs.none _ _ _ _ _,OwnI.nil _ _,br⟩
 case round =>
  obtain ⟨k,hk,rfl,⟨L,rfl,hL⟩,hown,hbel⟩:=hrel
  by_cases hlt:k < size
  ·obtain ⟨t,ht⟩:∃ t,s+k=t:=⟨_,rfl⟩
   obtain ⟨d,hd⟩:∃ d,t / n=d:=⟨_,rfl⟩
   obtain ⟨r,hr⟩:∃ r,t % n=r:=⟨_,rfl⟩
   have hrn:r < n:=by rw [← hr]; exact Nat.mod_lt _ (by omega)
   have hdt:d<=t:=by rw [← hd]; exact Nat.div_le_self _ _
   have HG:Hid (batchG seed n s k=shufF seed d n r):=by show batchG seed n s k=_; unfold batchG; rw [ht,hd,hr]
   have e2:(s:Int)+(k:Int)=(t:Int):=by omega
   have e3:(t:Int).tdiv (n:Int)=(d:Int):=by rw [← hd]; exact Int.ofNat_tdiv t n
   have e4:(t:Int).tmod (n:Int)=(r:Int):=by rw [← hr]; exact Int.ofNat_tmod t n
   have e5:IntKind.i64.wrap (d:Int)=(d:Int):=ZaK _ (by omega) (by omega)
   have hn0:((n:Int) == 0)=false:=by rw [beq_eq_false_iff_ne]; omega
   by_cases he:L=(d:Int)
   ·obtain ⟨b,c,rfl,hne,hA⟩:=hL d he
    have b0:((d:Int) != L)=false:=by rw [bne_eq_false_iff_eq]; exact he.symm
    have HL:Hid (L=(d:Int)):=he
    have c4:=hA.cell hrn
    obtain ⟨x,hx⟩:∃ x,shufF seed d n r=x:=⟨_,rfl⟩
    rw [hx] at c4 HG
    have hsz:=hbel.size
    have hcap:=hA.cap
    clear hL he hx
    go_wp2_with (at_builtin; refine ZbR (by rfl) _ _ (by rfl) w.heap.size _ ((List.range k).map (batchG seed n s)) x wr.heap.size w (by rfl) (by rfl) (by exact hown.alloc _) (by exact Zaf _ _ _) (by simp; omega) (by simp; omega) (by exact hbel.alloc hsz _) ?_; intro v1 w3 hown1 hbel1 hgr h3)
    go_roundw
    case rel=>exact ⟨k+1,by omega,by go_num,HL.out ▸ LastIs.push hne (hA.alloc _) hgr h3,hown1.congr (Zay _ _ _ HG.out),hbel1⟩
    case measure=>simp [intOf]; omega
   ·have b0:((d:Int) != L)=true:=by rw [bne_iff_ne]; exact fun e=>he e.symm
    have e6:IntKind.i64.wrap ((t:Int) / (n:Int))=(d:Int):=by rw [show (t:Int) / (n:Int)=(d:Int) from by rw [← hd]; rfl]; exact e5
    have hn1:¬ ((n:Int)=0):=by omega
    have hn2:¬ (n=0):=by omega
    clear hL he
    go_wp2
    go_region_held3 (fun _=>True) (exact True.intro) ((go_at_call 206; refine (rShuffle_calls _ hs d n (by omega) h1 h2 _).mono ?_; rintro e w2 ⟨b,c,rfl,hb,hA,hw2⟩))
    have hne:=hown.new (show wr.heap.size<=b from hb)
    have hown2:OwnI w.heap.size w2 u9 ((List.range k).map (batchG seed n s)):=hown.drew.below hw2
    have hbel2:Below w.heap.size w w2:=(Zab hbel 1).trans (hw2.mono hbel.size)
    clear hw2 hb hown hbel
    have c4:=hA.cell hrn
    obtain ⟨x,hx⟩:∃ x,shufF seed d n r=x:=⟨_,rfl⟩
    rw [hx] at c4 HG
    have hsz:=hbel2.size
    have hcap:=hA.cap
    clear hx
    go_wp2_with (at_builtin; refine ZbR (by rfl) _ _ (by rfl) w.heap.size _ ((List.range k).map (batchG seed n s)) x w2.heap.size w (by rfl) (by rfl) (by exact hown2.alloc _) (by exact Zaf _ _ _) (by simp; omega) (by simp; omega) (by exact hbel2.alloc hsz _) ?_; intro v1 w3 hown1 hbel1 hgr h3)
    go_roundw
    case rel=>exact ⟨k+1,by omega,by go_num,LastIs.push hne (hA.alloc _) hgr h3,hown1.congr (Zay _ _ _ HG.out),hbel1⟩
    case measure=>simp [intOf]; omega
  ·obtain rfl:k=size:=by omega
   obtain ⟨a1,c1,rfl,_⟩:=hown.lst' (n:=k) (by simp)
   obtain ⟨g,rfl,hg,hl1⟩:=hown.at (by simp) (by omega)
   go_wp2
   go_ret
   exact ⟨_,_,rfl,hg,hl1,hbel⟩
theorem top_abs {x:Int} (h0:0<=x):absI x=x:=by unfold absI; rw [if_neg (by omega)]
theorem top_minus {x:Int} (h0:x < 0):absI x = -x:=by unfold absI; rw [if_pos h0]
theorem rclip_calls (a:Option Addr) (la ca:Nat) (xs:List Int) (most:Int) (w:World) (ha:Lst w a la ca xs) (hl:la<=200) (hm0:0<=most) (hm1:most<=2147483647) :
  Calls Tryz.prog 156 #[.slice a la ca,.int .i64 most] w fun e w'=>∃ a' c',e=.returned (.slice a' la c')/\Lst w' a' la c' ((List.range la).map (clipG xs most la))/\Below w.heap.size w w':=by
 go_enter Tryz.func156,Tryz.ntmps156
 go_wp2
 go_loopw [5,6] (fun t i wr=>∃ k:Nat,k<=la/\i=.int .i64 k/\t=.int .i64 (topTo (clampG xs) k)/\wr=w) (fun _ i _=>la - (intOf i).toNat)
 case atStart=>exact ⟨0,Nat.zero_le _,rfl,rfl,rfl⟩
 case round =>
  obtain ⟨k,hk,rfl,rfl,hw⟩:=hrel
  replace hw:=hw.symm
  subst hw
  by_cases hlt:k < la
  ·obtain ⟨b1,o1,x,rfl,_,c1,HX⟩:=ha.at1 hlt
   have htb:=topTo_bd (g:=clampG xs) (n:=k) (fun i _=>clampG_bd xs i)
   obtain ⟨t,ht⟩:∃ t,topTo (clampG xs) k=t:=⟨_,rfl⟩
   obtain ⟨y,hy⟩:∃ y,clampI x=y:=⟨_,rfl⟩
   have HN:Hid (topTo (clampG xs) (k+1)=if t < absI y then absI y else t):=by
    show topTo (clampG xs) (k+1)=_
    rw [← ht,← hy,← HX.out]
    rfl
   have hyb:=Zav x
   rw [hy] at hyb
   have HY:Hid (clampI x=y):=hy
   rw [ht] at htb ⊢
   clear ht hy
   by_cases hneg:y < 0
   ·rw [top_minus hneg] at HN
    by_cases hgt:t < -y
    ·rw [if_pos hgt] at HN
     go_wp2_with (go_at_call 143; refine (Zaq _ _).mono ?_; rintro e w' ⟨rfl,hw'⟩; replace hw':=hw'.symm; subst hw'; rw [HY.out])
     go_roundw
     case rel=>exact ⟨k+1,by omega,by go_num,by rw [HN.out],by trivial⟩
     case measure=>simp [intOf]; omega
    ·rw [if_neg hgt] at HN
     go_wp2_with (go_at_call 143; refine (Zaq _ _).mono ?_; rintro e w' ⟨rfl,hw'⟩; replace hw':=hw'.symm; subst hw'; rw [HY.out])
     go_roundw
     case rel=>exact ⟨k+1,by omega,by go_num,by rw [HN.out],by trivial⟩
     case measure=>simp [intOf]; omega
   ·rw [top_abs (x:=y) (by omega)] at HN
    by_cases hgt:t < y
    ·rw [if_pos hgt] at HN
     go_wp2_with (go_at_call 143; refine (Zaq _ _).mono ?_; rintro e w' ⟨rfl,hw'⟩; replace hw':=hw'.symm; subst hw'; rw [HY.out])
     go_roundw
     case rel=>exact ⟨k+1,by omega,by go_num,by rw [HN.out],by trivial⟩
     case measure=>simp [intOf]; omega
    ·rw [if_neg hgt] at HN
     go_wp2_with (go_at_call 143; refine (Zaq _ _).mono ?_; rintro e w' ⟨rfl,hw'⟩; replace hw':=hw'.symm; subst hw'; rw [HY.out])
     go_roundw
     case rel=>exact ⟨k+1,by omega,by go_num,by rw [HN.out],by trivial⟩
     case measure=>simp [intOf]; omega
  ·obtain rfl:k=la:=by omega
   have htb:=topL_bd xs k
   have HT:Hid (topTo (clampG xs) k=topL xs k):=rfl
   rw [HT.out]
   obtain ⟨t,Ht⟩:=nm (topL xs k)
   rw [Ht.out] at htb ⊢
   have HG:Hid (∀ i,clipG xs most k i=if most ≠ 0/\most < t then mulI (xs.getD i 0) (divI most t) else clampI (xs.getD i 0)):=fun i=>by unfold clipG; rw [Ht.out]
   go_wp2
   go_loopw [8,9] (fun v i wr=>∃ j:Nat,j<=k/\i=.int .i64 j/\OwnI w.heap.size wr v ((List.range j).map (clipG xs most k))/\Below w.heap.size w wr) (fun _ i _=>k - (intOf i).toNat)
   case atStart=>exact ⟨0,Nat.zero_le _,rfl,OwnI.nil _ _,br⟩
   case round =>
    obtain ⟨j,hj,rfl,hown,hbel⟩:=hrel
    have hsz:=hbel.size
    by_cases hlt:j < k
    ·obtain ⟨b1,o1,x,rfl,s1,c1,HX⟩:=ha.at1b hbel nr hlt
     have HGJ:=HG.out j
     rw [HX.out] at HGJ
     clear ha HT
     by_cases h0:most=0
     ·rw [if_neg (fun g=>g.1 h0)] at HGJ
      have HZ:Hid (clipG xs most k j=clampI x):=HGJ
      have b0:(most != 0)=false:=by rw [bne_eq_false_iff_eq]; exact h0
      clear h0 HGJ HG
      go_wp2_with (first | (at_builtin; refine Zaz (by rfl) _ _ (by rfl) w.heap.size _ ((List.range j).map (clipG xs most k)) (clampI x) wr.heap.size wr (by rfl) (by rfl) (by exact hown.alloc _) (by exact Zaf _ _ _) (by simp; omega) (by simp; omega) (by exact br.alloc (by omega) _) ?_; intro v1 w3 hown1 hbel1) | (go_at_call 143; refine (Zaq _ _).mono ?_; rintro e w' ⟨rfl,hw'⟩; replace hw':=hw'.symm; subst hw'))
      go_roundw
      case rel=>exact ⟨j+1,by omega,by go_num,hown1.congr (Zay _ _ _ HZ.out),hbel.trans hbel1⟩
      case measure=>simp [intOf]; omega
     ·have b0:(most != 0)=true:=by rw [bne_iff_ne]; exact h0
      by_cases h1:most < t
      ·rw [if_pos ⟨h0,h1⟩] at HGJ
       have HZ:Hid (clipG xs most k j=mulI x (divI most t)):=HGJ
       clear h0 HGJ HG
       go_wp2
       go_region_held3 (fun q=>q.cell? ⟨b1,o1+j,none⟩=some (.int .i64 x)) (first | go_keep | exact (hbel1.cell (p:=⟨b1,o1+j,none⟩) s1).trans c1)
        (first | (refine Zcm (by rfl) _ _ (by rfl) w.heap.size _ ((List.range j).map (clipG xs most k)) (mulI x (divI most t)) wr.heap.size wr (by rfl) (by rfl) (by exact hown.drew.alloc _) (by exact Zaf _ _ _) (by simp; omega) (by simp; omega) (by exact br.drew.alloc (by simp; omega) _) ?_; intro v1 w2 hown1 hbel1) | (go_at_call 154; refine (rdiv_calls _ _ _ (by omega)).mono ?_; rintro e w' ⟨rfl,rfl⟩) | (go_at_call 111; refine (Zbc _ _ _).mono ?_; rintro e w' ⟨rfl,rfl⟩))
       all_goals
        go_wp2
        go_roundw
        case rel=>exact ⟨j+1,by omega,by go_num,hown1.congr (Zay _ _ _ HZ.out),hbel.trans hbel1⟩
        case measure=>simp [intOf]; omega
      ·rw [if_neg (fun g=>h1 g.2)] at HGJ
       have HZ:Hid (clipG xs most k j=clampI x):=HGJ
       clear h0 HGJ HG
       go_wp2_with (first | (at_builtin; refine Zaz (by rfl) _ _ (by rfl) w.heap.size _ ((List.range j).map (clipG xs most k)) (clampI x) wr.heap.size wr (by rfl) (by rfl) (by exact hown.alloc _) (by exact Zaf _ _ _) (by simp; omega) (by simp; omega) (by exact br.alloc (by omega) _) ?_; intro v1 w3 hown1 hbel1) | (go_at_call 143; refine (Zaq _ _).mono ?_; rintro e w' ⟨rfl,hw'⟩; replace hw':=hw'.symm; subst hw'))
       go_roundw
       case rel=>exact ⟨j+1,by omega,by go_num,hown1.congr (Zay _ _ _ HZ.out),hbel.trans hbel1⟩
       case measure=>simp [intOf]; omega
    ·obtain rfl:j=k:=by omega
     obtain ⟨a1,c1,rfl,hl1⟩:=hown.lst' (n:=j) (by simp)
     go_wp2
     go_ret
     exact ⟨_,_,rfl,hl1,hbel⟩
end Go.Proofs.YthmiojmlaclgaaaGreatDoor.Fx
