/- What the law stands on: OwnA ShOwn. -/
import Derived.Test.YthmiojmlaclgaaaGreatDoorJ00
import Derived.Test.YthmiojmlaclgaaaGreatDoorJ10
import Derived.Test.YthmiojmlaclgaaaGreatDoorJ02
import Derived.Test.YthmiojmlaclgaaaGreatDoorJ04
import Derived.Test.YthmiojmlaclgaaaGreatDoorJ01
import Derived.Test.YthmiojmlaclgaaaGreatDoorJ03
set_option maxRecDepth 100000
set_option maxHeartbeats 12800000
namespace Go.Proofs.YthmiojmlaclgaaaGreatDoor.Fx
open Go.RowKit

theorem shape_own (I H O:Nat) (a:Option Addr) (len cap:Nat) (xs:List Int) (w:World) (ha:Lst w a len cap xs) (i1:1<=I) (i2:I<=4) (j1:1<=H) (j2:H<=4) (o1:1<=O) (o2:O<=4) (hlen:len=H * I+H+O * H+O) (hx:rightB xs=true) :
  Calls Tryz.prog 59 #[.int .i64 I,.int .i64 H,.int .i64 O,.slice a len cap] w fun e w'=>∃ g1 g2 g3 g4:Nat,e=.returned (.tuple #[(rpup I H O (some ⟨g1,0,none⟩) (H * I) (some ⟨g2,0,none⟩) (O * H) (some ⟨g3,0,none⟩) H (some ⟨g4,0,none⟩) O).val,.int .i64 0])/\(w.heap.size<=g1/\g1 < g3/\g3 < g2/\g2 < g4)/\(∃ f1 f2 f3 f4,Arr w' g1 (H * I) (H * I) f1/\Arr w' g2 (O * H) (O * H) f2/\Arr w' g3 H H f3/\Arr w' g4 O O f4)/\InPup w' (rpup I H O (some ⟨g1,0,none⟩) (H * I) (some ⟨g2,0,none⟩) (O * H) (some ⟨g3,0,none⟩) H (some ⟨g4,0,none⟩) O) (cutD I H O xs)/\Below w.heap.size w w':=by
 have hal:=(Below.refl w.heap.size w).alloc nr (.cells #[.int .i64 0,.int .i64 0,.slice none 0 0,.int .i64 0,.int .i64 0,.slice none 0 0,.slice none 0 0,.slice none 0 0] 102)
 have ha0:=ha.below hal nr
 have si:sideB (I:Int)=true:=ZaP (by omega) (by omega)
 have sh:sideB (H:Int)=true:=ZaP (by omega) (by omega)
 have so:sideB (O:Int)=true:=ZaP (by omega) (by omega)
 have s1:=Zae j2 i2
 have s2:=Zae o2 j2
 have s3:0 < H * I:=Nat.mul_pos (by omega) (by omega)
 have s4:0 < O * H:=Nat.mul_pos (by omega) (by omega)
 have z1:(H:Int) * (I:Int)=((H * I:Nat):Int):=by push_cast; rfl
 have z2:(O:Int) * (H:Int)=((O * H:Nat):Int):=by push_cast; rfl
 have b1:0<=(H:Int) * (I:Int):=by omega
 have b2:(H:Int) * (I:Int)<=16:=by omega
 have b3:0<=(O:Int) * (H:Int):=by omega
 have b4:(O:Int) * (H:Int)<=16:=by omega
 have ht:((len:Int) != (H:Int) * (I:Int)+(H:Int)+(O:Int) * (H:Int)+(O:Int))=false:=by rw [bne_eq_false_iff_eq,z1,z2]; omega
 have Z1:Hid ((H:Int) * (I:Int)=((H * I:Nat):Int)):=z1
 have Z2:Hid ((O:Int) * (H:Int)=((O * H:Nat):Int)):=z2
 have HLEN:Hid (len=H * I+H+O * H+O):=hlen
 have hl40:len<=40:=by omega
 clear z1 z2 hlen
 go_enter Tryz.func59,Tryz.ntmps59
 go_wp2_with (first | (go_at_call 92; refine (ZaX _ _).mono ?_; rintro e w' ⟨rfl,rfl⟩) | (go_at_call 93; refine (Zcn _ _ _ xs _ ha0 (by omega)).mono ?_; rintro e w' ⟨rfl,rfl⟩; rw [hx]))
 have st0:ShSt w a len cap (fn8 (.int .i64 0) (.int .i64 0) (.slice none 0 0) (.int .i64 0) (.int .i64 0) (.slice none 0 0) (.slice none 0 0) (.slice none 0 0)) (((w.alloc (.cells #[.int .i64 0,.int .i64 0,.slice none 0 0,.int .i64 0,.int .i64 0,.slice none 0 0,.slice none 0 0,.slice none 0 0] 102)).alloc (.cells #[.slice a len cap] 66)).alloc (.cells #[.int .i64 0,.int .i64 0,.slice none 0 0,.int .i64 0,.int .i64 0,.slice none 0 0,.slice none 0 0,.slice none 0 0] 102)):=by
  refine ⟨((ZaF w (.int .i64 0) (.int .i64 0) (.slice none 0 0) (.int .i64 0) (.int .i64 0) (.slice none 0 0) (.slice none 0 0) (.slice none 0 0) 102).alloc _).alloc _,?_,?_,(hal.alloc hal.size _).alloc (by simp; omega) _⟩
  ·have h:=World.rowIs_alloc (w.alloc (.cells #[.int .i64 0,.int .i64 0,.slice none 0 0,.int .i64 0,.int .i64 0,.slice none 0 0,.slice none 0 0,.slice none 0 0] 102)) #[.slice a len cap] 66 (fun _=>.slice a len cap) (by
    intro i hi
    obtain rfl:i=0:=by simpa using hi
    rfl)
   have h:=h.alloc (.cells #[.int .i64 0,.int .i64 0,.slice none 0 0,.int .i64 0,.int .i64 0,.slice none 0 0,.slice none 0 0,.slice none 0 0] 102)
   simpa using h
  ·have h:=ZaF ((w.alloc (.cells #[.int .i64 0,.int .i64 0,.slice none 0 0,.int .i64 0,.int .i64 0,.slice none 0 0,.slice none 0 0,.slice none 0 0] 102)).alloc (.cells #[.slice a len cap] 66)) (.int .i64 0) (.int .i64 0) (.slice none 0 0) (.int .i64 0) (.int .i64 0) (.slice none 0 0) (.slice none 0 0) (.slice none 0 0) 102
   simpa using h
 generalize (((w.alloc (.cells #[.int .i64 0,.int .i64 0,.slice none 0 0,.int .i64 0,.int .i64 0,.slice none 0 0,.slice none 0 0,.slice none 0 0] 102)).alloc (.cells #[.slice a len cap] 66)).alloc (.cells #[.int .i64 0,.int .i64 0,.slice none 0 0,.int .i64 0,.int .i64 0,.slice none 0 0,.slice none 0 0,.slice none 0 0] 102))=w0 at st0 ⊢
 clear ha0 hal
 have lt0:=st0.pup.lt
 refine (Zba (H * I) (w.heap.size+1) _ Z1.out a (len) (cap) (xs) w0 w st0.bel ha st0.rst s3 (by have:=HLEN.out; omega) (by omega)).mono ?_
 rintro e p0 ⟨ar0,rfl,hr0,hq,hl0,hg⟩
 have stq:=st0.grown hg hq
 clear st0 hg hq
 obtain ⟨c0,c1,c2,c3,c4,c5,c6,c7⟩:=Zag stq.pup
 have f0:=stq.pup.frozen 0
 have f1:=stq.pup.frozen 1
 have f2:=stq.pup.frozen 2
 go_wp2_with fail
 have st1:ShSt w ar0 (len - (H * I)) (cap - (H * I)) (fn8 (.int .i64 H) (.int .i64 I) (.slice (some ⟨w0.heap.size,0,none⟩) (H * I) (H * I)) (.int .i64 0) (.int .i64 0) (.slice none 0 0) (.slice none 0 0) (.slice none 0 0)) (((p0.setCell ⟨w.heap.size+1+1,0,none⟩ (.int .i64 H)).setCell ⟨w.heap.size+1+1,1,none⟩ (.int .i64 I)).setCell ⟨w.heap.size+1+1,2,none⟩ (.slice (some ⟨w0.heap.size,0,none⟩) (H * I) (H * I))):=(((stq.set 0 (.int .i64 H)).set 1 (.int .i64 I)).set 2 (.slice (some ⟨w0.heap.size,0,none⟩) (H * I) (H * I))).congr (fun i hi=>by rcases lt8 hi with rfl | rfl | rfl | rfl | rfl | rfl | rfl | rfl <;> rfl)
 have gr0:(((p0.setCell ⟨w.heap.size+1+1,0,none⟩ (.int .i64 H)).setCell ⟨w.heap.size+1+1,1,none⟩ (.int .i64 I)).setCell ⟨w.heap.size+1+1,2,none⟩ (.slice (some ⟨w0.heap.size,0,none⟩) (H * I) (H * I))).rowIs w0.heap.size 3 (H * I) _:=(((hr0.setOther (by simp; omega) _).setOther (by simp; omega) _).setOther (by simp; omega) _)
 have sz0:w0.heap.size < (((p0.setCell ⟨w.heap.size+1+1,0,none⟩ (.int .i64 H)).setCell ⟨w.heap.size+1+1,1,none⟩ (.int .i64 I)).setCell ⟨w.heap.size+1+1,2,none⟩ (.slice (some ⟨w0.heap.size,0,none⟩) (H * I) (H * I))).heap.size:=gr0.lt
 clear stq c0 c1 c2 c3 c4 c5 c6 c7 f0 f1 f2 hr0
 generalize (((p0.setCell ⟨w.heap.size+1+1,0,none⟩ (.int .i64 H)).setCell ⟨w.heap.size+1+1,1,none⟩ (.int .i64 I)).setCell ⟨w.heap.size+1+1,2,none⟩ (.slice (some ⟨w0.heap.size,0,none⟩) (H * I) (H * I)))=w1 at st1 gr0 sz0 ⊢
 have hr0:=gr0
 clear gr0
 have lt1:=st1.pup.lt
 refine (Zba H (w.heap.size+1) _ rfl ar0 (len - (H * I)) (cap - (H * I)) ((xs).drop (H * I)) w1 w st1.bel hl0 st1.rst (by omega) (by have:=HLEN.out; omega) (by omega)).mono ?_
 rintro e p1 ⟨ar1,rfl,hr1,hq,hl1,hg⟩
 have stq:=st1.grown hg hq
 replace hr0:=ZaA hr0 hg (by omega)
 clear st1 hg hq
 obtain ⟨c0,c1,c2,c3,c4,c5,c6,c7⟩:=Zag stq.pup
 have f6:=stq.pup.frozen 6
 go_wp2_with fail
 have st2:ShSt w ar1 (len - (H * I) - H) (cap - (H * I) - H) (fn8 (.int .i64 H) (.int .i64 I) (.slice (some ⟨w0.heap.size,0,none⟩) (H * I) (H * I)) (.int .i64 0) (.int .i64 0) (.slice none 0 0) (.slice (some ⟨w1.heap.size,0,none⟩) H H) (.slice none 0 0)) (p1.setCell ⟨w.heap.size+1+1,6,none⟩ (.slice (some ⟨w1.heap.size,0,none⟩) H H)):=(stq.set 6 (.slice (some ⟨w1.heap.size,0,none⟩) H H)).congr (fun i hi=>by rcases lt8 hi with rfl | rfl | rfl | rfl | rfl | rfl | rfl | rfl <;> rfl)
 have gr0:(p1.setCell ⟨w.heap.size+1+1,6,none⟩ (.slice (some ⟨w1.heap.size,0,none⟩) H H)).rowIs w0.heap.size 3 (H * I) _:=(hr0.setOther (by simp; omega) _)
 have gr1:(p1.setCell ⟨w.heap.size+1+1,6,none⟩ (.slice (some ⟨w1.heap.size,0,none⟩) H H)).rowIs w1.heap.size 3 H _:=(hr1.setOther (by simp; omega) _)
 have sz1:w1.heap.size < (p1.setCell ⟨w.heap.size+1+1,6,none⟩ (.slice (some ⟨w1.heap.size,0,none⟩) H H)).heap.size:=gr1.lt
 clear stq c0 c1 c2 c3 c4 c5 c6 c7 f6 hr0 hr1
 generalize (p1.setCell ⟨w.heap.size+1+1,6,none⟩ (.slice (some ⟨w1.heap.size,0,none⟩) H H))=w2 at st2 gr0 gr1 sz1 ⊢
 have hr0:=gr0
 have hr1:=gr1
 clear gr0 gr1
 have lt2:=st2.pup.lt
 refine (Zba (O * H) (w.heap.size+1) _ Z2.out ar1 (len - (H * I) - H) (cap - (H * I) - H) (((xs).drop (H * I)).drop H) w2 w st2.bel hl1 st2.rst s4 (by have:=HLEN.out; omega) (by omega)).mono ?_
 rintro e p2 ⟨ar2,rfl,hr2,hq,hl2,hg⟩
 have stq:=st2.grown hg hq
 replace hr0:=ZaA hr0 hg (by omega)
 replace hr1:=ZaA hr1 hg (by omega)
 clear st2 hg hq
 obtain ⟨c0,c1,c2,c3,c4,c5,c6,c7⟩:=Zag stq.pup
 have f3:=stq.pup.frozen 3
 have f4:=stq.pup.frozen 4
 have f5:=stq.pup.frozen 5
 go_wp2_with fail
 have st3:ShSt w ar2 (len - (H * I) - H - (O * H)) (cap - (H * I) - H - (O * H)) (fn8 (.int .i64 H) (.int .i64 I) (.slice (some ⟨w0.heap.size,0,none⟩) (H * I) (H * I)) (.int .i64 O) (.int .i64 H) (.slice (some ⟨w2.heap.size,0,none⟩) (O * H) (O * H)) (.slice (some ⟨w1.heap.size,0,none⟩) H H) (.slice none 0 0)) (((p2.setCell ⟨w.heap.size+1+1,3,none⟩ (.int .i64 O)).setCell ⟨w.heap.size+1+1,4,none⟩ (.int .i64 H)).setCell ⟨w.heap.size+1+1,5,none⟩ (.slice (some ⟨w2.heap.size,0,none⟩) (O * H) (O * H))):=(((stq.set 3 (.int .i64 O)).set 4 (.int .i64 H)).set 5 (.slice (some ⟨w2.heap.size,0,none⟩) (O * H) (O * H))).congr (fun i hi=>by rcases lt8 hi with rfl | rfl | rfl | rfl | rfl | rfl | rfl | rfl <;> rfl)
 have gr0:(((p2.setCell ⟨w.heap.size+1+1,3,none⟩ (.int .i64 O)).setCell ⟨w.heap.size+1+1,4,none⟩ (.int .i64 H)).setCell ⟨w.heap.size+1+1,5,none⟩ (.slice (some ⟨w2.heap.size,0,none⟩) (O * H) (O * H))).rowIs w0.heap.size 3 (H * I) _:=(((hr0.setOther (by simp; omega) _).setOther (by simp; omega) _).setOther (by simp; omega) _)
 have gr1:(((p2.setCell ⟨w.heap.size+1+1,3,none⟩ (.int .i64 O)).setCell ⟨w.heap.size+1+1,4,none⟩ (.int .i64 H)).setCell ⟨w.heap.size+1+1,5,none⟩ (.slice (some ⟨w2.heap.size,0,none⟩) (O * H) (O * H))).rowIs w1.heap.size 3 H _:=(((hr1.setOther (by simp; omega) _).setOther (by simp; omega) _).setOther (by simp; omega) _)
 have gr2:(((p2.setCell ⟨w.heap.size+1+1,3,none⟩ (.int .i64 O)).setCell ⟨w.heap.size+1+1,4,none⟩ (.int .i64 H)).setCell ⟨w.heap.size+1+1,5,none⟩ (.slice (some ⟨w2.heap.size,0,none⟩) (O * H) (O * H))).rowIs w2.heap.size 3 (O * H) _:=(((hr2.setOther (by simp; omega) _).setOther (by simp; omega) _).setOther (by simp; omega) _)
 have sz2:w2.heap.size < (((p2.setCell ⟨w.heap.size+1+1,3,none⟩ (.int .i64 O)).setCell ⟨w.heap.size+1+1,4,none⟩ (.int .i64 H)).setCell ⟨w.heap.size+1+1,5,none⟩ (.slice (some ⟨w2.heap.size,0,none⟩) (O * H) (O * H))).heap.size:=gr2.lt
 clear stq c0 c1 c2 c3 c4 c5 c6 c7 f3 f4 f5 hr0 hr1 hr2
 generalize (((p2.setCell ⟨w.heap.size+1+1,3,none⟩ (.int .i64 O)).setCell ⟨w.heap.size+1+1,4,none⟩ (.int .i64 H)).setCell ⟨w.heap.size+1+1,5,none⟩ (.slice (some ⟨w2.heap.size,0,none⟩) (O * H) (O * H)))=w3 at st3 gr0 gr1 gr2 sz2 ⊢
 have hr0:=gr0
 have hr1:=gr1
 have hr2:=gr2
 clear gr0 gr1 gr2
 have lt3:=st3.pup.lt
 refine (Zba O (w.heap.size+1) _ rfl ar2 (len - (H * I) - H - (O * H)) (cap - (H * I) - H - (O * H)) ((((xs).drop (H * I)).drop H).drop (O * H)) w3 w st3.bel hl2 st3.rst (by omega) (by have:=HLEN.out; omega) (by omega)).mono ?_
 rintro e p3 ⟨ar3,rfl,hr3,hq,hl3,hg⟩
 have stq:=st3.grown hg hq
 replace hr0:=ZaA hr0 hg (by omega)
 replace hr1:=ZaA hr1 hg (by omega)
 replace hr2:=ZaA hr2 hg (by omega)
 clear st3 hg hq
 obtain ⟨c0,c1,c2,c3,c4,c5,c6,c7⟩:=Zag stq.pup
 have f7:=stq.pup.frozen 7
 obtain ⟨r0,r1,r2,r3,r4,r5,r6,r7⟩:=Zag stq.res
 have g0:=stq.res.frozen 0
 have g1:=stq.res.frozen 1
 have g2:=stq.res.frozen 2
 have g3:=stq.res.frozen 3
 have g4:=stq.res.frozen 4
 have g5:=stq.res.frozen 5
 have g6:=stq.res.frozen 6
 have g7:=stq.res.frozen 7
 go_wp2
 have st4:ShSt w ar3 (len - (H * I) - H - (O * H) - O) (cap - (H * I) - H - (O * H) - O) (fn8 (.int .i64 H) (.int .i64 I) (.slice (some ⟨w0.heap.size,0,none⟩) (H * I) (H * I)) (.int .i64 O) (.int .i64 H) (.slice (some ⟨w2.heap.size,0,none⟩) (O * H) (O * H)) (.slice (some ⟨w1.heap.size,0,none⟩) H H) (.slice (some ⟨w3.heap.size,0,none⟩) O O)) (p3.setCell ⟨w.heap.size+1+1,7,none⟩ (.slice (some ⟨w3.heap.size,0,none⟩) O O)):=(stq.set 7 (.slice (some ⟨w3.heap.size,0,none⟩) O O)).congr (fun i hi=>by rcases lt8 hi with rfl | rfl | rfl | rfl | rfl | rfl | rfl | rfl <;> rfl)
 have gr0:(p3.setCell ⟨w.heap.size+1+1,7,none⟩ (.slice (some ⟨w3.heap.size,0,none⟩) O O)).rowIs w0.heap.size 3 (H * I) _:=(hr0.setOther (by simp; omega) _)
 have gr1:(p3.setCell ⟨w.heap.size+1+1,7,none⟩ (.slice (some ⟨w3.heap.size,0,none⟩) O O)).rowIs w1.heap.size 3 H _:=(hr1.setOther (by simp; omega) _)
 have gr2:(p3.setCell ⟨w.heap.size+1+1,7,none⟩ (.slice (some ⟨w3.heap.size,0,none⟩) O O)).rowIs w2.heap.size 3 (O * H) _:=(hr2.setOther (by simp; omega) _)
 have gr3:(p3.setCell ⟨w.heap.size+1+1,7,none⟩ (.slice (some ⟨w3.heap.size,0,none⟩) O O)).rowIs w3.heap.size 3 O _:=(hr3.setOther (by simp; omega) _)
 have sz3:w3.heap.size < (p3.setCell ⟨w.heap.size+1+1,7,none⟩ (.slice (some ⟨w3.heap.size,0,none⟩) O O)).heap.size:=gr3.lt
 clear stq c0 c1 c2 c3 c4 c5 c6 c7 f7 hr0 hr1 hr2 hr3
 have hq:=Zbm st4.res (.int .i64 H) (.int .i64 I) (.slice (some ⟨w0.heap.size,0,none⟩) (H * I) (H * I)) (.int .i64 O) (.int .i64 H) (.slice (some ⟨w2.heap.size,0,none⟩) (O * H) (O * H)) (.slice (some ⟨w1.heap.size,0,none⟩) H H) (.slice (some ⟨w3.heap.size,0,none⟩) O O)
 obtain ⟨q0,q1,q2,q3,q4,q5,q6,q7⟩:=Zag hq
 refine bodyPost_ret (v:=.tuple #[(rpup I H O (some ⟨w0.heap.size,0,none⟩) (H * I) (some ⟨w2.heap.size,0,none⟩) (O * H) (some ⟨w1.heap.size,0,none⟩) H (some ⟨w3.heap.size,0,none⟩) O).val,.int .i64 0]) (by simp [results,Tryz.results59,go_sem,rpup,Pup.val,Pup.cells,q0,q1,q2,q3,q4,q5,q6,q7]) rfl ?_
 have keep:∀ (g n:Nat) (f:Nat->Value) (v0 v1 v2 v3 v4 v5 v6 v7:Value) (wq:World),wq.rowIs g 3 n f->w.heap.size < g->((((((((wq.setCell ⟨w.heap.size,0,none⟩ v0).setCell ⟨w.heap.size,1,none⟩ v1).setCell ⟨w.heap.size,2,none⟩ v2).setCell ⟨w.heap.size,3,none⟩ v3).setCell ⟨w.heap.size,4,none⟩ v4).setCell ⟨w.heap.size,5,none⟩ v5).setCell ⟨w.heap.size,6,none⟩ v6).setCell ⟨w.heap.size,7,none⟩ v7).rowIs g 3 n f:=by
  intro g n f v0 v1 v2 v3 v4 v5 v6 v7 wq h hg
  exact (((((((h.setOther (by simp; omega) _).setOther (by simp; omega) _).setOther (by simp; omega) _).setOther (by simp; omega) _).setOther (by simp; omega) _).setOther (by simp; omega) _).setOther (by simp; omega) _).setOther (by simp; omega) _
 refine ⟨_,_,_,_,rfl,⟨by omega,by omega,by omega,by omega⟩,⟨_,_,_,_,Arr.row (keep _ _ _ _ _ _ _ _ _ _ _ _ gr0 (by omega)),Arr.row (keep _ _ _ _ _ _ _ _ _ _ _ _ gr2 (by omega)),Arr.row (keep _ _ _ _ _ _ _ _ _ _ _ _ gr1 (by omega)),Arr.row (keep _ _ _ _ _ _ _ _ _ _ _ _ gr3 (by omega))⟩,?_,?_⟩
 ·skip
  have hl:=ha.len
  have:=HLEN.out
  refine ⟨?_,?_,?_,?_⟩
  ·show Lst _ _ (H * I) (H * I) (xs.take (H * I))
   exact Lst.row (keep _ _ _ _ _ _ _ _ _ _ _ _ gr0 (by omega)) (by simp; omega) (fun i hi=>by unfold rowTo; rw [if_pos hi])
  ·show Lst _ _ (O * H) (O * H) (((xs.drop (H * I)).drop H).take (O * H))
   exact Lst.row (keep _ _ _ _ _ _ _ _ _ _ _ _ gr2 (by omega)) (by simp; omega) (fun i hi=>by unfold rowTo; rw [if_pos hi])
  ·show Lst _ _ H H ((xs.drop (H * I)).take H)
   exact Lst.row (keep _ _ _ _ _ _ _ _ _ _ _ _ gr1 (by omega)) (by simp; omega) (fun i hi=>by unfold rowTo; rw [if_pos hi])
  ·show Lst _ _ O O ((((xs.drop (H * I)).drop H).drop (O * H)).take O)
   exact Lst.row (keep _ _ _ _ _ _ _ _ _ _ _ _ gr3 (by omega)) (by simp; omega) (fun i hi=>by unfold rowTo; rw [if_pos hi])
 ·exact (((((((st4.bel.setCell nr _).setCell nr _).setCell nr _).setCell nr _).setCell nr _).setCell nr _).setCell nr _).setCell nr _
end Go.Proofs.YthmiojmlaclgaaaGreatDoor.Fx
