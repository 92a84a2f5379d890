/- What the law stands on: RefTrE. -/
import Derived.Test.YthmiojmlaclgaaaGreatDoorJ00
import Derived.Test.YthmiojmlaclgaaaGreatDoorJ27
import Derived.Test.YthmiojmlaclgaaaGreatDoorJ23
import Derived.Test.YthmiojmlaclgaaaGreatDoorJ09
import Derived.Test.YthmiojmlaclgaaaGreatDoorJ08
set_option maxRecDepth 100000
set_option maxHeartbeats 12800000
namespace Go.Proofs.YthmiojmlaclgaaaGreatDoor.Fx
open Go.RowKit
theorem OwnS.at {base:Nat} {w:World} {v:Value} {n:Nat} {X:Nat->Exm} (h:OwnS base w v n X) (h0:0 < n):∃ g c,v=.slice (some ⟨g,0,none⟩) n c/\base<=g/\g < w.heap.size/\n<=c/\∀ j,j < n->w.cell? ⟨g,j * 2,none⟩=some (.slice (X j).a (X j).n (X j).k)/\w.cell? ⟨g,j * 2+1,none⟩=some (.slice (X j).b (X j).m (X j).t):=by
 obtain ⟨hl,h2⟩:=h
 rcases h2 with ⟨_,hn⟩ | ⟨g,cap,cur,hv,hg,hh,hle,_,hsz,hcur⟩
 ·omega
 ·refine ⟨g,cap,hv,hg,(Array.getElem?_eq_some_iff.1 hh).1,hle,fun i hi=>?_⟩
  have hc:∀ j,j < n * 2->w.cell? ⟨g,j,none⟩=(stCells X n)[j]?:=fun j hj=>by
   rw [← hcur,List.getElem?_take_of_lt hj]
   simp [World.cell?,hh]
  have g2:=stCells_at X hi
  exact ⟨(hc (i * 2) (by omega)).trans g2.1,(hc (i * 2+1) (by omega)).trans g2.2⟩
theorem OwnS.one (w:World) (X:Nat->Exm):OwnS w.heap.size (w.alloc (.cells #[.slice (X 0).a (X 0).n (X 0).k,.slice (X 0).b (X 0).m (X 0).t] 106)) (.slice (some ⟨w.heap.size,0,none⟩) 1 1) 1 X :=
 ⟨rfl,.inr ⟨w.heap.size,1,_,rfl,nr,Go.Deep.blk_alloc_new _ _,nr,by decide,rfl,rfl⟩⟩
theorem OwnS.mono {base b2:Nat} {w:World} {v:Value} {n:Nat} {X:Nat->Exm} (h:OwnS base w v n X) (hb:b2<=base):OwnS b2 w v n X:=by
 refine ⟨h.1,?_⟩
 rcases h.2 with h0 | ⟨g,cap,cur,hv,hg,r⟩
 ·exact .inl h0
 ·exact .inr ⟨g,cap,cur,hv,by omega,r⟩
theorem OwnS.congr {base:Nat} {w:World} {v:Value} {n:Nat} {X Y:Nat->Exm} (h:OwnS base w v n X) (e:∀ i,i < n->X i=Y i):OwnS base w v n Y:=by
 unfold OwnS at *
 rw [← Zbw e]
 exact h
def StB (w:World) (N k g:Nat) (X:Nat->Exm) (DW DM:Nat->List Int):Prop:=∀ j,j<=k->∃ xa xk xb xt,X j=⟨some ⟨xa,0,none⟩,N,xk,some ⟨xb,0,none⟩,N,xt⟩/\xa ≠ g/\xb ≠ g/\Lst w (some ⟨xa,0,none⟩) N xk (DW j)/\Lst w (some ⟨xb,0,none⟩) N xt (DM j)
theorem StB.below {w w':World} {N k g:Nat} {X:Nat->Exm} {DW DM:Nat->List Int} (h:StB w N k g X DW DM) (hb:Below w.heap.size w w'):StB w' N k g X DW DM:=fun j hj=>by
 obtain ⟨xa,xk,xb,xt,e,n1,n2,l1,l2⟩:=h j hj
 exact ⟨xa,xk,xb,xt,e,n1,n2,l1.below hb nr,l2.below hb nr⟩
theorem Lst.blk {w:World} {g n c:Nat} {xs:List Int} (h:Lst w (some ⟨g,0,none⟩) n c xs) (hn:0 < n):g < w.heap.size:=by
 obtain ⟨_,_,e,hs,_⟩:=h.at hn
 simp only [Option.some.injEq,Addr.mk.injEq,and_true] at e
 omega
theorem StB.grown {w w':World} {N k g g':Nat} {X:Nat->Exm} {DW DM:Nat->List Int} (h:StB w N k g X DW DM) (hN:0 < N) (hg:w.grownBy w' (some g)) (he:g'=g\/g'=w.heap.size):StB w' N k g' X DW DM:=fun j hj=>by
 obtain ⟨xa,xk,xb,xt,e,n1,n2,l1,l2⟩:=h j hj
 have:=l1.blk hN
 have:=l2.blk hN
 exact ⟨xa,xk,xb,xt,e,by omega,by omega,l1.grown hg n1,l2.grown hg n2⟩
theorem StB.push {w:World} {N k g:Nat} {X Y:Nat->Exm} {DW DM:Nat->List Int} {xa xk xb xt:Nat} (h:StB w N k g X DW DM) (hY:∀ j,j<=k->Y j=X j) (hx:Y (k+1)=⟨some ⟨xa,0,none⟩,N,xk,some ⟨xb,0,none⟩,N,xt⟩) (n1:xa ≠ g) (n2:xb ≠ g) (l1:Lst w (some ⟨xa,0,none⟩) N xk (DW (k+1))) (l2:Lst w (some ⟨xb,0,none⟩) N xt (DM (k+1))):StB w N (k+1) g Y DW DM:=fun j hj=>by
 by_cases e:j=k+1
 ·subst e; exact ⟨xa,xk,xb,xt,hx,n1,n2,l1,l2⟩
 ·obtain ⟨xa,xk,xb,xt,e2,r⟩:=h j (by omega)
  exact ⟨xa,xk,xb,xt,(hY j (by omega)).trans e2,r⟩
theorem set' {Bd:Nat} {W q:World} (h:Below Bd W q) {b i:Nat} (hb:Bd<=b) {v:Value}:Below Bd W (q.setCell ⟨b,i,none⟩ v):=h.setCell hb v
theorem Lst.far {w:World} {g n c:Nat} {xs:List Int} (h:Lst w (some ⟨g,0,none⟩) n c xs) {b i:Nat} (hb:g ≠ b) {v:Value}:Lst (w.setCell ⟨b,i,none⟩ v) (some ⟨g,0,none⟩) n c xs:=h.setFar hb v
theorem Lst.al {w:World} {g n c:Nat} {xs:List Int} (h:Lst w (some ⟨g,0,none⟩) n c xs) {o:Obj}:Lst (w.alloc o) (some ⟨g,0,none⟩) n c xs:=h.below (Zac w o) nr
theorem row_far {w:World} {b t n:Nat} {f:Nat->Value} (h:w.rowIs b t n f) {c i:Nat} (hne:b ≠ c) {v:Value}:(w.setCell ⟨c,i,none⟩ v).rowIs b t n f:=h.setOther (a:=⟨c,i,none⟩) hne v
theorem via9 {P:Prop} {F:Nat->Nat->Nat->Nat->Nat->World->Prop} {Q:Nat->Nat->Nat->Nat->Option Addr->Nat->Nat->Nat->World->Prop} (h1:(∀ ga d1 gb d2 a3 k3 SB RB q,F ga d1 gb d2 SB q->Q ga d1 gb d2 a3 k3 SB RB q)->P) (h2:∀ ga d1 gb d2 a3 k3 SB RB q,F ga d1 gb d2 SB q->Q ga d1 gb d2 a3 k3 SB RB q):P:=h1 h2
theorem rstates_calls (I H O B:Nat) (seed crate decay how keep clip:Int) (hs:okW seed) (steps:Int) (hc:cfgB ⟨I,H,O,seed,B,steps,crate,decay,how,keep,clip⟩=true) (N:Nat) (hN:N=H * I+H+O * H+O) (a:Option Addr) (n cap:Nat) (X:Nat->Exm) (DI DO:Nat->List Int) (nn:Nat) (w:World)
  (hx:Exs w a n cap X DI DO) (hn1:1<=n) (hn2:n<=16) (hex:allEx ⟨I,H,O,seed,B,steps,crate,decay,how,keep,clip⟩ n X DI DO=true) (hnn:(nn:Int)<=steps) :
  Calls Tryz.prog 70 #[Cfg.val ⟨I,H,O,seed,B,steps,crate,decay,how,keep,clip⟩,.slice a n cap,.int .i64 nn] w fun e w'=>∃ b k Y,e=.returned (.slice b (nn+1) k)/\Exs w' b (nn+1) k Y (fun j=>(stateP ⟨I,H,O,seed,B,steps,crate,decay,how,keep,clip⟩ n DI DO N j).1) (fun j=>(stateP ⟨I,H,O,seed,B,steps,crate,decay,how,keep,clip⟩ n DI DO N j).2)/\Below w.heap.size w w':=by
 obtain ⟨⟨i1,i2⟩,⟨h1,h2⟩,⟨p1,p2⟩,_,⟨s1,s2⟩,_⟩:=Zal hc
 dsimp only at i1 i2 h1 h2 p1 p2 s1 s2
 have hN4:4<=N/\N<=40:=by
  have:=Zae (show H<=4 by omega) (show I<=4 by omega)
  have:=Zae (show O<=4 by omega) (show H<=4 by omega)
  have:1<=H * I:=Nat.mul_pos (by omega) (by omega)
  have:1<=O * H:=Nat.mul_pos (by omega) (by omega)
  omega
 obtain ⟨DW,HDW⟩:∃ f:Nat->List Int,Hid (∀ j,f j=(stateP ⟨I,H,O,seed,B,steps,crate,decay,how,keep,clip⟩ n DI DO N j).1):=⟨_,fun _=>rfl⟩
 obtain ⟨DM,HDM⟩:∃ f:Nat->List Int,Hid (∀ j,f j=(stateP ⟨I,H,O,seed,B,steps,crate,decay,how,keep,clip⟩ n DI DO N j).2):=⟨_,fun _=>rfl⟩
 have hEW:(fun j=>(stateP ⟨I,H,O,seed,B,steps,crate,decay,how,keep,clip⟩ n DI DO N j).1)=DW:=funext fun j=>(HDW.out j).symm
 have hEM:(fun j=>(stateP ⟨I,H,O,seed,B,steps,crate,decay,how,keep,clip⟩ n DI DO N j).2)=DM:=funext fun j=>(HDM.out j).symm
 rw [hEW,hEM]
 clear hEW hEM
 have hNI:(N:Int)=sizeN ⟨I,H,O,seed,B,steps,crate,decay,how,keep,clip⟩:=by unfold sizeN; dsimp only; rw [hN]; push_cast; rfl
 have HS:Hid (∀ q,Calls Tryz.prog 103 #[Cfg.val ⟨I,H,O,seed,B,steps,crate,decay,how,keep,clip⟩] q fun e w'=>∃ ga d1 gb d2,e=.returned (.agg #[.slice (some ⟨ga,0,none⟩) N d1,.slice (some ⟨gb,0,none⟩) N d2])/\q.heap.size<=ga/\q.heap.size<=gb/\Lst w' (some ⟨ga,0,none⟩) N d1 (DW 0)/\Lst w' (some ⟨gb,0,none⟩) N d2 (DM 0)/\Below q.heap.size q w'):=fun q=>by
  rw [HDW.out,HDM.out]
  exact Zcz ⟨I,H,O,seed,B,steps,crate,decay,how,keep,clip⟩ hc hs N hNI q
 have HNX:Hid (∀ k:Nat,(k:Int)<=steps - 1->∃ R Z:Int,∀ q x1 k1 x2 k2,Below w.heap.size w q->Lst q (some ⟨x1,0,none⟩) N k1 (DW k)->Lst q (some ⟨x2,0,none⟩) N k2 (DM k)->Calls Tryz.prog 105 #[Cfg.val ⟨I,H,O,seed,B,steps,crate,decay,how,keep,clip⟩,.slice a n cap,.agg #[.slice (some ⟨x1,0,none⟩) N k1,.slice (some ⟨x2,0,none⟩) N k2],.int .i64 k] q fun e w'=>∃ ga d1 gb d2 a3 k3,e=.returned (.tuple #[.agg #[.slice (some ⟨ga,0,none⟩) N d1,.slice (some ⟨gb,0,none⟩) N d2],.agg #[.int .i64 k,.slice a3 B k3,.int .i64 R,.int .u64 Z,.int .u64 0]])/\q.heap.size<=ga/\q.heap.size<=gb/\Lst w' (some ⟨ga,0,none⟩) N d1 (DW (k+1))/\Lst w' (some ⟨gb,0,none⟩) N d2 (DM (k+1))/\Below q.heap.size q w'):=fun k hk=>by
  refine ⟨rateV ⟨I,H,O,seed,B,steps,crate,decay,how,keep,clip⟩ k,rootP ((List.range N).map (goneG ⟨I,H,O,seed,B,steps,crate,decay,how,keep,clip⟩ (DW k) (DM k) (pushL ⟨I,H,O,seed,B,steps,crate,decay,how,keep,clip⟩ n (DW k) DI DO k N) (rateV ⟨I,H,O,seed,B,steps,crate,decay,how,keep,clip⟩ k))) ((List.range N).map (keptG ⟨I,H,O,seed,B,steps,crate,decay,how,keep,clip⟩ (DM k) (pushL ⟨I,H,O,seed,B,steps,crate,decay,how,keep,clip⟩ n (DW k) DI DO k N))) (N+N),fun q x1 k1 x2 k2 hq l1 l2=>?_⟩
  refine (rnext_calls I H O B k seed crate decay how keep clip hs steps hc N hN a n cap X DI DO x1 0 k1 (DW k) x2 0 k2 (DM k) q (hx.below hq nr) hn1 hn2 hex l1 l2 hk _ _ _ rfl rfl rfl).mono ?_
  rintro e w' ⟨ga,e1,gb,e2,a3,k3,he,hga,hgb,lw,lm,_,_,hb⟩
  refine ⟨ga,e1,gb,e2,a3,k3,he,hga,hgb,?_,?_,hb⟩
  ·rw [HDW.out (k+1)]; rw [HDW.out,HDM.out] at lw; exact lw
  ·rw [HDM.out (k+1)]; rw [HDW.out,HDM.out] at lm; exact lm
 have hal:=Zac w (.cells (Cfg.cells ⟨I,H,O,seed,B,steps,crate,decay,how,keep,clip⟩) 50)
 obtain ⟨W,HW⟩:∃ q,Hid (q=w.alloc (.cells (Cfg.cells ⟨I,H,O,seed,B,steps,crate,decay,how,keep,clip⟩) 50)):=⟨_,rfl⟩
 have KB:Hid (∀ q,Below W.heap.size W q->BoxC q w.heap.size ⟨I,H,O,seed,B,steps,crate,decay,how,keep,clip⟩):=fun q hq=>by rw [HW.out] at hq; exact boxC hq (by simp)
 have hbW:Below w.heap.size w W:=by rw [HW.out]; exact hal
 have hltW:w.heap.size < W.heap.size:=by rw [HW.out]; simp
 clear hx hex hc hN hNI hs HDW HDM hal
 simp only [Cfg.val,Cfg.cells] at *
 obtain ⟨c0,c1,c2,c3,c4,c5,c6,c7,c8,c9,c10⟩:=KB.out _ br
 dsimp only at c0 c1 c2 c3 c4 c5 c6 c7 c8 c9 c10
 go_enter Tryz.func70,Tryz.ntmps70
 go_wp2_with fail
 rw [← HW.out]
 clear HW
 refine (HS.out _).mono ?_
 rintro e w1 ⟨ga,d1,gb,d2,rfl,hga,hgb,l1,l2,hw1⟩
 clear c0 c1 c2 c3 c4 c5 c6 c7 c8 c9 c10 HS
 have own1:=OwnS.one w1 (fun _=>⟨some ⟨ga,0,none⟩,N,d1,some ⟨gb,0,none⟩,N,d2⟩)
 have hl1:=Zac w1 (.cells #[.slice (some ⟨ga,0,none⟩) N d1,.slice (some ⟨gb,0,none⟩) N d2] 106)
 have T1:=hw1.trans (hl1.mono hw1.size)
 have hz1:=hw1.size
 have stb1:StB (w1.alloc (.cells #[.slice (some ⟨ga,0,none⟩) N d1,.slice (some ⟨gb,0,none⟩) N d2] 106)) N 0 w1.heap.size (fun _=>⟨some ⟨ga,0,none⟩,N,d1,some ⟨gb,0,none⟩,N,d2⟩) DW DM:=fun j hj=>by
  obtain rfl:j=0:=by omega
  have:=l1.blk (by omega)
  have:=l2.blk (by omega)
  exact ⟨ga,d1,gb,d2,rfl,by omega,by omega,l1.below hl1 nr,l2.below hl1 nr⟩
 go_wp2_with fail
 go_loopw [7,8] (fun s v wr=>∃ (k g c:Nat) (Y:Nat->Exm),k<=nn/\v=.int .i64 k/\s=.slice (some ⟨g,0,none⟩) (k+1) c/\OwnS W.heap.size wr (.slice (some ⟨g,0,none⟩) (k+1) c) (k+1) Y/\StB wr N k g Y DW DM/\Below W.heap.size W wr) (fun _ v _=>nn - (intOf v).toNat)
 case atStart=>exact ⟨0,w1.heap.size,1,_,Nat.zero_le _,rfl,rfl,own1.mono hz1,stb1,T1⟩
 case round =>
  clear own1 stb1 T1 hl1 l1 l2 hga hgb
  obtain ⟨k,g,c,Y,hk,rfl,rfl,hown,hst,hbel⟩:=hrel
  obtain ⟨g',c',ev,hgW,hgl,hkc,hcells⟩:=hown.at (by omega)
  simp only [Value.slice.injEq,Option.some.injEq,Addr.mk.injEq,and_true,true_and] at ev
  obtain ⟨eg,ec⟩:=ev
  subst eg
  subst ec
  by_cases hlt:k < nn
  ·have cl:=hcells k (by omega)
   obtain ⟨xa,xk,xb,xt,hyk,na,nb,lI,lO⟩:=hst k nr
   rw [hyk] at cl
   dsimp only at cl
   obtain ⟨u0,u1⟩:=cl
   obtain ⟨R,Z,HN⟩:=HNX.out k (by omega)
   have HNX2:Hid (∀ q,Below wr.heap.size wr q->Calls Tryz.prog 105 #[.agg #[.int .i64 I,.int .i64 H,.int .i64 O,.int .u64 seed,.int .i64 B,.int .i64 steps,.int .i64 crate,.int .i64 decay,.int .i64 how,.int .i64 keep,.int .i64 clip],.slice a n cap,.agg #[.slice (some ⟨xa,0,none⟩) N xk,.slice (some ⟨xb,0,none⟩) N xt],.int .i64 k] q fun e w'=>∃ ga d1 gb d2 a3 k3,e=.returned (.tuple #[.agg #[.slice (some ⟨ga,0,none⟩) N d1,.slice (some ⟨gb,0,none⟩) N d2],.agg #[.int .i64 k,.slice a3 B k3,.int .i64 R,.int .u64 Z,.int .u64 0]])/\q.heap.size<=ga/\q.heap.size<=gb/\Lst w' (some ⟨ga,0,none⟩) N d1 (DW (k+1))/\Lst w' (some ⟨gb,0,none⟩) N d2 (DM (k+1))/\Below q.heap.size q w'):=fun q hq =>
    HN q xa xk xb xt (hbW.trans ((hbel.trans (hq.mono hbel.size)).mono hbW.size)) (lI.below hq nr) (lO.below hq nr)
   have KS:Hid (∀ q,Below wr.heap.size wr q->q.cell? ⟨w.heap.size,0,none⟩=some (.int .i64 I)/\q.cell? ⟨w.heap.size,1,none⟩=some (.int .i64 H)/\q.cell? ⟨w.heap.size,2,none⟩=some (.int .i64 O)/\q.cell? ⟨w.heap.size,3,none⟩=some (.int .u64 seed)/\q.cell? ⟨w.heap.size,4,none⟩=some (.int .i64 B)/\q.cell? ⟨w.heap.size,5,none⟩=some (.int .i64 steps)/\q.cell? ⟨w.heap.size,6,none⟩=some (.int .i64 crate)/\q.cell? ⟨w.heap.size,7,none⟩=some (.int .i64 decay)/\q.cell? ⟨w.heap.size,8,none⟩=some (.int .i64 how)/\q.cell? ⟨w.heap.size,9,none⟩=some (.int .i64 keep)/\q.cell? ⟨w.heap.size,10,none⟩=some (.int .i64 clip)/\q.cell? ⟨g,k * 2,none⟩=some (.slice (some ⟨xa,0,none⟩) N xk)/\q.cell? ⟨g,k * 2+1,none⟩=some (.slice (some ⟨xb,0,none⟩) N xt)):=fun q hq=>by
    obtain ⟨x0,x1,x2,x3,x4,x5,x6,x7,x8,x9,x10⟩:=KB.out q (hbel.trans (hq.mono hbel.size))
    exact ⟨x0,x1,x2,x3,x4,x5,x6,x7,x8,x9,x10,(hq.cell (p:=⟨g,k * 2,none⟩) hgl).trans u0,(hq.cell (p:=⟨g,k * 2+1,none⟩) hgl).trans u1⟩
   have T0:Below wr.heap.size wr wr:=br
   have hle:wr.heap.size<=wr.heap.size:=nr
   have k0:(0:Int)<=(k:Int):=by omega
   have k2:(k:Int) < (k:Int)+1:=by omega
   have Ba:Below wr.heap.size wr wr.drew:=Below.drew T0
   have Bb:Below wr.heap.size wr (wr.alloc (.cells #[.slice none 0 0,.slice none 0 0] 106)).drew:=Below.drew (al T0 hle)
   have Bc:Below wr.heap.size wr (wr.alloc (.cells #[.int .i64 0,.slice none 0 0,.int .i64 0,.int .u64 0,.int .u64 0] 111)).drew:=Below.drew (al T0 hle)
   have Bd:Below wr.heap.size wr ((wr.alloc (.cells #[.slice none 0 0,.slice none 0 0] 106)).alloc (.cells #[.int .i64 0,.slice none 0 0,.int .i64 0,.int .u64 0,.int .u64 0] 111)).drew:=Below.drew (al (al T0 hle) hle)
   have Be:Below wr.heap.size wr ((wr.alloc (.cells #[.int .i64 0,.slice none 0 0,.int .i64 0,.int .u64 0,.int .u64 0] 111)).alloc (.cells #[.slice none 0 0,.slice none 0 0] 106)).drew:=Below.drew (al (al T0 hle) hle)
   have sbS:=Zaj wr (.slice none 0 0) (.slice none 0 0) 106
   have sbR:=Zao wr (.int .i64 0) (.slice none 0 0) (.int .i64 0) (.int .u64 0) (.int .u64 0) 111
   have sbSR:((wr.alloc (.cells #[.int .i64 0,.slice none 0 0,.int .i64 0,.int .u64 0,.int .u64 0] 111)).alloc (.cells #[.slice none 0 0,.slice none 0 0] 106)).rowIs (wr.heap.size+1) 106 2 (fn2 (.slice none 0 0) (.slice none 0 0)):=fn2_at _ _ _ _ (by simp)
   have sbRS:((wr.alloc (.cells #[.slice none 0 0,.slice none 0 0] 106)).alloc (.cells #[.int .i64 0,.slice none 0 0,.int .i64 0,.int .u64 0,.int .u64 0] 111)).rowIs (wr.heap.size+1) 111 5 (fn5 (.int .i64 0) (.slice none 0 0) (.int .i64 0) (.int .u64 0) (.int .u64 0)):=by
    have h:=Zao (wr.alloc (.cells #[.slice none 0 0,.slice none 0 0] 106)) (.int .i64 0) (.slice none 0 0) (.int .i64 0) (.int .u64 0) (.int .u64 0) 111
    simpa using h
   clear lI lO HN
   go_wp2_with fail
   apply via9 (F:=OutAt wr N (DW (k+1)) (DM (k+1)))
   ·intro key
    go_region_held3 (fun q=>q.cell? ⟨w.heap.size,0,none⟩=some (.int .i64 I)/\q.cell? ⟨w.heap.size,1,none⟩=some (.int .i64 H)/\q.cell? ⟨w.heap.size,2,none⟩=some (.int .i64 O)/\q.cell? ⟨w.heap.size,3,none⟩=some (.int .u64 seed)/\q.cell? ⟨w.heap.size,4,none⟩=some (.int .i64 B)/\q.cell? ⟨w.heap.size,5,none⟩=some (.int .i64 steps)/\q.cell? ⟨w.heap.size,6,none⟩=some (.int .i64 crate)/\q.cell? ⟨w.heap.size,7,none⟩=some (.int .i64 decay)/\q.cell? ⟨w.heap.size,8,none⟩=some (.int .i64 how)/\q.cell? ⟨w.heap.size,9,none⟩=some (.int .i64 keep)/\q.cell? ⟨w.heap.size,10,none⟩=some (.int .i64 clip)/\q.cell? ⟨g,k * 2,none⟩=some (.slice (some ⟨xa,0,none⟩) N xk)/\q.cell? ⟨g,k * 2+1,none⟩=some (.slice (some ⟨xb,0,none⟩) N xt)) ((with_reducible refine KS.out _ ?_; iterate 12 (first | done | with_reducible exact V1 | with_reducible exact T0 | with_reducible refine Below.drew ?_ | with_reducible refine al ?_ hle | (with_reducible refine set' ?_ ?_; rotate_left; omega))))
     (first | (go_at_call 105; (first | refine (HNX2.out _ Ba).mono ?_ | refine (HNX2.out _ Bb).mono ?_ | refine (HNX2.out _ Bc).mono ?_ | refine (HNX2.out _ Bd).mono ?_ | refine (HNX2.out _ Be).mono ?_); rintro e v1 ⟨ga,e1,gb,e2,a3,k3,rfl,hga,hgb,lw,lm,hv1⟩; have V1:Below wr.heap.size wr v1:=(by first | exact Ba.trans (hv1.mono Ba.size) | exact Bb.trans (hv1.mono Bb.size) | exact Bc.trans (hv1.mono Bc.size) | exact Bd.trans (hv1.mono Bd.size) | exact Be.trans (hv1.mono Be.size)); have hV:=V1.size; first | (have zs:v1.rowIs wr.heap.size 106 2 (fn2 (.slice none 0 0) (.slice none 0 0)):=(show (wr.alloc (.cells #[.slice none 0 0,.slice none 0 0] 106)).drew.rowIs wr.heap.size 106 2 (fn2 (.slice none 0 0) (.slice none 0 0)) from sbS).of_block (hv1.block _ sbS.lt); have zsA:=zs.alloc (.cells #[.int .i64 0,.slice none 0 0,.int .i64 0,.int .u64 0,.int .u64 0] 111); obtain ⟨a10,a11⟩:=Zaa zsA; have f10:=zsA.frozen 0; have f11:=zsA.frozen 1; have zrA:=((Zao v1 (.int .i64 0) (.slice none 0 0) (.int .i64 0) (.int .u64 0) (.int .u64 0) 111).setOther (a:=⟨wr.heap.size,0,none⟩) (show v1.heap.size ≠ wr.heap.size by have:=zs.lt; omega) (.slice (some ⟨ga,0,none⟩) N e1)).setOther (a:=⟨wr.heap.size,1,none⟩) (show v1.heap.size ≠ wr.heap.size by have:=zs.lt; omega) (.slice (some ⟨gb,0,none⟩) N e2); obtain ⟨b20,b21,b22,b23,b24⟩:=Zam zrA; have h20:=zrA.frozen 0; have h21:=zrA.frozen 1; have h22:=zrA.frozen 2; have h23:=zrA.frozen 3; have h24:=zrA.frozen 4) | (have zr:v1.rowIs wr.heap.size 111 5 (fn5 (.int .i64 0) (.slice none 0 0) (.int .i64 0) (.int .u64 0) (.int .u64 0)):=(show (wr.alloc (.cells #[.int .i64 0,.slice none 0 0,.int .i64 0,.int .u64 0,.int .u64 0] 111)).drew.rowIs wr.heap.size 111 5 (fn5 (.int .i64 0) (.slice none 0 0) (.int .i64 0) (.int .u64 0) (.int .u64 0)) from sbR).of_block (hv1.block _ sbR.lt); have zrA:=zr.alloc (.cells #[.slice (some ⟨ga,0,none⟩) N e1,.slice (some ⟨gb,0,none⟩) N e2] 106); obtain ⟨b20,b21,b22,b23,b24⟩:=Zam zrA; have h20:=zrA.frozen 0; have h21:=zrA.frozen 1; have h22:=zrA.frozen 2; have h23:=zrA.frozen 3; have h24:=zrA.frozen 4) | (have zs:v1.rowIs wr.heap.size 106 2 (fn2 (.slice none 0 0) (.slice none 0 0)):=(show ((wr.alloc (.cells #[.slice none 0 0,.slice none 0 0] 106)).alloc (.cells #[.int .i64 0,.slice none 0 0,.int .i64 0,.int .u64 0,.int .u64 0] 111)).drew.rowIs wr.heap.size 106 2 (fn2 (.slice none 0 0) (.slice none 0 0)) from sbS.alloc _).of_block (hv1.block _ (sbS.alloc _).lt); have zr:v1.rowIs (wr.heap.size+1) 111 5 (fn5 (.int .i64 0) (.slice none 0 0) (.int .i64 0) (.int .u64 0) (.int .u64 0)):=(show ((wr.alloc (.cells #[.slice none 0 0,.slice none 0 0] 106)).alloc (.cells #[.int .i64 0,.slice none 0 0,.int .i64 0,.int .u64 0,.int .u64 0] 111)).drew.rowIs (wr.heap.size+1) 111 5 (fn5 (.int .i64 0) (.slice none 0 0) (.int .i64 0) (.int .u64 0) (.int .u64 0)) from sbRS).of_block (hv1.block _ sbRS.lt); obtain ⟨a10,a11⟩:=Zaa zs; have f10:=zs.frozen 0; have f11:=zs.frozen 1; have zrA:=(zr.setOther (a:=⟨wr.heap.size,0,none⟩) (show wr.heap.size+1 ≠ wr.heap.size by omega) (.slice (some ⟨ga,0,none⟩) N e1)).setOther (a:=⟨wr.heap.size,1,none⟩) (show wr.heap.size+1 ≠ wr.heap.size by omega) (.slice (some ⟨gb,0,none⟩) N e2); obtain ⟨b20,b21,b22,b23,b24⟩:=Zam zrA; have h20:=zrA.frozen 0; have h21:=zrA.frozen 1; have h22:=zrA.frozen 2; have h23:=zrA.frozen 3; have h24:=zrA.frozen 4) | (have zs:v1.rowIs (wr.heap.size+1) 106 2 (fn2 (.slice none 0 0) (.slice none 0 0)):=(show ((wr.alloc (.cells #[.int .i64 0,.slice none 0 0,.int .i64 0,.int .u64 0,.int .u64 0] 111)).alloc (.cells #[.slice none 0 0,.slice none 0 0] 106)).drew.rowIs (wr.heap.size+1) 106 2 (fn2 (.slice none 0 0) (.slice none 0 0)) from sbSR).of_block (hv1.block _ sbSR.lt); have zr:v1.rowIs wr.heap.size 111 5 (fn5 (.int .i64 0) (.slice none 0 0) (.int .i64 0) (.int .u64 0) (.int .u64 0)):=(show ((wr.alloc (.cells #[.int .i64 0,.slice none 0 0,.int .i64 0,.int .u64 0,.int .u64 0] 111)).alloc (.cells #[.slice none 0 0,.slice none 0 0] 106)).drew.rowIs wr.heap.size 111 5 (fn5 (.int .i64 0) (.slice none 0 0) (.int .i64 0) (.int .u64 0) (.int .u64 0)) from sbR.alloc _).of_block (hv1.block _ (sbR.alloc _).lt); obtain ⟨a10,a11⟩:=Zaa zs; have f10:=zs.frozen 0; have f11:=zs.frozen 1; have zrA:=(zr.setOther (a:=⟨wr.heap.size+1,0,none⟩) (show wr.heap.size ≠ wr.heap.size+1 by omega) (.slice (some ⟨ga,0,none⟩) N e1)).setOther (a:=⟨wr.heap.size+1,1,none⟩) (show wr.heap.size ≠ wr.heap.size+1 by omega) (.slice (some ⟨gb,0,none⟩) N e2); obtain ⟨b20,b21,b22,b23,b24⟩:=Zam zrA; have h20:=zrA.frozen 0; have h21:=zrA.frozen 1; have h22:=zrA.frozen 2; have h23:=zrA.frozen 3; have h24:=zrA.frozen 4) | skip))
    all_goals
     have ba:=lw.blk (by omega)
     have bb:=lm.blk (by omega)
     simp at hga hgb
     (try (have zl:=zs.lt))
     (try (have zl2:=zr.lt))
    ·have f:OutAt wr N (DW (k+1)) (DM (k+1)) ga e1 gb e2 v1.heap.size ((v1.alloc (.cells #[.slice (some ⟨ga,0,none⟩) N e1,.slice (some ⟨gb,0,none⟩) N e2] 106)).alloc (.cells #[.int .i64 k,.slice a3 B k3,.int .i64 R,.int .u64 Z,.int .u64 0] 111)):=by
      refine ⟨?_,by omega,by omega,by omega,?_,?_,?_⟩
      ·iterate 12 (first | done | with_reducible exact ZaB zs _ _ | with_reducible exact ZaB zsA _ _ | with_reducible exact Zaj _ _ _ _ | (with_reducible refine fn2_at _ _ _ _ ?_; simp; done) | (with_reducible refine row_far ?_ ?_; rotate_left; omega) | with_reducible refine World.rowIs.alloc ?_ _)
      ·iterate 12 (first | done | with_reducible exact lw | with_reducible exact lm | with_reducible refine Lst.al ?_ | (with_reducible refine Lst.far ?_ ?_; rotate_left; omega))
      ·iterate 12 (first | done | with_reducible exact lw | with_reducible exact lm | with_reducible refine Lst.al ?_ | (with_reducible refine Lst.far ?_ ?_; rotate_left; omega))
      ·iterate 12 (first | done | with_reducible exact V1 | with_reducible refine al ?_ hle | (with_reducible refine set' ?_ ?_; rotate_left; omega))
     generalize (v1.alloc (.cells #[.slice (some ⟨ga,0,none⟩) N e1,.slice (some ⟨gb,0,none⟩) N e2] 106)).alloc (.cells #[.int .i64 k,.slice a3 B k3,.int .i64 R,.int .u64 Z,.int .u64 0] 111)=q at f ⊢
     generalize v1.heap.size+1=RB at f ⊢
     generalize v1.heap.size=SB at f ⊢
     exact key ga e1 gb e2 a3 k3 SB RB q f
    all_goals
     refine key ga e1 gb e2 a3 k3 _ _ _ ?_
     refine ⟨?_,by omega,by omega,by omega,?_,?_,?_⟩
     ·iterate 12 (first | done | with_reducible exact ZaB zs _ _ | with_reducible exact ZaB zsA _ _ | with_reducible exact Zaj _ _ _ _ | (with_reducible refine fn2_at _ _ _ _ ?_; simp; done) | (with_reducible refine row_far ?_ ?_; rotate_left; omega) | with_reducible refine World.rowIs.alloc ?_ _)
     ·iterate 12 (first | done | with_reducible exact lw | with_reducible exact lm | with_reducible refine Lst.al ?_ | (with_reducible refine Lst.far ?_ ?_; rotate_left; omega))
     ·iterate 12 (first | done | with_reducible exact lw | with_reducible exact lm | with_reducible refine Lst.al ?_ | (with_reducible refine Lst.far ?_ ?_; rotate_left; omega))
     ·iterate 12 (first | done | with_reducible exact V1 | with_reducible refine al ?_ hle | (with_reducible refine set' ?_ ?_; rotate_left; omega))
   ·rintro ga e1 gb e2 a3 k3 SB RB q ⟨srow,hSB,hga,hgb,la,lb,bel⟩
    obtain ⟨o0,o1⟩:=Zaa srow
    obtain ⟨Y2,HY⟩:∃ Y2:Nat->Exm,Hid (Y2 (k+1)=⟨some ⟨ga,0,none⟩,N,e1,some ⟨gb,0,none⟩,N,e2⟩/\∀ j,j<=k->Y2 j=Y j):=⟨fun j=>if j=k+1 then ⟨some ⟨ga,0,none⟩,N,e1,some ⟨gb,0,none⟩,N,e2⟩ else Y j,by exact ⟨if_pos rfl,fun j hj=>if_neg (by omega)⟩⟩
    have hq:=Zac q (.cells #[.slice (some ⟨ga,0,none⟩) N e1,.slice (some ⟨gb,0,none⟩) N e2] 106)
    have b3:=bel.trans (hq.mono bel.size)
    have own2:OwnS W.heap.size (q.alloc (.cells #[.slice (some ⟨ga,0,none⟩) N e1,.slice (some ⟨gb,0,none⟩) N e2] 106)) (.slice (some ⟨g,0,none⟩) (k+1) c) (k+1) Y2:=(hown.below b3).congr (fun j hj=>(HY.out.2 j (by omega)).symm)
    have frow:=Zaj q (.slice (some ⟨ga,0,none⟩) N e1) (.slice (some ⟨gb,0,none⟩) N e2) 106
    have d0:(q.alloc (.cells #[.slice (some ⟨ga,0,none⟩) N e1,.slice (some ⟨gb,0,none⟩) N e2] 106)).cell? ⟨q.heap.size,0,none⟩=some (.slice (Y2 (k+1)).a (Y2 (k+1)).n (Y2 (k+1)).k):=by rw [HY.out.1]; exact (Zaa frow).1
    have d1:(q.alloc (.cells #[.slice (some ⟨ga,0,none⟩) N e1,.slice (some ⟨gb,0,none⟩) N e2] 106)).cell? ⟨q.heap.size,1,none⟩=some (.slice (Y2 (k+1)).b (Y2 (k+1)).m (Y2 (k+1)).t):=by rw [HY.out.1]; exact (Zaa frow).2
    have HD0:Hid ((q.alloc (.cells #[.slice (some ⟨ga,0,none⟩) N e1,.slice (some ⟨gb,0,none⟩) N e2] 106)).cell? ⟨q.heap.size,0,none⟩=some (.slice (Y2 (k+1)).a (Y2 (k+1)).n (Y2 (k+1)).k)):=d0
    have HD1:Hid ((q.alloc (.cells #[.slice (some ⟨ga,0,none⟩) N e1,.slice (some ⟨gb,0,none⟩) N e2] 106)).cell? ⟨q.heap.size,1,none⟩=some (.slice (Y2 (k+1)).b (Y2 (k+1)).m (Y2 (k+1)).t)):=d1
    have stb2:=(hst.below b3).push (Y:=Y2) (xa:=ga) (xk:=e1) (xb:=gb) (xt:=e2) HY.out.2 HY.out.1 (show ga ≠ g by omega) (show gb ≠ g by omega) (la.below hq nr) (lb.below hq nr)
    have bW:=hbel.trans (b3.mono hbel.size)
    have hbase:W.heap.size<=(q.alloc (.cells #[.slice (some ⟨ga,0,none⟩) N e1,.slice (some ⟨gb,0,none⟩) N e2] 106)).heap.size:=bW.size
    clear d0 d1 frow sbS sbR sbSR sbRS Ba Bb Bc Bd Be KS HNX2 T0 hle u0 u1 hst hown
    go_wp2_with (at_builtin; refine wpList_append_st (by rfl) _ _ (by rfl) W.heap.size (.slice (some ⟨g,0,none⟩) (k+1) c) (k+1) Y2 q.heap.size (by rfl) (by rfl) (by exact own2) (by exact HD0.out) (by exact HD1.out) (by omega) (by exact hbase) ?_; intro v3 w3 hown3 hgr3 hat3; obtain ⟨g3,c3,hv3,hg3,_,_,_⟩:=hown3.at (by omega); subst hv3)
    have he:g3=g\/g3=(q.alloc (.cells #[.slice (some ⟨ga,0,none⟩) N e1,.slice (some ⟨gb,0,none⟩) N e2] 106)).heap.size:=by
     rcases hat3 with h | h
     ·left; simpa [Value.ownBlock] using h
     ·right; simpa [Value.ownBlock] using h
    go_roundw
    case rel=>exact ⟨k+1,g3,c3,Y2,by omega,by go_num,rfl,hown3,stb2.grown (by omega) hgr3 he,bW.grown hgr3 bW.size (fun t ht=>by simp [Value.ownBlock] at ht; omega)⟩
    case measure=>simp [intOf]; omega
  ·obtain rfl:k=nn:=by omega
   go_wp2_with fail
   go_ret
   refine ⟨some ⟨g,0,none⟩,c,Y,rfl,⟨hkc,.inr ⟨g,0,rfl,hgl,fun j hj=>?_⟩⟩,hbW.trans (hbel.mono hbW.size)⟩
   have hcl:=hcells j hj
   obtain ⟨xa,xk,xb,xt,e,_,_,l1,l2⟩:=hst j (by omega)
   rw [Nat.zero_add]
   rw [e] at hcl ⊢
   exact ⟨hcl.1,hcl.2,l1,l2⟩
end Go.Proofs.YthmiojmlaclgaaaGreatDoor.Fx
