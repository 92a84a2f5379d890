/- What the law stands on: JrnC AppsS TrSt RecRow TrnG JrnD. -/
import Derived.Test.YthmiojmlaclgaaaGreatDoorJ00
import Derived.Test.YthmiojmlaclgaaaGreatDoorJ08
import Derived.Test.YthmiojmlaclgaaaGreatDoorJ05
import Derived.Test.YthmiojmlaclgaaaGreatDoorJ18
import Derived.Test.YthmiojmlaclgaaaGreatDoorJ10
import Derived.Test.YthmiojmlaclgaaaGreatDoorJ04
set_option maxRecDepth 100000
set_option maxHeartbeats 12800000
namespace Go.Proofs.YthmiojmlaclgaaaGreatDoor.Fx
open Go.RowKit
theorem tStart_good (c:Cfg) (hc:cfgB c=true) (hs:okW c.seed) (N:Nat) (hN:(N:Int)=sizeN c) (q:World) :
  Calls Tryz.prog 166 #[c.val] q fun e w'=>∃ ga d1 gb d2,e=.returned (.tuple #[.agg #[.slice ga N d1,.slice gb N d2],.int .i64 0])/\Lst w' ga N d1 ((List.range N).map (startG c.seed))/\Lst w' gb N d2 ((List.range N).map zeroG)/\Below q.heap.size q w':=by
 refine (tStart_calls c hs q).mono ?_
 rintro e w' ⟨b1,m1,d1,b2,m2,d2,rfl,_,_,l1,l2,hb⟩
 have hNt:(sizeN c).toNat=N:=by omega
 unfold startL at l1
 unfold zeroL0 at l2
 rw [if_pos hc,hNt] at l1 l2
 rw [ZcC hc]
 have e1:N=m1:=by rw [← l1.len]; simp
 have e2:N=m2:=by rw [← l2.len]; simp
 subst e1
 rw [← e2] at l2 ⊢
 exact ⟨b1,d1,b2,d2,rfl,l1,l2,hb⟩
theorem jhead_calls (c:Cfg) (hc:cfgB c=true) (hs:okW c.seed) (N:Nat) (hN:(N:Int)=sizeN c) (a:Option Addr) (n cap:Nat) (X:Nat->Exm) (DI DO:Nat->List Int) (w:World) (hx:Exs w a n cap X DI DO) (hn2:n<=16) (hex:allEx c n X DI DO=true) :
  Calls Tryz.prog 165 #[c.val,.slice a n cap] w fun e w'=>e=.returned (.int .u64 (headP c n DI DO N))/\Below w.heap.size w w':=by
 have HOK:Hid (okL (headL c n DI DO N)):=headL_ok hc hs n DI DO N
 have hNb:=ZaU hc
 have N4:4<=N:=by omega
 have N40:N<=40:=by omega
 obtain ⟨SL,HSL⟩:=nm ((List.range N).map (startG c.seed))
 obtain ⟨ZL,HZL⟩:=nm ((List.range N).map zeroG)
 obtain ⟨SR,HSR⟩:=nm (rootP SL ZL (N+N))
 have HRV:Hid (rootV N SL N ZL=SR):=by show rootV N SL N ZL=SR; unfold rootV; rw [if_pos (show rootE N N=0 by unfold rootE; rw [if_neg (by omega),if_neg (by omega)])]; exact HSR.out
 have HRE:Hid (rootE N N=0):=by show rootE N N=0; unfold rootE; rw [if_neg (by omega),if_neg (by omega)]
 have HRS:Hid (∀ q,Calls Tryz.prog 166 #[c.val] q fun e w'=>∃ ga d1 gb d2,e=.returned (.tuple #[.agg #[.slice ga N d1,.slice gb N d2],.int .i64 0])/\Lst w' ga N d1 SL/\Lst w' gb N d2 ZL/\Below q.heap.size q w'):=fun q=>by
  have h:=tStart_good c hc hs N hN q
  rw [HSL.out,HZL.out] at h
  exact h
 have HEX:Hid (∀ j,j < n->(X j).n=(DI j).length/\(X j).m=(DO j).length/\1<=(X j).n/\(X j).n<=4/\(X j).m<=4):=fun j hj=>by
  have he:=exB_is (ZcG hex hj)
  obtain ⟨⟨i1,i2⟩,_,⟨o1,o2⟩,_⟩:=Zal hc
  obtain ⟨b,off,_,_,_,hin⟩:=hx.at hj
  exact ⟨hin.i.len.symm,hin.o.len.symm,by omega,by omega,by omega⟩
 obtain ⟨⟨i1,i2⟩,⟨h1,h2⟩,⟨o1,o2⟩,⟨b1,b2⟩,⟨s1,s2⟩,⟨r1,r2⟩,⟨d1,d2⟩,⟨w1,w2⟩,⟨k1,k2⟩,⟨q1,q2⟩⟩:=Zal hc
 have hal:=Zac w (.cells c.cells 50)
 have hx0:=hx.below hal nr
 obtain ⟨W,HW⟩:∃ q,Hid (q=w.alloc (.cells c.cells 50)):=⟨_,rfl⟩
 have KB:Hid (∀ q,Below W.heap.size W q->BoxC q w.heap.size c):=fun q hq=>by rw [HW.out] at hq; exact boxC hq (by simp)
 have HWS:Hid (w.heap.size+1=W.heap.size):=by show _=_; rw [HW.out]; simp
 rw [← HW.out] at hal hx0
 have hHP:headP c n DI DO N=ofP 5 (headL c n DI DO N):=rfl
 rw [hHP]
 have own0:=OwnW.lit W [c.i,c.h,c.o,c.seed,c.batch,c.steps,c.rate,c.decay,c.how,c.keep,c.clip] (by simp)
 have hl0:=Zac W (.cells #[.int .u64 c.i,.int .u64 c.h,.int .u64 c.o,.int .u64 c.seed,.int .u64 c.batch,.int .u64 c.steps,.int .u64 c.rate,.int .u64 c.decay,.int .u64 c.how,.int .u64 c.keep,.int .u64 c.clip] 48)
 have HHL:Hid (headL c n DI DO N=([c.i,c.h,c.o,c.seed,c.batch,c.steps,c.rate,c.decay,c.how,c.keep,c.clip] ++ (List.range n).map (exRoot DI DO)) ++ [SR]):=by
  show headL c n DI DO N=_
  rw [← HSR.out,← HSL.out,← HZL.out]
  rfl
 obtain ⟨HL,hHLe⟩:∃ l,headL c n DI DO N=l:=⟨_,rfl⟩
 rw [hHLe] at HOK HHL ⊢
 clear hHLe hHP hx hex hc hNb hN HSR HSL HZL
 obtain ⟨i,h,o,seed,batch,steps,crate,decay,how,keep,clip⟩:=c
 simp only [Cfg.val,Cfg.cells] at *
 obtain ⟨c0,c1,c2,c3,c4,c5,c6,c7,c8,c9,c10⟩:=KB.out _ br
 dsimp only at c0 c1 c2 c3 c4 c5 c6 c7 c8 c9 c10
 go_enter Tryz.func165,Tryz.ntmps165
 go_wp2_with fail
 rw [← HW.out]
 clear HW
 go_loopw [5,51] (fun v t wr=>∃ k:Nat,k<=n/\t=.int .i64 k/\OwnW W.heap.size wr v ([i,h,o,seed,batch,steps,crate,decay,how,keep,clip] ++ (List.range k).map (exRoot DI DO))/\Below W.heap.size W wr) (fun _ t _=>n - (intOf t).toNat)
 case atStart=>exact ⟨0,Nat.zero_le _,rfl,by rw [HWS.out]; simpa using own0,hl0⟩
 case round =>
  clear own0 hl0 c0 c1 c2 c3 c4 c5 c6 c7 c8 c9 c10
  obtain ⟨k,hk,rfl,hown,hbel⟩:=hrel
  have hsz:=hbel.size
  have hll:([i,h,o,seed,batch,steps,crate,decay,how,keep,clip] ++ (List.range k).map (exRoot DI DO)).length=11+k:=by simp; omega
  by_cases hlt:k < n
  ·obtain ⟨g1,g2,g3,g4,g5⟩:=HEX.out k hlt
   obtain ⟨xb,xo,rfl,e1,e2,hin⟩:=hx0.at hlt
   obtain ⟨x,hxk⟩:∃ x,X k=x:=⟨_,rfl⟩
   rw [hxk] at e1 e2 hin g1 g2 g3 g4 g5
   obtain ⟨xa,xn,xk,ya,yn,yk⟩:=x
   dsimp only at e1 e2 g1 g2 g3 g4 g5
   obtain ⟨lI,lO⟩:=hin
   dsimp only at lI lO
   obtain ⟨RT,HRT⟩:=nm (exRoot DI DO k)
   have hE0:rootE xn yn=0:=by unfold rootE; rw [if_neg (by omega),if_neg (by omega)]
   have hV0:rootV xn (DI k) yn (DO k)=RT:=by unfold rootV; rw [if_pos hE0,← HRT.out,g1,g2]; rfl
   have hal1:=Zac wr (.cells #[.slice xa xn xk,.slice ya yn yk] 78)
   have RB:=rob_calls xa xn xk (DI k) ya yn yk (DO k) _ ((lI.below hbel nr).below hal1 nr) ((lO.below hbel nr).below hal1 nr) (by omega)
   rw [hV0,hE0] at RB
   have t1:=(hbel.cell (p:=⟨xb,xo+k * 2,none⟩) (Zas e1)).trans e1
   have t2:=(hbel.cell (p:=⟨xb,xo+k * 2+1,none⟩) (Zas e2)).trans e2
   obtain ⟨y0,y1⟩:=Zaa (Zaj wr (.slice xa xn xk) (.slice ya yn yk) 78)
   clear lI lO e1 e2 hxk g1 g2 hE0 hV0
   go_wp2_with fail
   refine RB.mono ?_
   rintro e u1 ⟨rfl,hu1⟩
   have T1:=hal1.trans (hu1.mono hal1.size)
   have T2:=T1.alloc T1.size (.cells #[.int .u64 RT] 48)
   have O2:=hown.below T2
   have B2:=hbel.trans (T2.mono hbel.size)
   clear y0 y1 t1 t2 RB
   go_wp2_with (at_builtin; refine Zak (by rfl) _ _ (by rfl) W.heap.size _ ([i,h,o,seed,batch,steps,crate,decay,how,keep,clip] ++ (List.range k).map (exRoot DI DO)) RT u1.heap.size W (by rfl) (by rfl) (by exact O2) (by exact Zaf _ _ _) (by rw [hll]; omega) (by exact B2.size) (by exact B2) ?_; intro v7 w7 hown7 hbel7)
   go_roundw
   case rel=>exact ⟨k+1,by omega,by go_num,hown7.congr (by rw [List.append_assoc,Zbh (exRoot DI DO) k RT HRT.out]),hbel7⟩
   case measure=>simp [intOf]; omega
  ·obtain rfl:k=n:=by omega
   obtain ⟨c0,c1,c2,c3,c4,c5,c6,c7,c8,c9,c10⟩:=KB.out _ hbel
   dsimp only at c0 c1 c2 c3 c4 c5 c6 c7 c8 c9 c10
   go_wp2_with fail
   refine (HRS.out _).mono ?_
   rintro e u1 ⟨ga,e1,gb,e2,rfl,l1,l2,hu1⟩
   clear c0 c1 c2 c3 c4 c5 c6 c7 c8 c9 c10
   have hal1:=Zac u1 (.cells #[.slice ga N e1,.slice gb N e2] 106)
   obtain ⟨y0,y1⟩:=Zaa (Zaj u1 (.slice ga N e1) (.slice gb N e2) 106)
   have RR:=jroot_calls ga N e1 SL gb N e2 ZL _ (l1.below hal1 nr) (l2.below hal1 nr) (by omega)
   rw [HRV.out,HRE.out] at RR
   clear l1 l2
   go_wp2_with fail
   refine RR.mono ?_
   rintro e u2 ⟨rfl,hu2⟩
   have T1:=hu1.trans ((hal1.trans (hu2.mono hal1.size)).mono hu1.size)
   have T3:=T1.alloc T1.size (.cells #[.int .u64 SR] 48)
   have O3:=hown.below T3
   have B3:=hbel.trans (T3.mono hbel.size)
   clear y0 y1 RR
   go_wp2_with (at_builtin; refine Zak (by rfl) _ _ (by rfl) W.heap.size _ ([i,h,o,seed,batch,steps,crate,decay,how,keep,clip] ++ (List.range k).map (exRoot DI DO)) SR u2.heap.size W (by rfl) (by rfl) (by exact O3) (by exact Zaf _ _ _) (by rw [hll]; omega) (by exact B3.size) (by exact B3) ?_; intro v7 w7 hown7 hbel7; obtain ⟨va,vc,hv7,l7⟩:=hown7.lst' (n:=12+k) (by simp; omega); subst hv7; rw [← HHL.out] at l7)
   have HO:=dOf_calls 5 ⟨by omega,by omega⟩ _ _ _ _ _ l7 HOK.out
   rw [show ofA 5 HL (12+k)=ofP 5 HL from if_neg (by omega),show bigI (12+k)=0 from if_neg (by omega)] at HO
   refine HO.mono ?_
   rintro e w8 ⟨rfl,hw8⟩
   go_wp2_with fail
   go_ret
   exact ⟨rfl,hal.trans ((hbel7.trans (hw8.mono hbel7.size)).mono hal.size)⟩
section
def stCells (X:Nat->Exm):Nat->List Value
 | 0=>[]
 | n+1=>stCells X n ++ [.slice (X n).a (X n).n (X n).k,.slice (X n).b (X n).m (X n).t]
theorem stCells_len (X:Nat->Exm) (n:Nat):(stCells X n).length=n * 2:=by
 induction n with
 | zero=>rfl
 | succ k ih=>simp [stCells,ih]; omega
theorem Zbw {X Y:Nat->Exm} {n:Nat} (h:∀ i,i < n->X i=Y i):stCells X n=stCells Y n:=by
 induction n with
 | zero=>rfl
 | succ k ih=>simp only [stCells]; rw [ih (fun i hi=>h i (by omega)),h k (by omega)]
theorem stCells_at (X:Nat->Exm) {n i:Nat} (h:i < n):(stCells X n)[i * 2]?=some (.slice (X i).a (X i).n (X i).k)/\(stCells X n)[i * 2+1]?=some (.slice (X i).b (X i).m (X i).t):=by
 induction n with
 | zero=>omega
 | succ k ih =>
   have hl:=stCells_len X k
   simp only [stCells]
   by_cases e:i=k
   ·subst e
    rw [List.getElem?_append_right (by omega),List.getElem?_append_right (by omega),hl]
    simp
   ·have g:=ih (by omega)
    rw [List.getElem?_append_left (by omega),List.getElem?_append_left (by omega)]
    exact g
def OwnS (base:Nat) (w:World) (v:Value) (n:Nat) (X:Nat->Exm):Prop:=w.ownsRow base 106 2 v n (stCells X n)
theorem OwnS.below {base:Nat} {w w':World} {v:Value} {n:Nat} {X:Nat->Exm} (h:OwnS base w v n X) (hb:Below w.heap.size w w'):OwnS base w' v n X:=by
 refine ⟨h.1,?_⟩
 rcases h.2 with h0 | ⟨g,cap,cur,hv,hg,hh,r⟩
 ·exact .inl h0
 ·exact .inr ⟨g,cap,cur,hv,hg,by rw [hb.block g (Array.getElem?_eq_some_iff.1 hh).1]; exact hh,r⟩
theorem infoS:(Tryz.prog.info? 106).map (fun i=>(i.zero,i.size,i.bytes))=some (some (.agg #[.slice none 0 0,.slice none 0 0]),2,48):=by kernel_rfl
section
variable {w' W0:World} {ops:Array Oper} {o:Oper} {a:Act} {Q:Exit->Act->World->Prop}
theorem run_append_st (ty:TypeId) (base:Nat) (v:Value) (n:Nat) (X:Nat->Exm) (g:Nat) (hown:OwnS base w' v n X) (hc0:w'.cell? ⟨g,0,none⟩=some (.slice (X n).a (X n).n (X n).k)) (hc1:w'.cell? ⟨g,1,none⟩=some (.slice (X n).b (X n).m (X n).t)) (hn:(n+1) * 48<=140737488355328) (hbase:base<=w'.heap.size) :
  ∃ v' w1,(Builtin.append_ #[96,96] ty #[v,.slice (some ⟨g,0,none⟩) 1 1]).run Tryz.prog w'=.ok v' w1/\OwnS base w1 v' (n+1) X/\w'.grownBy w1 v.ownBlock/\(v'.ownBlock=v.ownBlock\/v'.ownBlock=some w'.heap.size):=by
 obtain ⟨i0,hi,hz0,hz1,hz2⟩:=info_parts infoS
 obtain ⟨v',w1,hrun,h1,h2,_,h3⟩:=run_append_own_at (P:=Tryz.prog) w' base 96 ty 106 i0 (.agg #[.slice none 0 0,.slice none 0 0]) 2 48 Tryz.underlying96 hi hz0 hz1 hz2 rfl (by decide) v n _ hown ⟨g,0,none⟩ 1 1 [.slice (X n).a (X n).n (X n).k,.slice (X n).b (X n).m (X n).t] rfl
  (by intro j u hj
      match j,hj with
      | 0,hj=>simp at hj; subst hj; simpa [Addr.add] using hc0
      | 1,hj=>simp at hj; subst hj; simpa [Addr.add] using hc1)
  (by intro u hu
      simp at hu
      rcases hu with rfl | rfl <;> rfl) (by unfold maxLen; omega) hn hbase
 exact ⟨v',w1,hrun,h1,h2,h3⟩
theorem wpList_append_st {rest:List Oper} (hgd:o.guard=none) (s x:Operand) (ho:o.op=.call { callee:=.builtin .append,args:=#[s,x],argTypes:=#[96,96] })
  (base:Nat) (v:Value) (n:Nat) (X:Nat->Exm) (g:Nat) (hs:a.eval s=v) (hx:a.eval x=.slice (some ⟨g,0,none⟩) 1 1) (hown:OwnS base w' v n X) (hc0:w'.cell? ⟨g,0,none⟩=some (.slice (X n).a (X n).n (X n).k)) (hc1:w'.cell? ⟨g,1,none⟩=some (.slice (X n).b (X n).m (X n).t)) (hn:(n+1) * 48<=140737488355328) (hbase:base<=w'.heap.size)
  (h:∀ v' w1,OwnS base w1 v' (n+1) X->w'.grownBy w1 v.ownBlock->(v'.ownBlock=v.ownBlock\/v'.ownBlock=some w'.heap.size)->wpList Tryz.prog ops Q rest (a.put o.dst v') w1):wpList Tryz.prog ops Q (o :: rest) a w':=by
 obtain ⟨v',w1,hrun,h1,h2,h3⟩:=run_append_st o.type base v n X g hown hc0 hc1 hn hbase
 refine wpList_plain hgd fun K hK=>?_
 unfold Oper.wp
 simp [execOp,ho,resolve,invoke,builtin,hs,hx,hrun,Result.andThen]
 exact hK _ _ (h v' w1 h1 h2 h3)
end
end
def FarB (a:Option Addr) (b:Nat):Prop:=∀ bg o,a=some ⟨bg,o,none⟩->bg ≠ b
theorem FarB.some {g b:Nat} (h:g ≠ b) {o:Nat}:FarB (Option.some ⟨g,o,Option.none⟩) b:=fun bg o' e=>by
 simp only [Option.some.injEq,Addr.mk.injEq,and_true] at e
 omega
theorem Lst.offB {w:World} {a:Option Addr} {n c:Nat} {xs:List Int} (h:Lst w a n c xs) {b:Nat} (hf:FarB a b) (i:Nat) (v:Value):Lst (w.setCell ⟨b,i,none⟩ v) a n c xs:=by
 rcases h.2.2 with h0 | ⟨g,off,rfl,hs,hc⟩
 ·exact ⟨h.1,h.2.1,.inl h0⟩
 ·exact h.setFar (a:=⟨b,i,none⟩) (hf g off rfl) v
def recC (x:Rcm) (t:Nat):Value:=fn5 (.int .i64 x.s) (.slice x.a x.n x.k) (.int .i64 x.r) (.int .u64 x.root) (.int .u64 x.chain) t
def zeroRc:Rcm:=⟨0,none,0,0,0,0,0⟩
def rcsR (R:Nat->Rcm) (K i:Nat):Value:=if i < K * 5 then recC (R (i / 5)) (i % 5) else recC zeroRc (i % 5)
theorem made5 (w:World) (z0 z1 z2 z3 z4:Value) (m:Nat) (t:TypeId):(w.alloc (.cells (madeCells #[z0,z1,z2,z3,z4] m) t)).rowIs w.heap.size t m (fun i=>fn5 z0 z1 z2 z3 z4 (i % 5)):=by
 refine ⟨_,Go.Deep.blk_alloc_new _ _,size_madeCells _ _,fun i hi=>?_⟩
 rcases lt5 (Nat.mod_lt i (show 0 < 5 by omega)) with h | h | h | h | h <;> simp [madeCells,hi,h,fn5]
theorem rcsR_zero {w:World} {b t n:Nat} {R:Nat->Rcm} (h:w.rowIs b t n (fun i=>fn5 (.int .i64 0) (.slice none 0 0) (.int .i64 0) (.int .u64 0) (.int .u64 0) (i % 5))):w.rowIs b t n (rcsR R 0):=h.congr (fun i _=>by unfold rcsR; rw [if_neg (by omega)]; rfl)
theorem ZaT {w:World} {b t n K j:Nat} {R:Nat->Rcm} (h:w.rowIs b t n (rcsR R K)) (hj:j < K) (hn:K * 5<=n) {i:Nat} (hi:i < 5):w.cell? ⟨b,j * 5+i,none⟩=some (recC (R j) i):=by
 rw [h.cell (by omega)]
 unfold rcsR
 rw [if_pos (by omega),show (j * 5+i) / 5=j by omega,show (j * 5+i) % 5=i by omega]
theorem rcsR_new {w:World} {b t n K j:Nat} {R:Nat->Rcm} (h:w.rowIs b t n (rcsR R K)) (hj:K<=j) (hn:j * 5+5<=n) {i:Nat} (hi:i < 5):w.cell? ⟨b,j * 5+i,none⟩=some (recC zeroRc i):=by
 rw [h.cell (by omega)]
 unfold rcsR
 rw [if_neg (by omega),show (j * 5+i) % 5=i by omega]
theorem rcsR_push {w:World} {b t n K:Nat} {R R2:Nat->Rcm} (h:w.rowIs b t n (rcsR R K)) (x:Rcm) (h2:R2 K=x) (h3:∀ j,j < K->R2 j=R j) :
  (((((w.setCell ⟨b,K * 5,none⟩ (.int .i64 x.s)).setCell ⟨b,K * 5+1,none⟩ (.slice x.a x.n x.k)).setCell ⟨b,K * 5+2,none⟩ (.int .i64 x.r)).setCell ⟨b,K * 5+3,none⟩ (.int .u64 x.root)).setCell ⟨b,K * 5+4,none⟩ (.int .u64 x.chain)).rowIs b t n (rcsR R2 (K+1)):=by
 refine (((((h.set _ _).set _ _).set _ _).set _ _).set _ _).congr (fun i hi=>?_)
 have e5:i=K * 5+4\/i=K * 5+3\/i=K * 5+2\/i=K * 5+1\/i=K * 5\/i < K * 5\/K * 5+5<=i:=by omega
 unfold rcsR
 rcases e5 with e | e | e | e | e | e | e
 ·rw [if_pos e,if_pos (by omega),show i / 5=K by omega,show i % 5=4 by omega,h2]; rfl
 ·rw [if_neg (by omega),if_pos e,if_pos (by omega),show i / 5=K by omega,show i % 5=3 by omega,h2]; rfl
 ·rw [if_neg (by omega),if_neg (by omega),if_pos e,if_pos (by omega),show i / 5=K by omega,show i % 5=2 by omega,h2]; rfl
 ·rw [if_neg (by omega),if_neg (by omega),if_neg (by omega),if_pos e,if_pos (by omega),show i / 5=K by omega,show i % 5=1 by omega,h2]; rfl
 ·rw [if_neg (by omega),if_neg (by omega),if_neg (by omega),if_neg (by omega),if_pos e,if_pos (by omega),show i / 5=K by omega,show i % 5=0 by omega,h2]; rfl
 ·rw [if_neg (by omega),if_neg (by omega),if_neg (by omega),if_neg (by omega),if_neg (by omega),if_pos e,if_pos (by omega),h3 (i / 5) (by omega)]
 ·rw [if_neg (by omega),if_neg (by omega),if_neg (by omega),if_neg (by omega),if_neg (by omega),if_neg (by omega),if_neg (by omega)]
theorem recC_int {x:Rcm} {t:Nat} {y:Int} (h:recC x t=.int .i64 y) (ht:t < 5):t=0\/t=2:=by
 rcases lt5 ht with rfl | rfl | rfl | rfl | rfl
 ·exact .inl rfl
 ·cases h
 ·exact .inr rfl
 ·cases h
 ·cases h
theorem row_lt {w:World} {b t n i:Nat} {f:Nat->Value} {v:Value} (h:w.rowIs b t n f) (hc:w.cell? ⟨b,i,none⟩=some v):i < n/\f i=v:=by
 by_cases hi:i < n
 ·rw [h.cell hi] at hc
  exact ⟨hi,by simpa using hc⟩
 ·obtain ⟨cs,hb,hsz,_⟩:=h
  simp only [World.cell?,hb] at hc
  rw [Array.getElem?_eq_none (by omega)] at hc
  cases hc
theorem Lst.apart {w:World} {b t n len c:Nat} {f:Nat->Value} {a:Option Addr} {xs:List Int} (hl:Lst w a len c xs) (h2:2<=len) (h:w.rowIs b t n f) (hf:∀ i x y,f i=.int .i64 x->f (i+1)=.int .i64 y->False):FarB a b:=fun bg o e hb=>by
 obtain ⟨b',off,e',hs,hc⟩:=hl.at (by omega)
 rw [e] at e'
 simp only [Option.some.injEq,Addr.mk.injEq,and_true] at e'
 obtain ⟨rfl,rfl⟩:=e'
 subst hb
 exact hf _ _ _ (row_lt h (hc 0 (by omega))).2 (row_lt h (hc 1 (by omega))).2
theorem recC_apart (x:Rcm) (i:Nat) (hi:i+1 < 5) (u v:Int) (h1:recC x i=.int .i64 u) (h2:recC x (i+1)=.int .i64 v):False:=by
 have:=recC_int h1 (by omega)
 have:=recC_int h2 hi
 omega
theorem rcsR_apart (R:Nat->Rcm) (K i:Nat) (u v:Int) (h1:rcsR R K i=.int .i64 u) (h2:rcsR R K (i+1)=.int .i64 v):False:=by
 have k:∀ j w,rcsR R K j=.int .i64 w->j % 5=0\/j % 5=2:=fun j w h=>by
  unfold rcsR at h
  by_cases e:j < K * 5
  ·rw [if_pos e] at h; exact recC_int h (Nat.mod_lt _ (by omega))
  ·rw [if_neg e] at h; exact recC_int h (Nat.mod_lt _ (by omega))
 have:=k _ _ h1
 have:=k _ _ h2
 omega
theorem Lst.apart5 {w:World} {b t len c:Nat} {x:Rcm} {a:Option Addr} {xs:List Int} (hl:Lst w a len c xs) (h2:2<=len) (h:w.rowIs b t 5 (recC x)):FarB a b:=fun bg o e hb=>by
 obtain ⟨b',off,e',hs,hc⟩:=hl.at (by omega)
 rw [e] at e'
 simp only [Option.some.injEq,Addr.mk.injEq,and_true] at e'
 obtain ⟨rfl,rfl⟩:=e'
 subst hb
 have k1:=row_lt h (hc 0 (by omega))
 have k2:=row_lt h (hc 1 (by omega))
 exact recC_apart x o k2.1 _ _ k1.2 k2.2
theorem infoR:(Tryz.prog.info? 111).map (fun i=>(i.zero,i.size,i.bytes))=some (some (.agg #[.int .i64 0,.slice none 0 0,.int .i64 0,.int .u64 0,.int .u64 0]),5,56):=by kernel_rfl
theorem Arr.offS {w:World} {b c n:Nat} {f:Nat->Int} (h:Arr w b c n f) {p:Addr} {x:Option Addr} {y z:Nat} (hp:w.cell? p=some (.slice x y z)) (u:Value):Arr (w.setCell p u) b c n f:=by
 by_cases e:b=p.block
 ·obtain ⟨hc,F,hr,hf⟩:=h
  obtain ⟨pb,po,ps⟩:=p
  have hs:ps=none:=by simpa using World.cell?_spot hp
  subst hs
  dsimp only at e
  subst e
  refine ⟨hc,_,hr.set po u,fun i hi=>?_⟩
  have hne:i ≠ po:=fun e2=>by
   subst e2
   rw [hr.cell (by omega),hf i hi] at hp
   cases hp
  simp only [if_neg hne]
  exact hf i hi
 ·exact h.setOther e u
def JrIn (w:World) (OB base B k:Nat) (R:Nat->Rcm) (DG:Nat->Nat->Int):Prop:=∀ j,j < k->(R j).n=B/\(R j).k=B/\∃ bg,(R j).a=some ⟨bg,0,none⟩/\base<=bg/\bg ≠ OB/\Arr w bg B B (DG j)
theorem JrIn.below {w w':World} {OB base B k:Nat} {R:Nat->Rcm} {DG:Nat->Nat->Int} (h:JrIn w OB base B k R DG) (hb:Below w.heap.size w w'):JrIn w' OB base B k R DG:=fun j hj=>by
 obtain ⟨h1,h2,bg,h3,h4,h5,hl⟩:=h j hj
 exact ⟨h1,h2,bg,h3,h4,h5,hl.below hb⟩
theorem JrIn.setS {w:World} {OB base B k:Nat} {R:Nat->Rcm} {DG:Nat->Nat->Int} (h:JrIn w OB base B k R DG) {p:Addr} {x:Option Addr} {y z:Nat} (hp:w.cell? p=some (.slice x y z)) (u:Value):JrIn (w.setCell p u) OB base B k R DG:=fun j hj=>by
 obtain ⟨h1,h2,bg,h3,h4,h5,hl⟩:=h j hj
 exact ⟨h1,h2,bg,h3,h4,h5,hl.offS hp u⟩
theorem JrIn.setO {w:World} {OB base B k:Nat} {R:Nat->Rcm} {DG:Nat->Nat->Int} (h:JrIn w OB base B k R DG) (i:Nat) (u:Value):JrIn (w.setCell ⟨OB,i,none⟩ u) OB base B k R DG:=fun j hj=>by
 obtain ⟨h1,h2,bg,h3,h4,h5,hl⟩:=h j hj
 exact ⟨h1,h2,bg,h3,h4,h5,hl.setOther (a:=⟨OB,i,none⟩) h5 u⟩
def JrNo (k b:Nat) (R:Nat->Rcm):Prop:=∀ j,j < k->FarB (R j).a b
theorem JrIn.no {w:World} {OB base B k:Nat} {R:Nat->Rcm} {DG:Nat->Nat->Int} (h:JrIn w OB base B k R DG) {b:Nat} (hb:w.heap.size<=b):JrNo k b R:=fun j hj=>by
 obtain ⟨h1,h2,bg,h3,h4,h5,hl⟩:=h j hj
 have:=hl.lt
 rw [h3]
 exact FarB.some (by omega)
theorem JrIn.setN {w:World} {OB base B k:Nat} {R:Nat->Rcm} {DG:Nat->Nat->Int} (h:JrIn w OB base B k R DG) {b:Nat} (hb:JrNo k b R) (i:Nat) (u:Value):JrIn (w.setCell ⟨b,i,none⟩ u) OB base B k R DG:=fun j hj=>by
 obtain ⟨h1,h2,bg,h3,h4,h5,hl⟩:=h j hj
 have:=hb j hj
 rw [h3] at this
 exact ⟨h1,h2,bg,h3,h4,h5,hl.setOther (a:=⟨b,i,none⟩) (this bg 0 rfl) u⟩
theorem JrIn.push {w:World} {OB base B k:Nat} {R R2:Nat->Rcm} {DG:Nat->Nat->Int} (h:JrIn w OB base B k R DG) (hR:∀ j,j < k->R2 j=R j) {s r root chain:Int} {bg:Nat} (h2:R2 k=⟨s,some ⟨bg,0,none⟩,B,B,r,root,chain⟩) (h4:base<=bg) (h5:bg ≠ OB) (hl:Arr w bg B B (DG k)):JrIn w OB base B (k+1) R2 DG:=fun j hj=>by
 by_cases e:j=k
 ·subst e; rw [h2]; exact ⟨rfl,rfl,bg,rfl,h4,h5,hl⟩
 ·rw [hR j (by omega)]; exact h j (by omega)
theorem tNext_own (c:Cfg) (hc:cfgB c=true) (a:Option Addr) (n cap:Nat) (a1:Option Addr) (n1 k1:Nat) (ws:List Int) (a2:Option Addr) (n2 k2:Nat) (ms:List Int) (step:Int) (w:World) (l1:Lst w a1 n1 k1 ws) (l2:Lst w a2 n2 k2 ms) (HC:Hid (∀ q,Below w.heap.size w q->Calls Tryz.prog 83 #[c.val,.slice a n cap] q fun e w'=>e=.returned (.int .i64 0)/\Below q.heap.size q w')) (f1:fitB c n1 ws=true) (f2:fitB c n2 ms=true) (hst:inB step 0 (c.steps - 1)=true) (B:Nat) (R:Int) (F M G:Nat->Int) (HNX:Hid (∀ q,Below w.heap.size w q->Calls Tryz.prog 91 #[c.val,.slice a n cap,.agg #[.slice a1 n1 k1,.slice a2 n2 k2],.int .i64 step] q fun e w'=>∃ g1 d1 g2 d2 bg,e=.returned (.tuple #[.agg #[.slice (some ⟨g1,0,none⟩) n1 d1,.slice (some ⟨g2,0,none⟩) n1 d2],.slice (some ⟨bg,0,none⟩) B B,.int .i64 R])/\NextO q w' n1 B F M G g1 d1 g2 d2 bg)) :
  Calls Tryz.prog 167 #[c.val,.slice a n cap,.agg #[.slice a1 n1 k1,.slice a2 n2 k2],.int .i64 step] w fun e w'=>∃ g1 d1 g2 d2 bg,e=.returned (.tuple #[.agg #[.slice (some ⟨g1,0,none⟩) n1 d1,.slice (some ⟨g2,0,none⟩) n1 d2],.slice (some ⟨bg,0,none⟩) B B,.int .i64 R,.int .i64 0])/\NextO w w' n1 B F M G g1 d1 g2 d2 bg:=by
 have hlow:=in_is hst
 clear hst
 have sb0:=StBox.start w c (.slice a1 n1 k1) (.slice a2 n2 k2)
 have CK:=HC.out _ sb0.bel
 have hz:=ZaU hc
 have HN:Hid (∀ q,Calls Tryz.prog 130 #[c.val] q fun e w'=>e=.returned (.int .i64 (sizeN c))/\w'=q.alloc (.cells c.cells 50)):=fun q=>tcount_calls c hc q
 have HI1:Hid (∀ q,Below w.heap.size w q->Calls Tryz.prog 124 #[.slice a1 n1 k1,.int .i64 (sizeN c)] q fun e w'=>e=.returned (.bool true)/\w'=q):=fun q hq=>by
  have:=ZbH a1 n1 k1 ws (sizeN c) q (l1.below hq nr) (by omega)
  rw [show (decide ((n1:Int)=sizeN c) && rightB ws)=true from f1] at this
  exact this
 have HI2:Hid (∀ q,Below w.heap.size w q->Calls Tryz.prog 124 #[.slice a2 n2 k2,.int .i64 (sizeN c)] q fun e w'=>e=.returned (.bool true)/\w'=q):=fun q hq=>by
  have:=ZbH a2 n2 k2 ms (sizeN c) q (l2.below hq nr) (by omega)
  rw [show (decide ((n2:Int)=sizeN c) && rightB ms)=true from f2] at this
  exact this
 generalize sizeN c=Z at *
 clear HC l1 l2 f1 f2 hc hz
 obtain ⟨i,h,o,seed,batch,steps,crate,decay,how,keep,clip⟩:=c
 simp only [Cfg.val,Cfg.cells] at *
 go_enter Tryz.func167,Tryz.ntmps167
 go_wp2_with fail
 refine CK.mono ?_
 rintro e w1 ⟨rfl,hw1⟩
 have sb1:=sb0.below hw1
 clear hw1 sb0 CK
 have KS:Hid (∀ q,Below w1.heap.size w1 q->q.cell? ⟨w.heap.size,0,none⟩=some (.int .i64 i)/\q.cell? ⟨w.heap.size,1,none⟩=some (.int .i64 h)/\q.cell? ⟨w.heap.size,2,none⟩=some (.int .i64 o)/\q.cell? ⟨w.heap.size,3,none⟩=some (.int .u64 seed)/\q.cell? ⟨w.heap.size,4,none⟩=some (.int .i64 batch)/\q.cell? ⟨w.heap.size,5,none⟩=some (.int .i64 steps)/\q.cell? ⟨w.heap.size,6,none⟩=some (.int .i64 crate)/\q.cell? ⟨w.heap.size,7,none⟩=some (.int .i64 decay)/\q.cell? ⟨w.heap.size,8,none⟩=some (.int .i64 how)/\q.cell? ⟨w.heap.size,9,none⟩=some (.int .i64 keep)/\q.cell? ⟨w.heap.size,10,none⟩=some (.int .i64 clip)/\q.cell? ⟨w.heap.size+1,0,none⟩=some (.slice a1 n1 k1)/\q.cell? ⟨w.heap.size+1,1,none⟩=some (.slice a2 n2 k2)):=fun q hq=>by
  have sq:=sb1.below hq
  obtain ⟨x0,x1,x2,x3,x4,x5,x6,x7,x8,x9,x10⟩:=sq.cfg
  exact ⟨x0,x1,x2,x3,x4,x5,x6,x7,x8,x9,x10,(Zaa sq.st).1,(Zaa sq.st).2⟩
 have KW:Hid (∀ q,Below w1.heap.size w1 q->Below w.heap.size w q):=fun q hq=>(sb1.below hq).bel
 have T0:Below w1.heap.size w1 w1:=br
 have T1:Below w1.heap.size w1 (w1.alloc (.cells #[.int .i64 i,.int .i64 h,.int .i64 o,.int .u64 seed,.int .i64 batch,.int .i64 steps,.int .i64 crate,.int .i64 decay,.int .i64 how,.int .i64 keep,.int .i64 clip] 50)):=T0.alloc T0.size _
 have T2:Below w1.heap.size w1 ((w1.alloc (.cells #[.int .i64 i,.int .i64 h,.int .i64 o,.int .u64 seed,.int .i64 batch,.int .i64 steps,.int .i64 crate,.int .i64 decay,.int .i64 how,.int .i64 keep,.int .i64 clip] 50)).alloc (.cells #[.int .i64 i,.int .i64 h,.int .i64 o,.int .u64 seed,.int .i64 batch,.int .i64 steps,.int .i64 crate,.int .i64 decay,.int .i64 how,.int .i64 keep,.int .i64 clip] 50)):=T1.alloc T1.size _
 obtain ⟨c0,c1,c2,c3,c4,c5,c6,c7,c8,c9,c10,s0,s1⟩:=KS.out _ T0
 obtain ⟨d0,d1,d2,d3,d4,d5,d6,d7,d8,d9,d10,t0,t1⟩:=KS.out _ T1
 go_wp2_with fail
 have S0:=KS.out _ (Below.drew T0)
 have S1:=KS.out _ (Below.drew T1)
 have S2:=KS.out _ (Below.drew T2)
 go_region_held3 (fun q=>q.cell? ⟨w.heap.size,0,none⟩=some (.int .i64 i)/\q.cell? ⟨w.heap.size,1,none⟩=some (.int .i64 h)/\q.cell? ⟨w.heap.size,2,none⟩=some (.int .i64 o)/\q.cell? ⟨w.heap.size,3,none⟩=some (.int .u64 seed)/\q.cell? ⟨w.heap.size,4,none⟩=some (.int .i64 batch)/\q.cell? ⟨w.heap.size,5,none⟩=some (.int .i64 steps)/\q.cell? ⟨w.heap.size,6,none⟩=some (.int .i64 crate)/\q.cell? ⟨w.heap.size,7,none⟩=some (.int .i64 decay)/\q.cell? ⟨w.heap.size,8,none⟩=some (.int .i64 how)/\q.cell? ⟨w.heap.size,9,none⟩=some (.int .i64 keep)/\q.cell? ⟨w.heap.size,10,none⟩=some (.int .i64 clip)/\q.cell? ⟨w.heap.size+1,0,none⟩=some (.slice a1 n1 k1)/\q.cell? ⟨w.heap.size+1,1,none⟩=some (.slice a2 n2 k2)) (first | with_reducible exact S0 | with_reducible exact S1 | with_reducible exact S2)
  (first | (go_at_call 130; refine (HN.out _).mono ?_; rintro e w' ⟨rfl,rfl⟩) | (go_at_call_of 124 (Value.slice a1 n1 k1); refine (HI1.out _ (KW.out _ (Below.drew T1))).mono ?_; rintro e w' ⟨rfl,rfl⟩) | (go_at_call_of 124 (Value.slice a2 n2 k2); refine (HI2.out _ (KW.out _ (Below.drew T2))).mono ?_; rintro e w' ⟨rfl,rfl⟩))
 have T3:=Below.drew T2
 clear S0 S1 S2 c0 c1 c2 c3 c4 c5 c6 c7 c8 c9 c10 s0 s1 d0 d1 d2 d3 d4 d5 d6 d7 d8 d9 d10 t0 t1 T0 T1 T2 HN HI1 HI2
 generalize ((w1.alloc (.cells #[.int .i64 i,.int .i64 h,.int .i64 o,.int .u64 seed,.int .i64 batch,.int .i64 steps,.int .i64 crate,.int .i64 decay,.int .i64 how,.int .i64 keep,.int .i64 clip] 50)).alloc (.cells #[.int .i64 i,.int .i64 h,.int .i64 o,.int .u64 seed,.int .i64 batch,.int .i64 steps,.int .i64 crate,.int .i64 decay,.int .i64 how,.int .i64 keep,.int .i64 clip] 50)).drew=w2 at T3 ⊢
 have sb2:=sb1.below T3
 have hr1:=sb2.res
 have hb1:=sb2.bel
 obtain ⟨r0,r1⟩:=Zaa hr1
 have f0:=hr1.frozen 0
 have f1:=hr1.frozen 1
 obtain ⟨c0,c1,c2,c3,c4,c5,c6,c7,c8,c9,c10,s0,s1⟩:=KS.out _ T3
 have h0:¬ step < 0:=by omega
 have h1:¬ steps<=step:=by omega
 have NX:=HNX.out _ hb1
 clear HNX KS KW
 go_wp2_with fail
 refine NX.mono ?_
 rintro e u4 ⟨xa,e1,xb,e2,bg,rfl,lw,lm,lb,m1,m2,m3,nn1,nn2,nn3,hcp,hu4⟩
 have z3:=sb2.res.lt
 clear NX c0 c1 c2 c3 c4 c5 c6 c7 c8 c9 c10 s0 s1 r0 r1 f0 f1 hr1 hb1
 have sb4:=sb2.below hu4
 have hal:=Zac u4 (.cells #[.slice (some ⟨xa,0,none⟩) n1 e1,.slice (some ⟨xb,0,none⟩) n1 e2] 106)
 have orow:=Zaj u4 (.slice (some ⟨xa,0,none⟩) n1 e1) (.slice (some ⟨xb,0,none⟩) n1 e2) 106
 have sb5:=sb4.below hal
 have lw5:=lw.below hal
 have lm5:=lm.below hal
 have lb5:=lb.below hal
 clear sb2 sb4 hu4 lw lm lb
 obtain ⟨o0,o1⟩:=Zaa orow
 obtain ⟨r0,r1⟩:=Zaa sb5.res
 have f0:=sb5.res.frozen 0
 have f1:=sb5.res.frozen 1
 have hrs:=sb5.res
 have hbb:=sb5.bel
 go_wp2_with fail
 obtain ⟨y0,y1⟩:=Zaa (ZaB hrs (.slice (some ⟨xa,0,none⟩) n1 e1) (.slice (some ⟨xb,0,none⟩) n1 e2))
 have st1:=hrs.set 0 (.slice (some ⟨xa,0,none⟩) n1 e1)
 have z1:((u4.alloc (.cells #[.slice (some ⟨xa,0,none⟩) n1 e1,.slice (some ⟨xb,0,none⟩) n1 e2] 106)).setCell ⟨w.heap.size+1+1,0,none⟩ (.slice (some ⟨xa,0,none⟩) n1 e1)).cell? ⟨w.heap.size+1+1,1,none⟩=some (.slice none 0 0):=st1.cell (i:=1) (by omega)
 exact bodyPost_ret (v:=.tuple #[.agg #[.slice (some ⟨xa,0,none⟩) n1 e1,.slice (some ⟨xb,0,none⟩) n1 e2],.slice (some ⟨bg,0,none⟩) B B,.int .i64 R,.int .i64 0]) (by simp [results,Tryz.results167,go_sem,y0,y1]) rfl ⟨xa,e1,xb,e2,bg,rfl,(lw5.setOther (show xa ≠ w.heap.size+1+1 by omega) _).setOther (show xa ≠ w.heap.size+1+1 by omega) _,(lm5.setOther (show xb ≠ w.heap.size+1+1 by omega) _).setOther (show xb ≠ w.heap.size+1+1 by omega) _,(lb5.setOther (show bg ≠ w.heap.size+1+1 by omega) _).setOther (show bg ≠ w.heap.size+1+1 by omega) _,by omega,by omega,by omega,nn1,nn2,nn3,hcp,(hbb.setCell (show w.heap.size<=w.heap.size+1+1 by omega) _).setCell (show w.heap.size<=w.heap.size+1+1 by omega) _⟩
theorem makeR (k:Nat) (hk:k<=1000) (w:World):(Instr.makeSlice 81 (.int .i64 (k:Int)) (.int .i64 (k:Int))).run Tryz.prog w=.ok (.slice (some ⟨w.heap.size,0,none⟩) k k) (w.alloc (.cells (madeCells #[.int .i64 0,.slice none 0 0,.int .i64 0,.int .u64 0,.int .u64 0] (k * 5)) 111)):=by
 obtain ⟨i0,hi,hz0,hz1,hz2⟩:=info_parts infoR
 have h:=run_make (P:=Tryz.prog) w 81 111 i0 _ Tryz.underlying81 hi hz0 .i64 .i64 (k:Int) (k:Int) (by omega) (Int.le_refl _) (by rw [hz2]; omega) (by omega)
 rw [hz1,show (k:Int).toNat=k by omega] at h
 exact h
theorem below_at5 {Bd:Nat} {W q:World} {b:Nat} (h:Below Bd W q) (hb:Bd<=b) (i0 i1 i2 i3 i4:Nat) (v0 v1 v2 v3 v4:Value) :
  Below Bd W (((((q.setCell ⟨b,i0,none⟩ v0).setCell ⟨b,i1,none⟩ v1).setCell ⟨b,i2,none⟩ v2).setCell ⟨b,i3,none⟩ v3).setCell ⟨b,i4,none⟩ v4) :=
 ((((h.setCell hb v0).setCell hb v1).setCell hb v2).setCell hb v3).setCell hb v4
theorem JrIn.drew {w:World} {OB base B k:Nat} {R:Nat->Rcm} {DG:Nat->Nat->Int} (h:JrIn w OB base B k R DG):JrIn w.drew OB base B k R DG:=h.below (Below.drew br)
theorem jrecords_calls (I H O B:Nat) (seed crate decay how keep clip:Int) (hs:okW seed) (steps:Int) (hc:cfgB ⟨I,H,O,seed,B,steps,crate,decay,how,keep,clip⟩=true) (N:Nat) (hN:N=H * I+H+O * H+O) (a:Option Addr) (n cap:Nat) (X:Nat->Exm) (DI DO:Nat->List Int) (nn:Nat) (w:World)
  (hx:Exs w a n cap X DI DO) (hn1:1<=n) (hn2:n<=16) (hex:allEx ⟨I,H,O,seed,B,steps,crate,decay,how,keep,clip⟩ n X DI DO=true) (hnn:(nn:Int)<=steps) :
  Calls Tryz.prog 119 #[Cfg.val ⟨I,H,O,seed,B,steps,crate,decay,how,keep,clip⟩,.slice a n cap,.int .i64 nn] w fun e w'=>∃ g R,e=.returned (.slice (some ⟨g,0,none⟩) nn nn)/\w.heap.size<=g/\w'.rowIs g 111 (nn * 5) (rcsR R nn)/\JrIn w' g w.heap.size B nn R (jrG ⟨I,H,O,seed,B,steps,crate,decay,how,keep,clip⟩ n)/\JrN nn R (fun j=>rateV ⟨I,H,O,seed,B,steps,crate,decay,how,keep,clip⟩ j) (jrRoot ⟨I,H,O,seed,B,steps,crate,decay,how,keep,clip⟩ n DI DO N) (jrChain ⟨I,H,O,seed,B,steps,crate,decay,how,keep,clip⟩ n DI DO N)/\Below w.heap.size w w':=by
 obtain ⟨⟨i1,i2⟩,⟨h1,h2⟩,⟨p1,p2⟩,⟨b1,b2⟩,⟨s1,s2⟩,_⟩:=Zal hc
 dsimp only at i1 i2 h1 h2 p1 p2 b1 b2 s1 s2
 have hN4:4<=N/\N<=40:=by
  have:=Zae (show H<=4 by omega) (show I<=4 by omega)
  have:=Zae (show O<=4 by omega) (show H<=4 by omega)
  have:1<=H * I:=Nat.mul_pos (by omega) (by omega)
  have:1<=O * H:=Nat.mul_pos (by omega) (by omega)
  omega
 obtain ⟨DW,HDW⟩:∃ f:Nat->List Int,Hid (∀ j,f j=(stateP ⟨I,H,O,seed,B,steps,crate,decay,how,keep,clip⟩ n DI DO N j).1):=⟨_,fun _=>rfl⟩
 obtain ⟨DM,HDM⟩:∃ f:Nat->List Int,Hid (∀ j,f j=(stateP ⟨I,H,O,seed,B,steps,crate,decay,how,keep,clip⟩ n DI DO N j).2):=⟨_,fun _=>rfl⟩
 obtain ⟨DB,HDB⟩:=nm (α:=Nat->List Int) (jrBatch ⟨I,H,O,seed,B,steps,crate,decay,how,keep,clip⟩ n)
 obtain ⟨DG,HDG⟩:=nm (α:=Nat->Nat->Int) (jrG ⟨I,H,O,seed,B,steps,crate,decay,how,keep,clip⟩ n)
 have HDL:Hid (∀ k,(List.range B).map (DG k)=DB k):=fun k=>by rw [← HDG.out,← HDB.out]; rfl
 obtain ⟨RV,HRV⟩:=nm (α:=Nat->Int) ((fun j:Nat=>rateV ⟨I,H,O,seed,B,steps,crate,decay,how,keep,clip⟩ j))
 obtain ⟨RO,HRO⟩:=nm (α:=Nat->Int) (jrRoot ⟨I,H,O,seed,B,steps,crate,decay,how,keep,clip⟩ n DI DO N)
 obtain ⟨CH,HCH⟩:=nm (α:=Nat->Int) (jrChain ⟨I,H,O,seed,B,steps,crate,decay,how,keep,clip⟩ n DI DO N)
 have HCS:Hid (∀ k:Nat,CH (k+1)=chainP (CH k) (k:Int) (RV k) (RO k) (DB k)):=fun k=>by rw [← HCH.out,← HRV.out,← HRO.out,← HDB.out]; rfl
 have HC0:Hid (headP ⟨I,H,O,seed,B,steps,crate,decay,how,keep,clip⟩ n DI DO N=CH 0):=by show headP ⟨I,H,O,seed,B,steps,crate,decay,how,keep,clip⟩ n DI DO N=CH 0; rw [← HCH.out]; rfl
 have HCW:Hid (∀ k,okW (CH k)):=fun k=>by
  rw [← HCH.out]
  cases k with
  | zero=>exact okP_W (ZbO _ _)
  | succ k=>exact okP_W (ZbO _ _)
 have HRB:Hid (∀ k:Nat,(k:Int)<=steps - 1->0<=RV k/\RV k<=9223372036854775807):=fun k hk=>by
  rw [← HRV.out]
  have:=in_is (rateV_in hc k (by omega) hk)
  dsimp only
  exact ⟨this.1,by omega⟩
 have HDN:Hid (∀ k j,j < B->0<=(DB k).getD j 0/\(DB k).getD j 0<=9223372036854775807):=fun k j hj=>by
  rw [← HDB.out]
  obtain ⟨t,ht,e⟩:=batch_in seed B n (k * B) hn1 hj
  unfold jrBatch
  dsimp only
  rw [show ((B:Int).toNat)=B from rfl,e]
  omega
 rw [HDG.out,HRV.out,HRO.out,HCH.out]
 have hNI:(N:Int)=sizeN ⟨I,H,O,seed,B,steps,crate,decay,how,keep,clip⟩:=by unfold sizeN; dsimp only; rw [hN]; push_cast; rfl
 have hco:courseI ⟨I,H,O,seed,B,steps,crate,decay,how,keep,clip⟩ n X DI DO=0:=by unfold courseI; rw [if_pos hc,if_neg (by omega),if_neg (by omega),if_pos hex]
 have HS:Hid (∀ q,Calls Tryz.prog 166 #[Cfg.val ⟨I,H,O,seed,B,steps,crate,decay,how,keep,clip⟩] q fun e w'=>∃ ga d1 gb d2,e=.returned (.tuple #[.agg #[.slice ga N d1,.slice gb N d2],.int .i64 0])/\Lst w' ga N d1 (DW 0)/\Lst w' gb N d2 (DM 0)/\Below q.heap.size q w'):=fun q=>by
  rw [HDW.out,HDM.out]
  exact tStart_good ⟨I,H,O,seed,B,steps,crate,decay,how,keep,clip⟩ hc hs N hNI q
 have HHD:Hid (∀ q,Below w.heap.size w q->Calls Tryz.prog 165 #[Cfg.val ⟨I,H,O,seed,B,steps,crate,decay,how,keep,clip⟩,.slice a n cap] q fun e w'=>e=.returned (.int .u64 (CH 0))/\Below q.heap.size q w'):=fun q hq=>by
  have:=jhead_calls ⟨I,H,O,seed,B,steps,crate,decay,how,keep,clip⟩ hc hs N hNI a n cap X DI DO q (hx.below hq nr) hn2 hex
  rw [HC0.out] at this
  exact this
 have HNX:Hid (∀ (k:Nat),(k:Int)<=steps - 1->∀ (q:World) (x1:Option Addr) (k1:Nat) (x2:Option Addr) (k2:Nat),Below w.heap.size w q->Lst q x1 N k1 (DW k)->Lst q x2 N k2 (DM k)->Calls Tryz.prog 167 #[Cfg.val ⟨I,H,O,seed,B,steps,crate,decay,how,keep,clip⟩,.slice a n cap,.agg #[.slice x1 N k1,.slice x2 N k2],.int .i64 k] q fun e w'=>∃ ya d1 yb d2 bg,e=.returned (.tuple #[.agg #[.slice ya N d1,.slice yb N d2],.slice (some ⟨bg,0,none⟩) B B,.int .i64 (RV k),.int .i64 0])/\Lst w' ya N d1 (DW (k+1))/\Lst w' yb N d2 (DM (k+1))/\Arr w' bg B B (DG k)/\Below q.heap.size q w'/\q.heap.size<=bg):=fun k hk q x1 k1 x2 k2 hq l1 l2=>by
  have hr:=Zco ⟨I,H,O,seed,B,steps,crate,decay,how,keep,clip⟩ n DI DO N k
  rw [← HDW.out,← HDM.out] at hr
  have f1:fitB ⟨I,H,O,seed,B,steps,crate,decay,how,keep,clip⟩ N (DW k)=true:=by unfold fitB; rw [decide_eq_true hNI,hr.1]; rfl
  have f2:fitB ⟨I,H,O,seed,B,steps,crate,decay,how,keep,clip⟩ N (DM k)=true:=by unfold fitB; rw [decide_eq_true hNI,hr.2]; rfl
  have HC:Hid (∀ q',Below q.heap.size q q'->Calls Tryz.prog 83 #[Cfg.val ⟨I,H,O,seed,B,steps,crate,decay,how,keep,clip⟩,.slice a n cap] q' fun e w'=>e=.returned (.int .i64 0)/\Below q'.heap.size q' w'):=fun q' hq'=>by
   have h:=Zbd ⟨I,H,O,seed,B,steps,crate,decay,how,keep,clip⟩ a n cap X DI DO q' ((hx.below hq nr).below hq' nr)
   rw [hco] at h
   exact h
  refine (tNext_own ⟨I,H,O,seed,B,steps,crate,decay,how,keep,clip⟩ hc a n cap x1 N k1 (DW k) x2 N k2 (DM k) k q l1 l2 HC f1 f2 (in_yes ⟨by omega,hk⟩) B _ _ _ _ (fun q' hq'=>tnext_own I H O B k seed crate decay how keep clip hs steps hc N hN a n cap X DI DO x1 k1 (DW k) x2 k2 (DM k) q' ((hx.below hq nr).below hq' nr) hn1 hn2 hex (l1.below hq' nr) (l2.below hq' nr) hr.1 hr.2 hk)).mono ?_
  rintro e w' ⟨y1,d1,y2,d2,bg,he,h⟩
  refine ⟨some ⟨y1,0,none⟩,d1,some ⟨y2,0,none⟩,d2,bg,?_,?_,?_,?_,h.bel,h.f3⟩
  ·rw [he,← HRV.out]
  ·have lw:=h.a1.lst
   rw [HDW.out (k+1)]; rw [HDW.out,HDM.out] at lw; exact lw
  ·have lm:=h.a2.lst
   rw [HDM.out (k+1)]; rw [HDW.out,HDM.out] at lm; exact lm
  ·rw [← HDG.out]; exact h.a3
 have HRR:Hid (∀ (k:Nat) (q:World) (x1:Option Addr) (k1:Nat) (x2:Option Addr) (k2:Nat),Lst q x1 N k1 (DW (k+1))->Lst q x2 N k2 (DM (k+1))->Calls Tryz.prog 168 #[.agg #[.slice x1 N k1,.slice x2 N k2]] q fun e w'=>e=.returned (.tuple #[.int .u64 (RO k),.int .i64 0])/\Below q.heap.size q w'):=fun k q x1 k1 x2 k2 l1 l2=>by
  have h:=jroot_calls x1 N k1 (DW (k+1)) x2 N k2 (DM (k+1)) q l1 l2 (by omega)
  have hE:rootE N N=0:=by unfold rootE; rw [if_neg (by omega),if_neg (by omega)]
  have hV:rootV N (DW (k+1)) N (DM (k+1))=RO k:=by unfold rootV; rw [if_pos hE,← HRO.out,HDW.out,HDM.out]; rfl
  rw [hE,hV] at h
  exact h
 have HCN:Hid (∀ (k bg:Nat) (q:World),(k:Int)<=steps - 1->Lst q (some ⟨bg,0,none⟩) B B (DB k)->Calls Tryz.prog 169 #[.int .u64 (CH k),.agg #[.int .i64 k,.slice (some ⟨bg,0,none⟩) B B,.int .i64 (RV k),.int .u64 (RO k),.int .u64 0]] q fun e w'=>e=.returned (.int .u64 (CH (k+1)))/\Below q.heap.size q w'):=fun k bg q hk hl=>by
  have hRO:okW (RO k):=by rw [← HRO.out]; exact rootP_W _ _ _
  have:=jchain_calls (CH k) (HCW.out k) ⟨(k:Int),some ⟨bg,0,none⟩,B,B,RV k,RO k,0⟩ (DB k) q hl ⟨by show (0:Int)<=(k:Int); omega,by show (k:Int)<=_; omega⟩ (HRB.out k hk) hRO (by show B<=8; omega) (fun j hj=>HDN.out k j hj)
  rw [HCS.out k]
  exact this
 have hal:=Zac w (.cells (Cfg.cells ⟨I,H,O,seed,B,steps,crate,decay,how,keep,clip⟩) 50)
 obtain ⟨W,HW⟩:∃ q,Hid (q=w.alloc (.cells (Cfg.cells ⟨I,H,O,seed,B,steps,crate,decay,how,keep,clip⟩) 50)):=⟨_,rfl⟩
 have KB:Hid (∀ q,Below W.heap.size W q->BoxC q w.heap.size ⟨I,H,O,seed,B,steps,crate,decay,how,keep,clip⟩):=fun q hq=>by rw [HW.out] at hq; exact boxC hq (by simp)
 have hbW:Below w.heap.size w W:=by rw [HW.out]; exact hal
 have hltW:w.heap.size < W.heap.size:=by rw [HW.out]; simp
 have HWS:Hid (w.heap.size+1=W.heap.size):=by show _=_; rw [HW.out]; simp
 have hmk:=makeR nn (by omega)
 clear hx hex hc hN hNI hs HDW HDM HDB HDG HRV HRO HCH HCS HC0 HCW HRB HDN hal hco
 simp only [Cfg.val,Cfg.cells] at *
 have KS:Hid (∀ q,Below W.heap.size W q->q.cell? ⟨w.heap.size,0,none⟩=some (.int .i64 I)/\q.cell? ⟨w.heap.size,1,none⟩=some (.int .i64 H)/\q.cell? ⟨w.heap.size,2,none⟩=some (.int .i64 O)/\q.cell? ⟨w.heap.size,3,none⟩=some (.int .u64 seed)/\q.cell? ⟨w.heap.size,4,none⟩=some (.int .i64 B)/\q.cell? ⟨w.heap.size,5,none⟩=some (.int .i64 steps)/\q.cell? ⟨w.heap.size,6,none⟩=some (.int .i64 crate)/\q.cell? ⟨w.heap.size,7,none⟩=some (.int .i64 decay)/\q.cell? ⟨w.heap.size,8,none⟩=some (.int .i64 how)/\q.cell? ⟨w.heap.size,9,none⟩=some (.int .i64 keep)/\q.cell? ⟨w.heap.size,10,none⟩=some (.int .i64 clip)):=fun q hq=>by
  obtain ⟨x0,x1,x2,x3,x4,x5,x6,x7,x8,x9,x10⟩:=KB.out q hq
  exact ⟨x0,x1,x2,x3,x4,x5,x6,x7,x8,x9,x10⟩
 clear KB
 have T0:Below W.heap.size W (W.alloc (.cells (madeCells #[.int .i64 0,.slice none 0 0,.int .i64 0,.int .u64 0,.int .u64 0] (nn * 5)) 111)):=Zac W _
 have rowz:=rcsR_zero (R:=noRec) (made5 W (.int .i64 0) (.slice none 0 0) (.int .i64 0) (.int .u64 0) (.int .u64 0) (nn * 5) 111)
 obtain ⟨W1,HW1⟩:∃ q,Hid (q=W.alloc (.cells (madeCells #[.int .i64 0,.slice none 0 0,.int .i64 0,.int .u64 0,.int .u64 0] (nn * 5)) 111)):=⟨_,rfl⟩
 rw [← HW1.out] at T0 rowz
 have HWS1:Hid (W.heap.size+1=W1.heap.size):=by show _=_; rw [HW1.out]; simp
 obtain ⟨c0,c1,c2,c3,c4,c5,c6,c7,c8,c9,c10⟩:=KS.out _ T0
 go_enter Tryz.func119,Tryz.ntmps119
 go_wp2_with fail
 rw [← HW.out]
 clear HW
 rw [← HW1.out,HWS.out]
 clear HW1 hmk
 go_wp2_with fail
 refine (HHD.out W1 (hbW.trans (T0.mono hbW.size))).mono ?_
 rintro e w2 ⟨rfl,hw2⟩
 have T2:=T0.trans (hw2.mono T0.size)
 have row2:=rowz.of_block (hw2.block _ rowz.lt)
 clear c0 c1 c2 c3 c4 c5 c6 c7 c8 c9 c10 rowz hw2 HHD
 obtain ⟨c0,c1,c2,c3,c4,c5,c6,c7,c8,c9,c10⟩:=KS.out _ T2
 go_wp2_with fail
 refine (HS.out w2).mono ?_
 rintro e w3 ⟨ga,d1,gb,d2,rfl,l1,l2,hw3⟩
 have T3:=T2.trans (hw3.mono T2.size)
 have row3:=row2.of_block (hw3.block _ row2.lt)
 clear c0 c1 c2 c3 c4 c5 c6 c7 c8 c9 c10 row2 hw3 HS T2 T0
 have hal4:=Zac w3 (.cells #[.slice ga N d1,.slice gb N d2] 106)
 have T4:=T3.trans (hal4.mono T3.size)
 have row4:=row3.alloc (.cells #[.slice ga N d1,.slice gb N d2] 106)
 have srow4:=Zaj w3 (.slice ga N d1) (.slice gb N d2) 106
 have m1:=l1.below hal4 nr
 have m2:=l2.below hal4 nr
 have hWO:W.heap.size < w3.heap.size:=row3.lt
 clear row3 T3 l1 l2 hal4
 go_wp2_with fail
 generalize w3.heap.size=SB at *
 generalize w3.alloc (.cells #[.slice ga N d1,.slice gb N d2] 106)=w4 at *
 generalize hOB:W.heap.size=OB at *
 go_loopw [8,25] (fun cw t wr=>∃ (k:Nat) (xa:Option Addr) (e1:Nat) (xb:Option Addr) (e2:Nat) (R:Nat->Rcm),k<=nn/\t=.int .i64 k/\cw=.int .u64 (CH k)/\wr.rowIs OB 111 (nn * 5) (rcsR R k)/\JrIn wr OB w.heap.size B k R DG/\Hid (JrN k R RV RO CH)/\wr.rowIs SB 106 2 (fn2 (.slice xa N e1) (.slice xb N e2))/\Lst wr xa N e1 (DW k)/\Lst wr xb N e2 (DM k)/\Below OB W wr) (fun _ t _=>nn - (intOf t).toNat)
 case atStart=>exact ⟨0,ga,d1,gb,d2,noRec,Nat.zero_le _,rfl,rfl,row4,(fun j hj=>by omega),(fun j hj=>by omega),srow4,m1,m2,T4⟩
 case round =>
  clear row4 srow4 m1 m2 T4
  obtain ⟨k,xa,e1,xb,e2,R,hk,rfl,rfl,orow,hjr,hjn,srow,la,lb,hbel⟩:=hrel
  by_cases hlt:k < nn
  ·have hst:(k:Int)<=steps - 1:=by omega
   have hSBl:=srow.lt
   have hOBl:=orow.lt
   have hw0:=Zac wr (.cells #[.int .i64 k,.slice none 0 0,.int .i64 0,.int .u64 0,.int .u64 0] 111)
   have bwa:=hbel.trans (hw0.mono (by rw [← hOB]; exact hbel.size))
   have bww:Below w.heap.size w (wr.alloc (.cells #[.int .i64 k,.slice none 0 0,.int .i64 0,.int .u64 0,.int .u64 0] 111)):=hbW.trans (bwa.mono (by omega))
   have NX:=HNX.out k hst (wr.alloc (.cells #[.int .i64 k,.slice none 0 0,.int .i64 0,.int .u64 0,.int .u64 0] 111)) xa e1 xb e2 bww (la.below hw0 nr) (lb.below hw0 nr)
   have HNX2:Hid (Calls Tryz.prog 167 #[.agg #[.int .i64 I,.int .i64 H,.int .i64 O,.int .u64 seed,.int .i64 B,.int .i64 steps,.int .i64 crate,.int .i64 decay,.int .i64 how,.int .i64 keep,.int .i64 clip],.slice a n cap,.agg #[.slice xa N e1,.slice xb N e2],.int .i64 k] (wr.alloc (.cells #[.int .i64 k,.slice none 0 0,.int .i64 0,.int .u64 0,.int .u64 0] 111)) fun e w'=>∃ ya d1 yb d2 bg,e=.returned (.tuple #[.agg #[.slice ya N d1,.slice yb N d2],.slice (some ⟨bg,0,none⟩) B B,.int .i64 (RV k),.int .i64 0])/\Lst w' ya N d1 (DW (k+1))/\Lst w' yb N d2 (DM (k+1))/\Arr w' bg B B (DG k)/\Below (wr.alloc (.cells #[.int .i64 k,.slice none 0 0,.int .i64 0,.int .u64 0,.int .u64 0] 111)).heap.size (wr.alloc (.cells #[.int .i64 k,.slice none 0 0,.int .i64 0,.int .u64 0,.int .u64 0] 111)) w'/\(wr.alloc (.cells #[.int .i64 k,.slice none 0 0,.int .i64 0,.int .u64 0,.int .u64 0] 111)).heap.size<=bg):=NX
   have rr0:(wr.alloc (.cells #[.int .i64 k,.slice none 0 0,.int .i64 0,.int .u64 0,.int .u64 0] 111)).rowIs wr.heap.size 111 5 (recC ⟨k,none,0,0,0,0,0⟩):=Zao wr (.int .i64 k) (.slice none 0 0) (.int .i64 0) (.int .u64 0) (.int .u64 0) 111
   obtain ⟨c0,c1,c2,c3,c4,c5,c6,c7,c8,c9,c10⟩:=KS.out _ bwa
   obtain ⟨s0,s1'⟩:=Zaa (srow.alloc (.cells #[.int .i64 k,.slice none 0 0,.int .i64 0,.int .u64 0,.int .u64 0] 111))
   clear NX
   go_wp2_with fail
   refine HNX2.out.mono ?_
   rintro e u1 ⟨ya,d1,yb,d2,bg,rfl,g1,g2,g3,hu1,hbg⟩
   simp only [World.size_alloc] at hbg
   have bu1:Below wr.heap.size wr u1:=hw0.trans (hu1.mono hw0.size)
   clear c0 c1 c2 c3 c4 c5 c6 c7 c8 c9 c10 s0 s1' HNX2
   have srow1:=srow.of_block (bu1.block _ srow.lt)
   have orow1:=orow.of_block (bu1.block _ orow.lt)
   have rr1:=rr0.of_block (hu1.block _ rr0.lt)
   have hno:=hjr.no (Nat.le_refl wr.heap.size)
   have hjr1:=hjr.below bu1
   obtain ⟨y0,y1⟩:=Zaa srow1
   have f0:=srow1.frozen 0
   have f1:=srow1.frozen 1
   have nSR:wr.heap.size ≠ SB:=by omega
   have nOS:OB ≠ SB:=by omega
   have nOR:OB ≠ wr.heap.size:=by omega
   have nSR':SB ≠ wr.heap.size:=by omega
   have far1:=g1.apart5 (by omega) rr1
   have far2:=g2.apart5 (by omega) rr1
   have far3:bg ≠ wr.heap.size:=by omega
   have far4:bg ≠ SB:=by omega
   have faO1:=g1.apart (by omega) orow1 (fun i x y=>rcsR_apart R k i x y)
   have faO2:=g2.apart (by omega) orow1 (fun i x y=>rcsR_apart R k i x y)
   have rr2:=(rr1.setOther (a:=⟨SB,0,none⟩) nSR (.slice ya N d1)).setOther (a:=⟨SB,1,none⟩) nSR (.slice yb N d2)
   have t1:((u1.setCell ⟨SB,0,none⟩ (.slice ya N d1)).setCell ⟨SB,1,none⟩ (.slice yb N d2)).cell? ⟨wr.heap.size,1,none⟩=some (.slice none 0 0):=rr2.cell (i:=1) (by omega)
   have t2:((u1.setCell ⟨SB,0,none⟩ (.slice ya N d1)).setCell ⟨SB,1,none⟩ (.slice yb N d2)).cell? ⟨wr.heap.size,2,none⟩=some (.int .i64 0):=rr2.cell (i:=2) (by omega)
   have z1:=rr2.frozen 1
   have z2:=rr2.frozen 2
   have rr3:((((u1.setCell ⟨SB,0,none⟩ (.slice ya N d1)).setCell ⟨SB,1,none⟩ (.slice yb N d2)).setCell ⟨wr.heap.size,1,none⟩ (.slice (some ⟨bg,0,none⟩) B B)).setCell ⟨wr.heap.size,2,none⟩ (.int .i64 (RV k))).rowIs wr.heap.size 111 5 (recC ⟨k,some ⟨bg,0,none⟩,B,B,RV k,0,0⟩):=((rr2.set 1 (.slice (some ⟨bg,0,none⟩) B B)).set 2 (.int .i64 (RV k))).congr (fun t ht=>by rcases lt5 ht with rfl | rfl | rfl | rfl | rfl <;> rfl)
   have t3:(((u1.setCell ⟨SB,0,none⟩ (.slice ya N d1)).setCell ⟨SB,1,none⟩ (.slice yb N d2)).setCell ⟨wr.heap.size,1,none⟩ (.slice (some ⟨bg,0,none⟩) B B)).cell? ⟨wr.heap.size,2,none⟩=some (.int .i64 0):=(rr2.set 1 _).cell (i:=2) (by omega)
   have z3:=(rr2.set 1 (.slice (some ⟨bg,0,none⟩) B B)).frozen 2
   have srow3:((((u1.setCell ⟨SB,0,none⟩ (.slice ya N d1)).setCell ⟨SB,1,none⟩ (.slice yb N d2)).setCell ⟨wr.heap.size,1,none⟩ (.slice (some ⟨bg,0,none⟩) B B)).setCell ⟨wr.heap.size,2,none⟩ (.int .i64 (RV k))).rowIs SB 106 2 (fn2 (.slice ya N d1) (.slice yb N d2)):=((ZaB srow1 (.slice ya N d1) (.slice yb N d2)).setOther (a:=⟨wr.heap.size,1,none⟩) nSR' _).setOther (a:=⟨wr.heap.size,2,none⟩) nSR' _
   have orow3:((((u1.setCell ⟨SB,0,none⟩ (.slice ya N d1)).setCell ⟨SB,1,none⟩ (.slice yb N d2)).setCell ⟨wr.heap.size,1,none⟩ (.slice (some ⟨bg,0,none⟩) B B)).setCell ⟨wr.heap.size,2,none⟩ (.int .i64 (RV k))).rowIs OB 111 (nn * 5) (rcsR R k):=(((orow1.setOther (a:=⟨SB,0,none⟩) nOS _).setOther (a:=⟨SB,1,none⟩) nOS _).setOther (a:=⟨wr.heap.size,1,none⟩) nOR _).setOther (a:=⟨wr.heap.size,2,none⟩) nOR _
   obtain ⟨q0,q1⟩:=Zaa srow3
   have y1':(u1.setCell ⟨SB,0,none⟩ (.slice ya N d1)).cell? ⟨SB,1,none⟩=some (.slice xb N e2):=(srow1.set 0 _).cell (i:=1) (by omega)
   have la3:Lst ((((u1.setCell ⟨SB,0,none⟩ (.slice ya N d1)).setCell ⟨SB,1,none⟩ (.slice yb N d2)).setCell ⟨wr.heap.size,1,none⟩ (.slice (some ⟨bg,0,none⟩) B B)).setCell ⟨wr.heap.size,2,none⟩ (.int .i64 (RV k))) ya N d1 (DW (k+1)):=(((g1.setOff y0 _).setOff y1' _).offB far1 1 _).offB far1 2 _
   have lb3:Lst ((((u1.setCell ⟨SB,0,none⟩ (.slice ya N d1)).setCell ⟨SB,1,none⟩ (.slice yb N d2)).setCell ⟨wr.heap.size,1,none⟩ (.slice (some ⟨bg,0,none⟩) B B)).setCell ⟨wr.heap.size,2,none⟩ (.int .i64 (RV k))) yb N d2 (DM (k+1)):=(((g2.setOff y0 _).setOff y1' _).offB far2 1 _).offB far2 2 _
   have lt3:Arr ((((u1.setCell ⟨SB,0,none⟩ (.slice ya N d1)).setCell ⟨SB,1,none⟩ (.slice yb N d2)).setCell ⟨wr.heap.size,1,none⟩ (.slice (some ⟨bg,0,none⟩) B B)).setCell ⟨wr.heap.size,2,none⟩ (.int .i64 (RV k))) bg B B (DG k):=(((g3.setOther (a:=⟨SB,0,none⟩) far4 _).setOther (a:=⟨SB,1,none⟩) far4 _).setOther (a:=⟨wr.heap.size,1,none⟩) far3 _).setOther (a:=⟨wr.heap.size,2,none⟩) far3 _
   have jr3:JrIn ((((u1.setCell ⟨SB,0,none⟩ (.slice ya N d1)).setCell ⟨SB,1,none⟩ (.slice yb N d2)).setCell ⟨wr.heap.size,1,none⟩ (.slice (some ⟨bg,0,none⟩) B B)).setCell ⟨wr.heap.size,2,none⟩ (.int .i64 (RV k))) OB w.heap.size B k R DG:=(((hjr1.setS y0 _).setS y1' _).setN hno 1 _).setN hno 2 _
   have hOS:OB<=SB:=by omega
   have hOR:OB<=wr.heap.size:=by omega
   have bU2:Below OB W ((((u1.setCell ⟨SB,0,none⟩ (.slice ya N d1)).setCell ⟨SB,1,none⟩ (.slice yb N d2)).setCell ⟨wr.heap.size,1,none⟩ (.slice (some ⟨bg,0,none⟩) B B)).setCell ⟨wr.heap.size,2,none⟩ (.int .i64 (RV k))):=((((hbel.trans (bu1.mono hOR)).setCell hOS _).setCell hOS _).setCell hOR _).setCell hOR _
   clear srow1 orow1 rr1 rr2 hjr1 g1 g2 g3 bu1 hu1 hw0 bwa bww srow orow rr0 la lb hjr y1'
   go_wp2_with fail
   generalize ((((u1.setCell ⟨SB,0,none⟩ (.slice ya N d1)).setCell ⟨SB,1,none⟩ (.slice yb N d2)).setCell ⟨wr.heap.size,1,none⟩ (.slice (some ⟨bg,0,none⟩) B B)).setCell ⟨wr.heap.size,2,none⟩ (.int .i64 (RV k)))=u2 at *
   clear t1 t2 t3 z1 z2 z3 q0 q1 y0 y1 f0 f1
   refine (HRR.out k u2 ya d1 yb d2 la3 lb3).mono ?_
   rintro e u3 ⟨rfl,hu3⟩
   generalize hRB:wr.heap.size=RB at *
   have rr4:=rr3.of_block (hu3.block _ rr3.lt)
   have srow4:=srow3.of_block (hu3.block _ srow3.lt)
   have orow4:=orow3.of_block (hu3.block _ orow3.lt)
   have la4:=la3.below hu3 nr
   have lb4:=lb3.below hu3 nr
   have lt4:=lt3.below hu3
   have jr4:=jr3.below hu3
   have bU4:=bU2.trans (hu3.mono (by have:=orow3.lt; omega))
   have c3:u3.cell? ⟨RB,3,none⟩=some (.int .u64 0):=rr4.cell (i:=3) (by omega)
   have z3:=rr4.frozen 3
   have rr5:(u3.setCell ⟨RB,3,none⟩ (.int .u64 (RO k))).rowIs RB 111 5 (recC ⟨k,some ⟨bg,0,none⟩,B,B,RV k,RO k,0⟩):=(rr4.set 3 _).congr (fun t ht=>by rcases lt5 ht with rfl | rfl | rfl | rfl | rfl <;> rfl)
   obtain ⟨x0,x1,x2,x3,x4⟩:=Zam rr5
   dsimp only at x0 x1 x2 x3 x4
   have srow5:=srow4.setOther (a:=⟨RB,3,none⟩) nSR' (.int .u64 (RO k))
   have orow5:=orow4.setOther (a:=⟨RB,3,none⟩) nOR (.int .u64 (RO k))
   have la5:=la4.offB far1 3 (.int .u64 (RO k))
   have lb5:=lb4.offB far2 3 (.int .u64 (RO k))
   have lt5':=lt4.setOther (a:=⟨RB,3,none⟩) far3 (.int .u64 (RO k))
   have jr5:=jr4.setN hno 3 (.int .u64 (RO k))
   have bU5:Below OB W (u3.setCell ⟨RB,3,none⟩ (.int .u64 (RO k))):=bU4.setCell hOR _
   clear rr4 srow4 orow4 la4 lb4 lt4 jr4 bU4 rr3 srow3 orow3 la3 lb3 lt3 jr3 bU2 hu3
   go_wp2_with fail
   generalize u3.setCell ⟨RB,3,none⟩ (.int .u64 (RO k))=u4 at *
   clear x0 x1 x2 x3 x4 c3 z3
   refine (HCN.out k bg u4 hst (HDL.out k ▸ lt5'.lst)).mono ?_
   rintro e u5 ⟨rfl,hu5⟩
   have rr6:=rr5.of_block (hu5.block _ rr5.lt)
   have srow6:=srow5.of_block (hu5.block _ srow5.lt)
   have orow6:=orow5.of_block (hu5.block _ orow5.lt)
   have la6:=la5.below hu5 nr
   have lb6:=lb5.below hu5 nr
   have lt6:=lt5'.below hu5
   have jr6:=jr5.below hu5
   have bU6:=bU5.trans (hu5.mono (by have:=orow5.lt; omega))
   have c4:u5.cell? ⟨RB,4,none⟩=some (.int .u64 0):=rr6.cell (i:=4) (by omega)
   have z4:=rr6.frozen 4
   have rr7:(u5.setCell ⟨RB,4,none⟩ (.int .u64 (CH (k+1)))).rowIs RB 111 5 (recC ⟨k,some ⟨bg,0,none⟩,B,B,RV k,RO k,CH (k+1)⟩):=(rr6.set 4 _).congr (fun t ht=>by rcases lt5 ht with rfl | rfl | rfl | rfl | rfl <;> rfl)
   obtain ⟨x0,x1,x2,x3,x4⟩:=Zam rr7
   dsimp only at x0 x1 x2 x3 x4
   have srow7:=srow6.setOther (a:=⟨RB,4,none⟩) nSR' (.int .u64 (CH (k+1)))
   have orow7:=orow6.setOther (a:=⟨RB,4,none⟩) nOR (.int .u64 (CH (k+1)))
   have la7:=la6.offB far1 4 (.int .u64 (CH (k+1)))
   have lb7:=lb6.offB far2 4 (.int .u64 (CH (k+1)))
   have lt7:=lt6.setOther (a:=⟨RB,4,none⟩) far3 (.int .u64 (CH (k+1)))
   have jr7:=jr6.setN hno 4 (.int .u64 (CH (k+1)))
   have bU7:Below OB W (u5.setCell ⟨RB,4,none⟩ (.int .u64 (CH (k+1)))):=bU6.setCell hOR _
   clear rr6 srow6 orow6 la6 lb6 lt6 jr6 bU6 rr5 srow5 orow5 la5 lb5 lt5' jr5 bU5 hu5
   go_wp2_with fail
   generalize u5.setCell ⟨RB,4,none⟩ (.int .u64 (CH (k+1)))=u6 at *
   clear c4 z4
   have o0:u6.cell? ⟨OB,k * 5,none⟩=some (.int .i64 0):=rcsR_new orow7 nr (by omega) (i:=0) (by omega)
   have o1:u6.cell? ⟨OB,k * 5+1,none⟩=some (.slice none 0 0):=rcsR_new orow7 nr (by omega) (i:=1) (by omega)
   have o2:u6.cell? ⟨OB,k * 5+2,none⟩=some (.int .i64 0):=rcsR_new orow7 nr (by omega) (i:=2) (by omega)
   have o3:u6.cell? ⟨OB,k * 5+3,none⟩=some (.int .u64 0):=rcsR_new orow7 nr (by omega) (i:=3) (by omega)
   have o4:u6.cell? ⟨OB,k * 5+4,none⟩=some (.int .u64 0):=rcsR_new orow7 nr (by omega) (i:=4) (by omega)
   have v0:=orow7.frozen (k * 5)
   have v1:=orow7.frozen (k * 5+1)
   have v2:=orow7.frozen (k * 5+2)
   have v3:=orow7.frozen (k * 5+3)
   have v4:=orow7.frozen (k * 5+4)
   obtain ⟨R2,HR2⟩:∃ R2:Nat->Rcm,Hid (R2 k=⟨(k:Int),some ⟨bg,0,none⟩,B,B,RV k,RO k,CH (k+1)⟩/\∀ j,j < k->R2 j=R j):=⟨fun j=>if j=k then ⟨(k:Int),some ⟨bg,0,none⟩,B,B,RV k,RO k,CH (k+1)⟩ else R j,by exact ⟨if_pos rfl,fun j hj=>if_neg (by omega)⟩⟩
   have orow8:=rcsR_push orow7 ⟨(k:Int),some ⟨bg,0,none⟩,B,B,RV k,RO k,CH (k+1)⟩ HR2.out.1 HR2.out.2
   have srow8:=((((srow7.setOther (a:=⟨OB,k * 5,none⟩) (Ne.symm nOS) (.int .i64 k)).setOther (a:=⟨OB,k * 5+1,none⟩) (Ne.symm nOS) (.slice (some ⟨bg,0,none⟩) B B)).setOther (a:=⟨OB,k * 5+2,none⟩) (Ne.symm nOS) (.int .i64 (RV k))).setOther (a:=⟨OB,k * 5+3,none⟩) (Ne.symm nOS) (.int .u64 (RO k))).setOther (a:=⟨OB,k * 5+4,none⟩) (Ne.symm nOS) (.int .u64 (CH (k+1)))
   have la8:=((((la7.offB faO1 (k * 5) (.int .i64 k)).offB faO1 (k * 5+1) (.slice (some ⟨bg,0,none⟩) B B)).offB faO1 (k * 5+2) (.int .i64 (RV k))).offB faO1 (k * 5+3) (.int .u64 (RO k))).offB faO1 (k * 5+4) (.int .u64 (CH (k+1)))
   have lb8:=((((lb7.offB faO2 (k * 5) (.int .i64 k)).offB faO2 (k * 5+1) (.slice (some ⟨bg,0,none⟩) B B)).offB faO2 (k * 5+2) (.int .i64 (RV k))).offB faO2 (k * 5+3) (.int .u64 (RO k))).offB faO2 (k * 5+4) (.int .u64 (CH (k+1)))
   have jr8:=(((((jr7.push HR2.out.2 HR2.out.1 (by have:=hbW.size; omega) (by omega) lt7).setO (k * 5) (.int .i64 k)).setO (k * 5+1) (.slice (some ⟨bg,0,none⟩) B B)).setO (k * 5+2) (.int .i64 (RV k))).setO (k * 5+3) (.int .u64 (RO k))).setO (k * 5+4) (.int .u64 (CH (k+1)))
   have bU8:=below_at5 bU7 (Nat.le_refl OB) (k * 5) (k * 5+1) (k * 5+2) (k * 5+3) (k * 5+4) (.int .i64 k) (.slice (some ⟨bg,0,none⟩) B B) (.int .i64 (RV k)) (.int .u64 (RO k)) (.int .u64 (CH (k+1)))
   have HJN:Hid (JrN (k+1) R2 RV RO CH):=hjn.out.push HR2.out.2 (by rw [HR2.out.1]) (by rw [HR2.out.1]) (by rw [HR2.out.1]) (by rw [HR2.out.1])
   have k0:(0:Int)<=(k:Int):=by omega
   have kn:(k:Int) < (nn:Int):=by omega
   clear hjn orow7 srow7 la7 lb7 lt7 jr7 bU7 rr7
   go_region
   go_wp2_with fail
   go_roundw
   case rel=>exact ⟨k+1,ya,d1,yb,d2,R2,by omega,by go_num,rfl,orow8.drew,jr8.drew,HJN,srow8.drew,la8.drew,lb8.drew,Zab bU8 1⟩
   case measure=>simp [intOf]; omega
  ·obtain rfl:k=nn:=by omega
   go_wp2_with fail
   go_ret
   exact ⟨OB,R,rfl,by omega,orow,hjr,hjn.out,hbW.trans (hbel.mono (by omega))⟩
end Go.Proofs.YthmiojmlaclgaaaGreatDoor.Fx
