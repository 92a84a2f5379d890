/- What the law stands on: DkJ RefDkC. -/
import Derived.Test.YthmiojmlaclgaaaGreatDoorJ00
import Derived.Test.YthmiojmlaclgaaaGreatDoorJ34
import Derived.Test.YthmiojmlaclgaaaGreatDoorJ31
set_option maxRecDepth 100000
set_option maxHeartbeats 12800000
namespace Go.Proofs.YthmiojmlaclgaaaGreatDoor.Fx
open Go.RowKit
section
variable {base:Nat} {w w':World} {b s:Nat} {d:Dsk} {a:Option Addr} {cap:Nat} {X:Nat->Exm}
theorem infoE:(Tryz.prog.info? 78).map (fun i=>(i.zero,i.size,i.bytes))=some (some (.agg #[.slice none 0 0,.slice none 0 0]),2,48):=by kernel_rfl
section
variable {ops:Array Oper} {o:Oper} {ac:Act} {Q:Exit->Act->World->Prop}
theorem run_append_ex (ty:TypeId) (base:Nat) (v:Value) (n:Nat) (X:Nat->Exm) (g:Nat) (hown:OwnE base w' v n X) (hc0:w'.cell? ⟨g,0,none⟩=some (.slice (X n).a (X n).n (X n).k)) (hc1:w'.cell? ⟨g,1,none⟩=some (.slice (X n).b (X n).m (X n).t)) (hn:(n+1) * 48<=140737488355328) (hbase:base<=w'.heap.size) :
  ∃ v' w1,(Builtin.append_ #[51,51] ty #[v,.slice (some ⟨g,0,none⟩) 1 1]).run Tryz.prog w'=.ok v' w1/\OwnE base w1 v' (n+1) X/\w'.grownBy w1 v.ownBlock/\(v'.ownBlock=v.ownBlock\/v'.ownBlock=some w'.heap.size):=by
 obtain ⟨i0,hi,hz0,hz1,hz2⟩:=info_parts infoE
 obtain ⟨v',w1,hrun,h1,h2,_,h3⟩:=run_append_own_at (P:=Tryz.prog) w' base 51 ty 78 i0 (.agg #[.slice none 0 0,.slice none 0 0]) 2 48 Tryz.underlying51 hi hz0 hz1 hz2 rfl (by decide) v n _ hown ⟨g,0,none⟩ 1 1 [.slice (X n).a (X n).n (X n).k,.slice (X n).b (X n).m (X n).t] rfl
  (by intro j u hj
      match j,hj with
      | 0,hj=>simp at hj; subst hj; simpa [Addr.add] using hc0
      | 1,hj=>simp at hj; subst hj; simpa [Addr.add] using hc1)
  (by intro u hu
      simp at hu
      rcases hu with rfl | rfl <;> rfl) (by unfold maxLen; omega) hn hbase
 exact ⟨v',w1,hrun,h1,h2,h3⟩
theorem ZcS {K:Act->World->Prop} {E:Prop} (hgd:o.guard=none) (s x:Operand) (ho:o.op=.call { callee:=.builtin .append,args:=#[s,x],argTypes:=#[51,51] })
  (base:Nat) (v:Value) (n:Nat) (X:Nat->Exm) (g:Nat) (hs:ac.eval s=v) (hx:ac.eval x=.slice (some ⟨g,0,none⟩) 1 1) (hown:OwnE base w' v n X) (hc0:w'.cell? ⟨g,0,none⟩=some (.slice (X n).a (X n).n (X n).k)) (hc1:w'.cell? ⟨g,1,none⟩=some (.slice (X n).b (X n).m (X n).t)) (hn:(n+1) * 48<=140737488355328) (hbase:base<=w'.heap.size)
  (h:∀ v' w1,OwnE base w1 v' (n+1) X->w'.grownBy w1 v.ownBlock->(v'.ownBlock=v.ownBlock\/v'.ownBlock=some w'.heap.size)->K (ac.put o.dst v') w1) :
  if Region.wanted o (yielded ops ac.tmps)=true then Oper.wp Tryz.prog o ac w' K Q else E:=by
 obtain ⟨v',w1,hrun,h1,h2,h3⟩:=run_append_ex o.type base v n X g hown hc0 hc1 hn hbase
 rw [if_pos (by unfold Region.wanted; rw [hgd])]
 unfold Oper.wp
 simp [execOp,ho,resolve,invoke,builtin,hs,hx,hrun,Result.andThen]
 exact h v' w1 h1 h2 h3
end
def addX (X:Nat->Exm) (n:Nat) (x:Exm) (i:Nat):Exm:=if i < n then X i else x
theorem Dsk.add_n (d:Dsk) (I O:List Int):({ d with ex:=d.ex ++ [(I,O)] }:Dsk).n=d.n+1:=by unfold Dsk.n; simp
theorem Dsk.add_DI (d:Dsk) (I O:List Int) (i:Nat) (hi:i < d.n):({ d with ex:=d.ex ++ [(I,O)] }:Dsk).DI i=d.DI i/\({ d with ex:=d.ex ++ [(I,O)] }:Dsk).DO i=d.DO i:=by
 unfold Dsk.DI Dsk.DO
 have hi':i < d.ex.length:=hi
 simp [List.getD_eq_getElem?_getD,List.getElem?_append_left hi']
theorem Dsk.add_at (d:Dsk) (I O:List Int):({ d with ex:=d.ex ++ [(I,O)] }:Dsk).DI d.n=I/\({ d with ex:=d.ex ++ [(I,O)] }:Dsk).DO d.n=O:=by
 unfold Dsk.DI Dsk.DO Dsk.n
 simp [List.getD_eq_getElem?_getD]
theorem DkIn.addE (h:DkIn base w b s d a cap X) {x:Exm} {I O:List Int} (hx:InEx w x I O) (fx:∀ g o,x.a=some ⟨g,o,none⟩->base<=g/\g ≠ b/\g ≠ s/\(Value.slice a d.n cap).ownBlock ≠ some g/\TyI w g) (fy:∀ g o,x.b=some ⟨g,o,none⟩->base<=g/\g ≠ b/\g ≠ s/\(Value.slice a d.n cap).ownBlock ≠ some g/\TyI w g) (h16:d.n < 16)
  {v5:Value} {w5:World} (hown:OwnE base w5 v5 (d.n+1) (addX X d.n x)) (hgr:w.grownBy w5 (Value.slice a d.n cap).ownBlock) (hob:v5.ownBlock=(Value.slice a d.n cap).ownBlock\/v5.ownBlock=some w.heap.size) :
  w5.rowIs b 64 13 (dcell d.c (.slice a d.n cap) (.pointer (some ⟨s,0,none⟩)))/\(∃ a5 c5,v5=.slice a5 (d.n+1) c5/\DkIn base (w5.setCell ⟨b,11,none⟩ v5) b s { d with ex:=d.ex ++ [(I,O)] } a5 c5 (addX X d.n x))/\DkCh base w (w5.setCell ⟨b,11,none⟩ v5):=by
 have hne:=h.ne
 have r5:w5.rowIs b 64 13 (dcell d.c (.slice a d.n cap) (.pointer (some ⟨s,0,none⟩))):=h.row.of_block (hgr.block b h.row.lt (fun e=>(h.ownb e.symm).2.1 rfl))
 have st5:StoAt w5 s d.T 4096 d.sy:=World.rowIs.of_block h.st (hgr.block s h.st.lt (fun e=>(h.ownb e.symm).2.2.1 rfl))
 have blk:∀ k,k ≠ b->(w5.setCell ⟨b,11,none⟩ v5).heap[k]?=w5.heap[k]?:=fun k hk=>Go.Deep.blk_setCell_other w5 ⟨b,11,none⟩ v5 k hk
 have kept:∀ (aa:Option Addr) (n c:Nat) (zs:List Int),Lst w aa n c zs->(∀ g o,aa=some ⟨g,o,none⟩->g ≠ b/\(Value.slice a d.n cap).ownBlock ≠ some g)->Lst (w5.setCell ⟨b,11,none⟩ v5) aa n c zs:=fun aa n c zs hl hf=>by
  refine ⟨hl.1,hl.2.1,?_⟩
  rcases hl.2.2 with h0 | ⟨g,off,e,hs',hc⟩
  ·exact .inl h0
  ·refine .inr ⟨g,off,e,by rw [World.size_setCell]; exact Nat.lt_of_lt_of_le hs' hgr.size,fun i hi=>?_⟩
   refine (World.cell?_of_block (a:=⟨g,off+i,none⟩) (blk g (hf g off e).1)).trans ?_
   exact (World.cell?_of_block (a:=⟨g,off+i,none⟩) (hgr.block g hs' (fun e2=>(hf g off e).2 e2.symm))).trans (hc i hi)
 have hv5:∀ g,v5.ownBlock=some g->g ≠ b:=fun g e hb=>by
  rcases hob with h1 | h1
  ·exact (h.ownb (h1.symm.trans e)).2.1 hb
  ·rw [h1] at e; simp at e; have:=h.row.lt; omega
 have far5:∀ g,g < w.heap.size->(Value.slice a d.n cap).ownBlock ≠ some g->v5.ownBlock ≠ some g:=fun g hg h1 e=>by
  rcases hob with h2 | h2
  ·exact h1 (h2.symm.trans e)
  ·rw [h2] at e; simp at e; omega
 have bel:Below base w (w5.setCell ⟨b,11,none⟩ v5):=((Below.refl base w).grown hgr h.lt (fun k e=>(h.ownb e).1)).setCell (p:=⟨b,11,none⟩) h.hb v5
 obtain ⟨g5,c5,e5⟩:∃ g c,v5=.slice (some ⟨g,0,none⟩) (d.n+1) c:=by
  rcases hown.2 with ⟨_,h0⟩ | ⟨g,cp,cur,e,_⟩
  ·omega
  ·exact ⟨g,cp,e⟩
 have typ:DkCh base w (w5.setCell ⟨b,11,none⟩ v5):=by
  refine ⟨bel,fun k cs t fz hk h1 _ h3=>?_⟩
  have hkl:=(Array.getElem?_eq_some_iff.1 hk).1
  have hkb:k ≠ b:=fun e=>by
   subst e
   obtain ⟨cc,g1,_⟩:=h.row
   rw [g1] at hk
   cases hk
   exact h1 rfl
  refine (blk k hkb).trans ((hgr.block k hkl (fun e=>?_)).trans hk)
  obtain ⟨_,cs2,h2⟩:=h.own.ownNe e.symm
  rw [h2] at hk
  cases hk
  exact h3 rfl
 have hX:∀ i,i < d.n->addX X d.n x i=X i:=fun i hi=>by unfold addX; rw [if_pos hi]
 have hXn:addX X d.n x d.n=x:=by unfold addX; rw [if_neg (by omega)]
 have hst:StoAt (w5.setCell ⟨b,11,none⟩ v5) s d.T 4096 d.sy:=World.rowIs.of_block st5 (blk s (fun e=>hne e.symm))
 refine ⟨r5,⟨some ⟨g5,0,none⟩,c5,e5,?_⟩,typ⟩
 have en:=d.add_n I O
 have inE:∀ i,i < d.n+1->InEx (w5.setCell ⟨b,11,none⟩ v5) (addX X d.n x i) (Dsk.DI { d with ex:=d.ex ++ [(I,O)] } i) (Dsk.DO { d with ex:=d.ex ++ [(I,O)] } i):=fun i hi=>by
  by_cases e:i < d.n
  ·rw [hX i e,(d.add_DI I O i e).1,(d.add_DI I O i e).2]
   exact ⟨kept _ _ _ _ (h.ex i e).i (fun g o e2=>⟨(h.fa i e g o e2).2.1,(h.fa i e g o e2).2.2.2.1⟩),kept _ _ _ _ (h.ex i e).o (fun g o e2=>⟨(h.fb i e g o e2).2.1,(h.fb i e g o e2).2.2.2.1⟩)⟩
  ·obtain rfl:i=d.n:=by omega
   rw [hXn,(d.add_at I O).1,(d.add_at I O).2]
   exact ⟨kept _ _ _ _ hx.i (fun g o e2=>⟨(fx g o e2).2.1,(fx g o e2).2.2.2.1⟩),kept _ _ _ _ hx.o (fun g o e2=>⟨(fy g o e2).2.1,(fy g o e2).2.2.2.1⟩)⟩
 constructor
 ·show (w5.setCell ⟨b,11,none⟩ v5).rowIs b 64 13 (dcell d.c (.slice _ (Dsk.n { d with ex:=d.ex ++ [(I,O)] }) c5) (.pointer (some ⟨s,0,none⟩)))
  rw [en,← e5]
  refine (r5.set 11 v5).congr (fun i hi=>?_)
  rcases (show i=0\/i=1\/i=2\/i=3\/i=4\/i=5\/i=6\/i=7\/i=8\/i=9\/i=10\/i=11\/i=12 by omega) with rfl | rfl | rfl | rfl | rfl | rfl | rfl | rfl | rfl | rfl | rfl | rfl | rfl <;> rfl
 ·exact hst
 ·rw [en,← e5]
  refine ⟨hown.1,?_⟩
  rcases hown.2 with h0 | ⟨g,cp,cur,hv,hg,hh,r⟩
  ·exact .inl h0
  ·exact .inr ⟨g,cp,cur,hv,hg,by rw [blk g (hv5 g (by rw [hv]; rfl))]; exact hh,r⟩
 ·rw [en]; exact inE
 ·rw [en,← e5]
  intro i hi g o e
  by_cases e2:i < d.n
  ·rw [hX i e2] at e
   have f:=h.fa i e2 g o e
   exact ⟨f.1,f.2.1,f.2.2.1,far5 g f.2.2.2.2.lt f.2.2.2.1,f.2.2.2.2.of ((blk g f.2.1).trans (hgr.block g f.2.2.2.2.lt (fun e=>f.2.2.2.1 e.symm)))⟩
  ·obtain rfl:i=d.n:=by omega
   rw [hXn] at e
   have f:=fx g o e
   exact ⟨f.1,f.2.1,f.2.2.1,far5 g f.2.2.2.2.lt f.2.2.2.1,f.2.2.2.2.of ((blk g f.2.1).trans (hgr.block g f.2.2.2.2.lt (fun e=>f.2.2.2.1 e.symm)))⟩
 ·rw [en,← e5]
  intro i hi g o e
  by_cases e2:i < d.n
  ·rw [hX i e2] at e
   have f:=h.fb i e2 g o e
   exact ⟨f.1,f.2.1,f.2.2.1,far5 g f.2.2.2.2.lt f.2.2.2.1,f.2.2.2.2.of ((blk g f.2.1).trans (hgr.block g f.2.2.2.2.lt (fun e=>f.2.2.2.1 e.symm)))⟩
  ·obtain rfl:i=d.n:=by omega
   rw [hXn] at e
   have f:=fy g o e
   exact ⟨f.1,f.2.1,f.2.2.1,far5 g f.2.2.2.2.lt f.2.2.2.1,f.2.2.2.2.of ((blk g f.2.1).trans (hgr.block g f.2.2.2.2.lt (fun e=>f.2.2.2.1 e.symm)))⟩
 ·exact h.hb
 ·exact h.hs
 ·exact ⟨h.ok.c,h.ok.s,by have:=h16; unfold Dsk.n at this; show (d.ex ++ [(I,O)]).length<=16; simp; omega,h.ok.T,h.ok.sy⟩
 ·exact h.ldb.low bel
theorem dData_bad {ws:List (List UInt8)} (h:exO ws=none):dData ws d=⟨[],3,d⟩:=by unfold dData; rw [h]
theorem dData_good {ws:List (List UInt8)} {I O:List Int} (h:exO ws=some (I,O)):dData ws d=if 16<=d.ex.length then ⟨[],2,d⟩ else ⟨okA,0,{ d with ex:=d.ex ++ [(I,O)] }⟩:=by unfold dData; rw [h]
theorem addExample_calls (h:DkIn base w b s d a cap X) (al:Option Addr) (nl cl:Nat) (ws:List (List UInt8)) (hl:LstS w al nl cl ws) (hn:nl<=70000) (hw:∀ i,(ws.getD i []).length<=70000) :
  Calls Tryz.prog 30 #[.pointer (some ⟨b,0,none⟩),.slice al nl cl] w fun e w'=>DoR base b s w (dData ws d) e w':=by
 have EX:=Lib.hid (exampleOf_calls al nl cl ws w hl hn hw h.ld)
 have HH:Hid (∀ q,Below w.heap.size w q->DkIn base q b s d a cap X):=fun q hq=>h.below hq
 have hlt0:=h.lt
 have HB:Hid (b < w.heap.size/\s < w.heap.size/\∀ g,(Value.slice a d.n cap).ownBlock=some g->g < w.heap.size):=⟨h.row.lt,h.st.lt,fun g e=>(h.ownb e).2.2.2⟩
 clear hw hl
 go_enter Tryz.func30,Tryz.ntmps30
 go_wp2_with fail
 refine EX.out.mono ?_
 rintro e w1 ⟨hr,hw1⟩
 rcases hr with ⟨x,I,O,hx,rfl,hin,fa,fb⟩ | ⟨hx,rfl⟩
 ·have HX:=Lib.hid (dData_good (d:=d) hx)
  have hs1:=hw1.size
  have B2:=Zac w1 (.cells #[.slice x.a x.n x.k,.slice x.b x.m x.t] 78)
  have B12:=hw1.trans (B2.mono hw1.size)
  have hd2:=HH.out _ B12
  have R2:=Zaj w1 (.slice x.a x.n x.k) (.slice x.b x.m x.t) 78
  have hin2:=hin.below B2 nr
  obtain ⟨W2,HW2⟩:∃ q,Hid (q=w1.alloc (.cells #[.slice x.a x.n x.k,.slice x.b x.m x.t] 78)):=⟨_,rfl⟩
  have sz2:W2.heap.size=w1.heap.size+1:=by rw [HW2.out]; simp
  rw [← HW2.out] at B2 B12 hd2 R2 hin2
  simp only [Exm.val]
  go_upto_region 2 with fail
  rw [← HW2.out]
  have c11:=hd2.cells.2.1
  by_cases h16:16<=d.n
  ·have HD:Hid (dData ws d=⟨[],2,d⟩):=HX.out.trans (if_pos h16)
   have k1:(16:Int)<=(d.n:Int):=by omega
   go_wp2_with fail
   go_ret2
   exact ⟨by rw [HD.out]; rfl,⟨a,cap,X,by rw [HD.out]; exact hd2⟩,DkCh.ofBelow B12 hlt0⟩
  ·have HD:Hid (dData ws d=⟨okA,0,{ d with ex:=d.ex ++ [(I,O)] }⟩):=HX.out.trans (if_neg h16)
   have k1:¬ (16:Int)<=(d.n:Int):=by omega
   have h16:d.n < 16:=by omega
   obtain ⟨D3,HD3⟩:∃ q,Hid (q=(W2.alloc (.cells #[.slice x.a x.n x.k,.slice x.b x.m x.t] 78)).drew):=⟨_,rfl⟩
   have B23:Below W2.heap.size W2 D3:=by rw [HD3.out]; exact ((Below.refl W2.heap.size W2).alloc nr _).drew
   have sz3:D3.heap.size=W2.heap.size+1:=by rw [HD3.out]; simp
   have B13:=B12.trans (B23.mono B12.size)
   have hd3:=hd2.below B23
   have hx3:=hin2.below B23 nr
   obtain ⟨m0,m1⟩:=Zaa R2
   have SX2:W2.drew.cell? ⟨w1.heap.size,0,none⟩=some (.slice x.a x.n x.k)/\W2.drew.cell? ⟨w1.heap.size,1,none⟩=some (.slice x.b x.m x.t):=⟨m0,m1⟩
   have SX3:D3.cell? ⟨w1.heap.size,0,none⟩=some (.slice x.a x.n x.k)/\D3.cell? ⟨w1.heap.size,1,none⟩=some (.slice x.b x.m x.t):=Zaa (R2.of_block (B23.block _ R2.lt))
   have c2:W2.drew.cell? ⟨b,11,none⟩=some (.slice a d.n cap):=c11
   have c3:=hd3.cells.2.1
   have own3:OwnE base D3 (.slice a d.n cap) d.n (addX X d.n x):=by
    have:=hd3.own
    unfold OwnE at this ⊢
    rw [Zbw (Y:=X) (fun i hi=>by unfold addX; rw [if_pos hi])]
    exact this
   have hXn:addX X d.n x d.n=x:=by unfold addX; rw [if_neg (by omega)]
   have RN:=Zaj W2 (.slice x.a x.n x.k) (.slice x.b x.m x.t) 78
   have cn:D3.cell? ⟨w1.heap.size+1,0,none⟩=some (.slice x.a x.n x.k)/\D3.cell? ⟨w1.heap.size+1,1,none⟩=some (.slice x.b x.m x.t):=by
    rw [sz2] at RN
    rw [HD3.out]
    exact Zaa RN
   have cn0:D3.cell? ⟨w1.heap.size+1,0,none⟩=some (.slice (addX X d.n x d.n).a (addX X d.n x d.n).n (addX X d.n x d.n).k):=by rw [hXn]; exact cn.1
   have cn1:D3.cell? ⟨w1.heap.size+1,1,none⟩=some (.slice (addX X d.n x d.n).b (addX X d.n x d.n).m (addX X d.n x d.n).t):=by rw [hXn]; exact cn.2
   have fx3:∀ g o,x.a=some ⟨g,o,none⟩->base<=g/\g ≠ b/\g ≠ s/\(Value.slice a d.n cap).ownBlock ≠ some g/\TyI D3 g:=fun g o e=>by
    have f:=fa g o e
    have hbs:=HB.out
    have fl:=f.2.lt
    exact ⟨by omega,by omega,by omega,fun e2=>by have:=hbs.2.2 g e2; omega,(f.2.of (B2.block g fl)).of (B23.block g (by omega))⟩
   have fy3:∀ g o,x.b=some ⟨g,o,none⟩->base<=g/\g ≠ b/\g ≠ s/\(Value.slice a d.n cap).ownBlock ≠ some g/\TyI D3 g:=fun g o e=>by
    have f:=fb g o e
    have hbs:=HB.out
    have fl:=f.2.lt
    exact ⟨by omega,by omega,by omega,fun e2=>by have:=hbs.2.2 g e2; omega,(f.2.of (B2.block g fl)).of (B23.block g (by omega))⟩
   have KX:Hid (∀ q,D3.grownBy q (Value.slice a d.n cap).ownBlock->q.cell? ⟨w1.heap.size,0,none⟩=some (.slice x.a x.n x.k)/\q.cell? ⟨w1.heap.size,1,none⟩=some (.slice x.b x.m x.t)):=fun q hq=>by
    have hb:=hq.block w1.heap.size (by omega) (fun e=>by have:=HB.out.2.2 _ e.symm; omega)
    exact ⟨(World.cell?_of_block (a:=⟨w1.heap.size,0,none⟩) hb).trans SX3.1,(World.cell?_of_block (a:=⟨w1.heap.size,1,none⟩) hb).trans SX3.2⟩
   have KX6:Hid (∀ (q:World) (v:Value),(q.cell? ⟨w1.heap.size,0,none⟩=some (.slice x.a x.n x.k)/\q.cell? ⟨w1.heap.size,1,none⟩=some (.slice x.b x.m x.t))->(q.setCell ⟨b,11,none⟩ v).cell? ⟨w1.heap.size,0,none⟩=some (.slice x.a x.n x.k)/\(q.setCell ⟨b,11,none⟩ v).cell? ⟨w1.heap.size,1,none⟩=some (.slice x.b x.m x.t)):=fun q v hq=>by
    have hbs:=HB.out.1
    have hb:=Go.Deep.blk_setCell_other q ⟨b,11,none⟩ v w1.heap.size (by show w1.heap.size ≠ b; omega)
    exact ⟨(World.cell?_of_block (a:=⟨w1.heap.size,0,none⟩) hb).trans hq.1,(World.cell?_of_block (a:=⟨w1.heap.size,1,none⟩) hb).trans hq.2⟩
   clear cn RN hXn fa fb hin hin2 R2 m0 m1 EX
   go_wp2_with fail
   refine wp_region_held_drew (S:=fun q=>q.cell? ⟨w1.heap.size,0,none⟩=some (.slice x.a x.n x.k)/\q.cell? ⟨w1.heap.size,1,none⟩=some (.slice x.b x.m x.t)) (by kernel_rfl) (by with_reducible exact SX2) (fun hHeld=>?_)
   refine tk 0 (h:=?_)
   refine tk 1 (h:=?_)
   refine tk 2 (h:=?_)
   refine tk 3 (h:=?_)
   refine tk 5 (h:=?_)
   refine wpAnyH_ready (rs:=[4,6]) (by kernel_rfl) (by simp) ?_
   refine AllReadyH.cons (o:=_) rfl (fun K hK=>?_) (AllReadyH.cons (o:=_) rfl (fun K hK=>?_) AllReadyH.nil)
   ·clear hHeld
    go_simp
    refine hK.out _ _ ?_ (fun hHeld=>?_)
    ·with_reducible exact SX2
    clear hK K
    try simp only [Act.put,List.setIfInBounds_toArray,List.set_cons_zero,List.set_cons_succ]
    refine rd 6 (h:=fun K hK=>?_)
    clear hHeld
    go_simp
    rw [← HD3.out]
    refine hK.out _ _ ?_ (fun hHeld=>?_)
    ·with_reducible exact SX3
    clear hK K
    try simp only [Act.put,List.setIfInBounds_toArray,List.set_cons_zero,List.set_cons_succ]
    refine rd 7 (h:=fun K hK=>?_)
    clear hHeld
    (refine ZcS (by rfl) _ _ (by rfl) base (.slice a d.n cap) d.n (addX X d.n x) (w1.heap.size+1) (by rfl) (by rfl) (by exact own3) (by exact cn0) (by exact cn1) (by omega) (by omega) ?_; intro v5 w5 hown5 hgr5 hob5; obtain ⟨r5,⟨a5,c5,hv5,hd5⟩,ch5⟩:=hd3.addE hx3 fx3 fy3 h16 hown5 hgr5 hob5; subst hv5; have P5:=r5.cell (i:=11) (by omega); have F5:=r5.frozen 11; have SX5:w5.cell? ⟨w1.heap.size,0,none⟩=some (.slice x.a x.n x.k)/\w5.cell? ⟨w1.heap.size,1,none⟩=some (.slice x.b x.m x.t):=KX.out w5 hgr5; have SX6:=KX6.out _ (.slice a5 (d.n+1) c5) SX5)
    refine hK.out _ _ ?_ (fun hHeld=>?_)
    ·with_reducible exact SX5
    clear hK K
    try simp only [Act.put,List.setIfInBounds_toArray]
    refine tk 8 (h:=?_)
    refine tk 9 (h:=?_)
    refine rd 10 (h:=fun K hK=>?_)
    clear hHeld
    go_simp
    refine hK.out _ _ ?_ (fun hHeld=>?_)
    ·with_reducible exact SX6
    clear hK K
    try simp only [Act.put,List.setIfInBounds_toArray]
    refine wpAnyH_done (by kernel_rfl) ?_ _
    go_wp2_with fail
    go_ret2
    exact ⟨by rw [HD.out]; rfl,⟨_,_,_,by rw [HD.out]; exact hd5⟩,(DkCh.ofBelow B13 hlt0).trans ch5⟩
   ·clear hHeld
    go_simp
    rw [← HD3.out]
    refine hK.out _ _ ?_ (fun hHeld=>?_)
    ·with_reducible exact SX3
    clear hK K
    try simp only [Act.put,List.setIfInBounds_toArray,List.set_cons_zero,List.set_cons_succ]
    refine rd 4 (h:=fun K hK=>?_)
    clear hHeld
    go_simp
    refine hK.out _ _ ?_ (fun hHeld=>?_)
    ·with_reducible exact SX3
    clear hK K
    try simp only [Act.put,List.setIfInBounds_toArray,List.set_cons_zero,List.set_cons_succ]
    refine rd 7 (h:=fun K hK=>?_)
    clear hHeld
    (refine ZcS (by rfl) _ _ (by rfl) base (.slice a d.n cap) d.n (addX X d.n x) (w1.heap.size+1) (by rfl) (by rfl) (by exact own3) (by exact cn0) (by exact cn1) (by omega) (by omega) ?_; intro v5 w5 hown5 hgr5 hob5; obtain ⟨r5,⟨a5,c5,hv5,hd5⟩,ch5⟩:=hd3.addE hx3 fx3 fy3 h16 hown5 hgr5 hob5; subst hv5; have P5:=r5.cell (i:=11) (by omega); have F5:=r5.frozen 11; have SX5:w5.cell? ⟨w1.heap.size,0,none⟩=some (.slice x.a x.n x.k)/\w5.cell? ⟨w1.heap.size,1,none⟩=some (.slice x.b x.m x.t):=KX.out w5 hgr5; have SX6:=KX6.out _ (.slice a5 (d.n+1) c5) SX5)
    refine hK.out _ _ ?_ (fun hHeld=>?_)
    ·with_reducible exact SX5
    clear hK K
    try simp only [Act.put,List.setIfInBounds_toArray]
    refine tk 8 (h:=?_)
    refine tk 9 (h:=?_)
    refine rd 10 (h:=fun K hK=>?_)
    clear hHeld
    go_simp
    refine hK.out _ _ ?_ (fun hHeld=>?_)
    ·with_reducible exact SX6
    clear hK K
    try simp only [Act.put,List.setIfInBounds_toArray]
    refine wpAnyH_done (by kernel_rfl) ?_ _
    go_wp2_with fail
    go_ret2
    exact ⟨by rw [HD.out]; rfl,⟨_,_,_,by rw [HD.out]; exact hd5⟩,(DkCh.ofBelow B13 hlt0).trans ch5⟩
 ·have HD:=Lib.hid (dData_bad (d:=d) hx)
  have B2:=Zac w1 (.cells #[.slice none 0 0,.slice none 0 0] 78)
  have B12:=hw1.trans (B2.mono hw1.size)
  have hd2:=HH.out _ B12
  clear hx
  go_wp2_with fail
  go_ret2
  exact ⟨by rw [HD.out]; rfl,⟨a,cap,X,by rw [HD.out]; exact hd2⟩,DkCh.ofBelow B12 hlt0⟩
end
section
def bnCs (c:Cfg) (v:Value) (T:List UInt8) (sy:Nat):List Value:=c.cells.toList ++ [v,.string ⟨T.toArray⟩,.int .i64 sy]
def bnCell (c:Cfg) (v:Value) (T:List UInt8) (sy:Nat) (i:Nat):Value:=(bnCs c v T sy).getD i undef
structure BnIn (base:Nat) (w:World) (b:Nat) (d:Dsk) (a:Option Addr) (cap:Nat) (X:Nat->Exm):Prop where
 row:w.rowIs b 53 14 (bnCell d.c (.slice a d.n cap) d.T d.sy)
 own:OwnE base w (.slice a d.n cap) d.n X
 ex:∀ i,i < d.n->InEx w (X i) (d.DI i) (d.DO i)
 ty:∀ i,i < d.n->(∀ g o,(X i).a=some ⟨g,o,none⟩->TyI w g)/\(∀ g o,(X i).b=some ⟨g,o,none⟩->TyI w g)
 hb:base<=b
 ok:d.ok
 ldb:LDb base w
variable {base:Nat} {w w':World} {b:Nat} {d:Dsk} {a:Option Addr} {cap:Nat} {X:Nat->Exm}
theorem BnIn.ld (h:BnIn base w b d a cap X):LD w:=h.ldb.out
theorem BnIn.lt (h:BnIn base w b d a cap X):base<=w.heap.size:=Nat.le_trans h.hb (Nat.le_of_lt h.row.lt)
theorem BnIn.cells (h:BnIn base w b d a cap X):BoxC w b d.c/\w.cell? ⟨b,11,none⟩=some (.slice a d.n cap)/\w.cell? ⟨b,12,none⟩=some (.string ⟨d.T.toArray⟩)/\w.cell? ⟨b,13,none⟩=some (.int .i64 d.sy) :=
 ⟨⟨h.row.cell (i:=0) (by omega),h.row.cell (i:=1) (by omega),h.row.cell (i:=2) (by omega),h.row.cell (i:=3) (by omega),h.row.cell (i:=4) (by omega),h.row.cell (i:=5) (by omega),h.row.cell (i:=6) (by omega),h.row.cell (i:=7) (by omega),h.row.cell (i:=8) (by omega),h.row.cell (i:=9) (by omega),h.row.cell (i:=10) (by omega)⟩,h.row.cell (i:=11) (by omega),h.row.cell (i:=12) (by omega),h.row.cell (i:=13) (by omega)⟩
theorem BnIn.exs (h:BnIn base w b d a cap X):Exs w a d.n cap X d.DI d.DO:=by
 obtain ⟨a',c',e,hx⟩:=h.own.exs h.ex
 cases e
 exact hx
theorem BnIn.tyNe (h:BnIn base w b d a cap X) {g:Nat} (hg:TyI w g):g ≠ b:=fun e=>by
 obtain ⟨c,g1,_⟩:=h.row
 obtain ⟨cs,fz,g2⟩:=hg
 rw [e,g1] at g2
 cases g2
theorem BnIn.ownNeB (h:BnIn base w b d a cap X) {g:Nat} (hg:(Value.slice a d.n cap).ownBlock=some g):g ≠ b:=fun e=>by
 obtain ⟨_,cs,h2⟩:=h.own.ownNe hg
 obtain ⟨c,g1,_⟩:=h.row
 rw [e,g1] at h2
 cases h2
theorem BnIn.ownTy (h:BnIn base w b d a cap X) {g:Nat} (hg:TyI w g):(Value.slice a d.n cap).ownBlock ≠ some g:=fun e=>by
 obtain ⟨_,cs,h2⟩:=h.own.ownNe e
 obtain ⟨cs3,fz,h3⟩:=hg
 rw [h2] at h3
 cases h3
theorem Lst.ofTy {w w':World} {aa:Option Addr} {n c:Nat} {xs:List Int} (hl:Lst w aa n c xs) (hsz:w.heap.size<=w'.heap.size) (hf:∀ g o,aa=some ⟨g,o,none⟩->w'.heap[g]?=w.heap[g]?):Lst w' aa n c xs:=by
 refine ⟨hl.1,hl.2.1,?_⟩
 rcases hl.2.2 with h0 | ⟨g,off,e,hs',hc⟩
 ·exact .inl h0
 ·exact .inr ⟨g,off,e,Nat.lt_of_lt_of_le hs' hsz,fun i hi=>(World.cell?_of_block (a:=⟨g,off+i,none⟩) (hf g off e)).trans (hc i hi)⟩
theorem BnIn.turn (h:BnIn base w b d a cap X) (hsz:w.heap.size<=w'.heap.size) (hk:∀ k,k < w.heap.size->k ≠ b->w'.heap[k]?=w.heap[k]?) {d':Dsk} (hex:d'.ex=d.ex) (row:w'.rowIs b 53 14 (bnCell d'.c (.slice a d.n cap) d'.T d'.sy)) (hok:d'.ok) (hL:LDb base w'):BnIn base w' b d' a cap X:=by
 have en:d'.n=d.n:=by unfold Dsk.n; rw [hex]
 have eI:d'.DI=d.DI:=by unfold Dsk.DI; rw [hex]
 have eO:d'.DO=d.DO:=by unfold Dsk.DO; rw [hex]
 have key:∀ g,TyI w g->w'.heap[g]?=w.heap[g]?:=fun g hg=>hk g hg.lt (h.tyNe hg)
 refine ⟨by rw [en]; exact row,?_,fun i hi=>?_,fun i hi=>?_,h.hb,hok,hL⟩
 ·rw [en]
  refine ⟨h.own.1,?_⟩
  rcases h.own.2 with h0 | ⟨g,cp,cur,hv,hg,hh,r⟩
  ·exact .inl h0
  ·refine .inr ⟨g,cp,cur,hv,hg,?_,r⟩
   rw [hk g (Array.getElem?_eq_some_iff.1 hh).1 (h.ownNeB (by rw [hv]; rfl))]
   exact hh
 ·rw [en] at hi
  rw [eI,eO]
  exact ⟨(h.ex i hi).i.ofTy hsz (fun g o e=>key g ((h.ty i hi).1 g o e)),(h.ex i hi).o.ofTy hsz (fun g o e=>key g ((h.ty i hi).2 g o e))⟩
 ·rw [en] at hi
  exact ⟨fun g o e=>((h.ty i hi).1 g o e).of (key g ((h.ty i hi).1 g o e)),fun g o e=>((h.ty i hi).2 g o e).of (key g ((h.ty i hi).2 g o e))⟩
theorem BnIn.below (h:BnIn base w b d a cap X) (hb:Below w.heap.size w w'):BnIn base w' b d a cap X :=
 h.turn hb.size (fun k hk _=>hb.block k hk) rfl (h.row.of_block (hb.block _ h.row.lt)) h.ok (h.ldb.low (hb.mono h.lt))
theorem lt14 {i:Nat} (h:i < 14):i=0\/i=1\/i=2\/i=3\/i=4\/i=5\/i=6\/i=7\/i=8\/i=9\/i=10\/i=11\/i=12\/i=13:=by omega
theorem blk_set (w:World) (b i:Nat) (v:Value) (k:Nat) (hk:k ≠ b):(w.setCell ⟨b,i,none⟩ v).heap[k]?=w.heap[k]?:=Go.Deep.blk_setCell_other w ⟨b,i,none⟩ v k hk
theorem BnIn.setT (h:BnIn base w b d a cap X) {T:List UInt8} (hT:T.length<=4096) (hsy:d.sy<=T.length):BnIn base (w.setCell ⟨b,12,none⟩ (.string ⟨T.toArray⟩)) b { d with T:=T } a cap X:=by
 refine h.turn (by rw [World.size_setCell]; exact nr) (fun k _ hk=>blk_set w b 12 _ k hk) rfl ?_ ⟨h.ok.c,h.ok.s,h.ok.n,hT,hsy⟩ (h.ldb.low ((Below.refl base w).setCell (p:=⟨b,12,none⟩) h.hb _))
 refine (h.row.set 12 (.string ⟨T.toArray⟩)).congr (fun i hi=>?_)
 rcases lt14 hi with rfl | rfl | rfl | rfl | rfl | rfl | rfl | rfl | rfl | rfl | rfl | rfl | rfl | rfl <;> rfl
theorem BnIn.setS (h:BnIn base w b d a cap X) {sy:Nat} (hsy:sy<=d.T.length):BnIn base (w.setCell ⟨b,13,none⟩ (.int .i64 sy)) b { d with sy:=sy } a cap X:=by
 refine h.turn (by rw [World.size_setCell]; exact nr) (fun k _ hk=>blk_set w b 13 _ k hk) rfl ?_ ⟨h.ok.c,h.ok.s,h.ok.n,h.ok.T,hsy⟩ (h.ldb.low ((Below.refl base w).setCell (p:=⟨b,13,none⟩) h.hb _))
 refine (h.row.set 13 (.int .i64 sy)).congr (fun i hi=>?_)
 rcases lt14 hi with rfl | rfl | rfl | rfl | rfl | rfl | rfl | rfl | rfl | rfl | rfl | rfl | rfl | rfl <;> rfl
theorem BnIn.setTS (h:BnIn base w b d a cap X) {T:List UInt8} {sy:Nat} (hT:T.length<=4096) (hsy:sy<=T.length):BnIn base ((w.setCell ⟨b,12,none⟩ (.string ⟨T.toArray⟩)).setCell ⟨b,13,none⟩ (.int .i64 sy)) b { d with T:=T,sy:=sy } a cap X:=by
 refine h.turn (by rw [World.size_setCell,World.size_setCell]; exact nr) (fun k _ hk=>(blk_set _ b 13 _ k hk).trans (blk_set w b 12 _ k hk)) rfl ?_ ⟨h.ok.c,h.ok.s,h.ok.n,hT,hsy⟩ (h.ldb.low (((Below.refl base w).setCell (p:=⟨b,12,none⟩) h.hb _).setCell (p:=⟨b,13,none⟩) h.hb _))
 refine ((h.row.set 12 (.string ⟨T.toArray⟩)).set 13 (.int .i64 sy)).congr (fun i hi=>?_)
 rcases lt14 hi with rfl | rfl | rfl | rfl | rfl | rfl | rfl | rfl | rfl | rfl | rfl | rfl | rfl | rfl <;> rfl
theorem BnIn.addE (h:BnIn base w b d a cap X) {x:Exm} {I O:List Int} (hx:InEx w x I O) (tx:∀ g o,x.a=some ⟨g,o,none⟩->TyI w g) (tz:∀ g o,x.b=some ⟨g,o,none⟩->TyI w g) (h16:d.n < 16)
  {v5:Value} {w5:World} (hown:OwnE base w5 v5 (d.n+1) (addX X d.n x)) (hgr:w.grownBy w5 (Value.slice a d.n cap).ownBlock) (hob:v5.ownBlock=(Value.slice a d.n cap).ownBlock\/v5.ownBlock=some w.heap.size) :
  ∃ a5 c5,v5=.slice a5 (d.n+1) c5/\BnIn base (w5.setCell ⟨b,11,none⟩ v5) b { d with ex:=d.ex ++ [(I,O)] } a5 c5 (addX X d.n x)/\Below base w (w5.setCell ⟨b,11,none⟩ v5):=by
 have ownlt:∀ k,(Value.slice a d.n cap).ownBlock=some k->base<=k:=fun k e=>(h.own.ownNe e).1
 have r5:w5.rowIs b 53 14 (bnCell d.c (.slice a d.n cap) d.T d.sy):=h.row.of_block (hgr.block b h.row.lt (fun e=>h.ownNeB e.symm rfl))
 have blk:∀ k,k ≠ b->(w5.setCell ⟨b,11,none⟩ v5).heap[k]?=w5.heap[k]?:=fun k hk=>blk_set w5 b 11 v5 k hk
 have key:∀ g,TyI w g->(w5.setCell ⟨b,11,none⟩ v5).heap[g]?=w.heap[g]?:=fun g hg=>(blk g (h.tyNe hg)).trans (hgr.block g hg.lt (fun e=>h.ownTy hg e.symm))
 have hsz:w.heap.size<=(w5.setCell ⟨b,11,none⟩ v5).heap.size:=by rw [World.size_setCell]; exact hgr.size
 have hv5:∀ g,v5.ownBlock=some g->g ≠ b:=fun g e hb=>by
  rcases hob with h1 | h1
  ·exact h.ownNeB (h1.symm.trans e) hb
  ·rw [h1] at e; simp at e; have:=h.row.lt; omega
 have bel:Below base w (w5.setCell ⟨b,11,none⟩ v5):=((Below.refl base w).grown hgr h.lt ownlt).setCell (p:=⟨b,11,none⟩) h.hb v5
 obtain ⟨g5,c5,e5⟩:∃ g c,v5=.slice (some ⟨g,0,none⟩) (d.n+1) c:=by
  rcases hown.2 with ⟨_,h0⟩ | ⟨g,cp,cur,e,_⟩
  ·omega
  ·exact ⟨g,cp,e⟩
 have hX:∀ i,i < d.n->addX X d.n x i=X i:=fun i hi=>by unfold addX; rw [if_pos hi]
 have hXn:addX X d.n x d.n=x:=by unfold addX; rw [if_neg (by omega)]
 have en:=d.add_n I O
 refine ⟨_,_,e5,⟨?_,?_,fun i hi=>?_,fun i hi=>?_,h.hb,?_,h.ldb.low bel⟩,bel⟩
 ·show (w5.setCell ⟨b,11,none⟩ v5).rowIs b 53 14 (bnCell d.c (.slice _ (Dsk.n { d with ex:=d.ex ++ [(I,O)] }) c5) d.T d.sy)
  rw [en,← e5]
  refine (r5.set 11 v5).congr (fun i hi=>?_)
  rcases lt14 hi with rfl | rfl | rfl | rfl | rfl | rfl | rfl | rfl | rfl | rfl | rfl | rfl | rfl | rfl <;> rfl
 ·rw [en,← e5]
  refine ⟨hown.1,?_⟩
  rcases hown.2 with h0 | ⟨g,cp,cur,hv,hg,hh,r⟩
  ·exact .inl h0
  ·exact .inr ⟨g,cp,cur,hv,hg,by rw [blk g (hv5 g (by rw [hv]; rfl))]; exact hh,r⟩
 ·rw [en] at hi
  by_cases e:i < d.n
  ·rw [hX i e,(d.add_DI I O i e).1,(d.add_DI I O i e).2]
   exact ⟨(h.ex i e).i.ofTy hsz (fun g o e2=>key g ((h.ty i e).1 g o e2)),(h.ex i e).o.ofTy hsz (fun g o e2=>key g ((h.ty i e).2 g o e2))⟩
  ·obtain rfl:i=d.n:=by omega
   rw [hXn,(d.add_at I O).1,(d.add_at I O).2]
   exact ⟨hx.i.ofTy hsz (fun g o e2=>key g (tx g o e2)),hx.o.ofTy hsz (fun g o e2=>key g (tz g o e2))⟩
 ·rw [en] at hi
  by_cases e:i < d.n
  ·rw [hX i e]
   exact ⟨fun g o e2=>((h.ty i e).1 g o e2).of (key g ((h.ty i e).1 g o e2)),fun g o e2=>((h.ty i e).2 g o e2).of (key g ((h.ty i e).2 g o e2))⟩
  ·obtain rfl:i=d.n:=by omega
   rw [hXn]
   exact ⟨fun g o e2=>(tx g o e2).of (key g (tx g o e2)),fun g o e2=>(tz g o e2).of (key g (tz g o e2))⟩
 ·exact ⟨h.ok.c,h.ok.s,by show (d.ex ++ [(I,O)]).length<=16; rw [List.length_append]; have:d.ex.length < 16:=h16; simp; omega,h.ok.T,h.ok.sy⟩
def BnR (base b:Nat) (w:World) (o:Out) (e:Ending) (w':World):Prop:=e=.returned (.string ⟨o.line.toArray⟩)/\(∃ a cap X,BnIn base w' b o.d a cap X)/\Below base w w'
theorem ZaQ (e0:Int) (h0:1<=e0) (h1:e0<=99) (w:World) (hL:LD w) :
  Calls Tryz.prog 39 #[.int .i64 e0] w fun e w'=>e=.returned (.string ⟨(errA e0).toArray⟩)/\Below w.heap.size w w':=by
 have HI:=ZaC e0 (by omega) (by omega) w hL
 have HC:Hid ((⟨([101,114,114,111,114,32]:List UInt8).toArray⟩:ByteArray) ++ ⟨(Lib.itoa e0).toArray⟩=⟨(errA e0).toArray⟩):=by
  show _=_
  rw [arr_cat2]
  rfl
 obtain ⟨Z,HZ⟩:=nm ((⟨(Lib.itoa e0).toArray⟩:ByteArray))
 have hzs:Z.size<=2:=by rw [← HZ.out]; exact itoa_short (by omega) (by omega) (by omega)
 have hz2:6+Z.size<=9223372036854775807:=by omega
 rw [HZ.out] at HI HC
 go_enter Tryz.func39,Tryz.ntmps39
 go_wp2_with fail
 refine HI.mono ?_
 rintro e w1 ⟨rfl,hw1⟩
 go_wp2_with fail
 go_ret
 exact ⟨congrArg Ending.returned (congrArg Value.string HC.out),hw1⟩
end
end Go.Proofs.YthmiojmlaclgaaaGreatDoor.Fx
