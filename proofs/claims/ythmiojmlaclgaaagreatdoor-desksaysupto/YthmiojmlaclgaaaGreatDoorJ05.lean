/- What the law stands on: TreeE RecsD Journals JrPl AppsW JWords JrnB PupC AppsFar OnceB AppsAll JCat. -/
import Derived.Test.YthmiojmlaclgaaaGreatDoorJ00
import Derived.Test.YthmiojmlaclgaaaGreatDoorJ04
import Derived.Deep.AppendLies
import Derived.Test.YthmiojmlaclgaaaGreatDoorJ02
import Derived.Test.YthmiojmlaclgaaaGreatDoorJ01
import Derived.Lib.AppendZeros
import Derived.Lib.SliceRun
set_option maxRecDepth 100000
set_option maxHeartbeats 12800000
namespace Go.Proofs.YthmiojmlaclgaaaGreatDoor.Fx
open Go.RowKit
theorem chunks_calls (n:Nat) (h:n<=200) (w:World):Calls Tryz.prog 240 #[.int .i64 n] w fun e w'=>e=.returned (.int .i64 ((n+3) / 4:Nat))/\w'=w:=by
 have e1:((n:Int)+4 - 1).tdiv 4=(((n+3) / 4:Nat):Int):=by
  rw [Int.tdiv_eq_ediv_of_nonneg (by omega)]; omega
 go_enter Tryz.func240,Tryz.ntmps240
 go_wp2
 go_ret
 exact ⟨ZaV (by omega),rfl⟩
theorem numL_ok (xs:List Int) (n:Nat):okL (numL xs n):=by
 unfold numL
 intro i hi
 by_cases h:200 < n
 ·rw [if_pos h] at hi; simp at hi
 ·rw [if_neg h] at hi ⊢
  simp at hi
  have:=boundP_ok (xs.getD i 0)
  simp only [List.getD_eq_getElem?_getD,List.getElem?_map,List.getElem?_range hi,Option.map_some,Option.getD_some,numG] at this ⊢
  exact ⟨this.1,by omega⟩
theorem leaf_calls (a:Option Addr) (la ca:Nat) (xs:List Int) (w:World) (ha:Lst w a la ca xs) (_hl:la<=4) :
  Calls Tryz.prog 241 #[.slice a la ca] w fun e w'=>e=.returned (.int .u64 (ofP 4 (numL xs la)))/\Below w.heap.size w w':=by
 go_enter Tryz.func241,Tryz.ntmps241
 go_wp2_with (first | (go_at_call 244; refine (dNumbers_calls _ _ _ xs _ ha).mono ?_; rintro e w1 ⟨a1,n1,rfl,hn1,h1,hw1⟩) | (go_at_call 210; refine (dOf_calls 4 ⟨by omega,by omega⟩ _ _ _ (numL xs la) _ h1 (numL_ok _ _)).mono ?_; rintro e w2 ⟨rfl,hw2⟩))
 go_ret
 exact ⟨ZaV (by unfold ofA; rw [if_neg (by omega)]),hw1.trans (hw2.mono hw1.size)⟩
def hiN (n i:Nat):Nat:=min (i * 4+4) n
def leafG (xs:List Int) (n i:Nat):Int:=ofP 4 (numL ((xs.drop (i * 4)).take (hiN n i - i * 4)) (hiN n i - i * 4))
def leavesP (xs:List Int) (n:Nat):List Int:=(List.range ((n+3) / 4)).map (leafG xs n)
theorem leavesP_len (xs:List Int) (n:Nat):(leavesP xs n).length=(n+3) / 4:=by unfold leavesP; simp
theorem ZcJ (xs:List Int) (n:Nat):okL (leavesP xs n):=by
 intro i hi
 rw [leavesP_len] at hi
 unfold leavesP
 simp only [List.getD_eq_getElem?_getD,List.getElem?_map,List.getElem?_range hi,Option.map_some,Option.getD_some]
 exact okW_of_P (ZbO _ _)
theorem leaves_calls (a:Option Addr) (n c:Nat) (xs:List Int) (w:World) (ha:Lst w a n c xs) (h1:1<=n) (h2:n<=200) :
  Calls Tryz.prog 236 #[.slice a n c] w fun e w'=>∃ a',e=.returned (.tuple #[.slice a' ((n+3) / 4:Nat) ((n+3) / 4:Nat),.int .i64 0])/\LstW w' a' ((n+3) / 4) ((n+3) / 4) (leavesP xs n)/\Below w.heap.size w w':=by
 unfold leavesP
 have n0:((n:Int) == 0)=false:=by rw [beq_eq_false_iff_ne]; omega
 have HC:Hid (∀ w,Calls Tryz.prog 240 #[.int .i64 n] w fun e w'=>e=.returned (.int .i64 ((n+3) / 4:Nat))/\w'=w):=chunks_calls n h2
 obtain ⟨N,hN⟩:∃ N,(n+3) / 4=N:=⟨_,rfl⟩
 rw [hN] at HC ⊢
 have hmk:=run_make_row' (P:=Tryz.prog) 144 48 (.int .u64 0) 8 Tryz.underlying144 infoW rfl .i64 .i64 N (by omega) (by omega)
 obtain ⟨b,off,x,rfl,hb,h0,HX⟩:=ha.at1 (k:=0) (by omega)
 have HK:=ha.cap
 go_enter Tryz.func236,Tryz.ntmps236
 go_wp2_with (go_at_call 240; refine (HC.out _).mono ?_; rintro e w' ⟨rfl,hw'⟩; replace hw':=hw'.symm; subst hw')
 go_loopw [19] (fun i wr=>∃ k:Nat,k<=N/\i=.int .i64 k/\wr.rowIs w.heap.size 48 N (rowToW (leafG xs n) k)/\Below w.heap.size w wr) (fun i _=>N - (intOf i).toNat)
 case atStart=>exact ⟨0,Nat.zero_le _,rfl,ZbY (World.rowIs_made _ _ _ _),br.alloc nr _⟩
 case round =>
  obtain ⟨k,hk,rfl,hrow,hbel⟩:=hrel
  have ha':=ha.below hbel nr
  clear ha hmk
  by_cases hlt:k < N
  ·obtain ⟨lo,hlo⟩:∃ lo,k * 4=lo:=⟨_,rfl⟩
   obtain ⟨hi,hhi⟩:∃ hi,hiN n k=hi:=⟨_,rfl⟩
   have hh:lo<=hi/\hi<=n/\hi<=lo+4:=by unfold hiN at hhi; omega
   have hs:=ha'.sub (by omega) lo hi (by omega) (by omega)
   have HG:Hid (leafG xs n k=ofP 4 (numL ((xs.drop lo).take (hi - lo)) (hi - lo))):=by show leafG xs n k=_; unfold leafG; rw [hlo,hhi]
   have HM:Hid (hi=min (lo+4) n):=by show hi=min (lo+4) n; rw [← hhi,← hlo]; rfl
   have c3:=ZbE hrow hlt
   have f3:=hrow.frozen k
   have e1:(k:Int) * 4=(lo:Int):=by omega
   clear hhi hlo
   have hlr:=hrow.lt
   go_wp2_with fail
   all_goals
    first
     | rw [show ((lo:Int)+4).toNat=hi from by have:=HM.out; omega]
     | rw [show n - lo=hi - lo from by have:=HM.out; omega]
    refine (leaf_calls _ _ _ _ _ hs (by omega)).mono ?_
    rintro e w1 ⟨rfl,hw1⟩
    have hrow1:=hrow.of_block (hw1.block _ hlr)
    have d3:=ZbE hrow1 hlt
    have g3:=hrow1.frozen k
    clear c3 f3
    go_wp2
    go_roundw
    case rel =>
     have st:=ZbX (g:=leafG xs n) hrow1
     rw [HG.out] at st
     exact ⟨k+1,by omega,by go_num,st,(hbel.trans (hw1.mono hbel.size)).setCell nr _⟩
    case measure=>simp [intOf]; omega
  ·go_wp2
   go_ret2
   obtain rfl:k=N:=by omega
   exact ⟨_,rfl,rowToW_lst hrow,hbel⟩
def rootP (ws ms:List Int) (n:Nat):Int:=ofP 3 [(n:Int),treeP (leavesP (ws ++ ms) n)]
structure Rcm where
 s:Int
 a:Option Addr
 n:Nat
 k:Nat
 r:Int
 root:Int
 chain:Int
def Rcm.cells (x:Rcm):Array Value:=#[.int .i64 x.s,.slice x.a x.n x.k,.int .i64 x.r,.int .u64 x.root,.int .u64 x.chain]
def Rcm.val (x:Rcm):Value:=.agg x.cells
def Recs (w:World) (a:Option Addr) (n cap:Nat) (R:Nat->Rcm) (D:Nat->List Int):Prop :=
 n<=cap/\(n=0\/∃ b off,a=some ⟨b,off,none⟩/\b < w.heap.size/\∀ i,i < n->w.cell? ⟨b,off+i * 5,none⟩=some (.int .i64 (R i).s)/\w.cell? ⟨b,off+i * 5+1,none⟩=some (.slice (R i).a (R i).n (R i).k)/\w.cell? ⟨b,off+i * 5+2,none⟩=some (.int .i64 (R i).r)/\w.cell? ⟨b,off+i * 5+3,none⟩=some (.int .u64 (R i).root)/\w.cell? ⟨b,off+i * 5+4,none⟩=some (.int .u64 (R i).chain)/\Lst w (R i).a (R i).n (R i).k (D i))
theorem Recs.below {w w':World} {a:Option Addr} {n c:Nat} {R:Nat->Rcm} {D:Nat->List Int} {B:Nat} (h:Recs w a n c R D) (hb:Below B w w') (hB:w.heap.size<=B):Recs w' a n c R D:=by
 refine ⟨h.1,?_⟩
 rcases h.2 with h0 | ⟨b,off,e,hs,hc⟩
 ·exact .inl h0
 ·have k:∀ o,w'.cell? ⟨b,o,none⟩=w.cell? ⟨b,o,none⟩:=fun o=>hb.cell (p:=⟨b,o,none⟩) (Nat.lt_of_lt_of_le hs hB)
  exact .inr ⟨b,off,e,Nat.lt_of_lt_of_le hs hb.size,fun i hi =>
   ⟨(k _).trans (hc i hi).1,(k _).trans (hc i hi).2.1,(k _).trans (hc i hi).2.2.1,(k _).trans (hc i hi).2.2.2.1,(k _).trans (hc i hi).2.2.2.2.1,(hc i hi).2.2.2.2.2.below hb hB⟩⟩
theorem Recs.nil (w:World) (a:Option Addr) (c:Nat) (R:Nat->Rcm) (D:Nat->List Int):Recs w a 0 c R D:=⟨Nat.zero_le _,.inl rfl⟩
theorem Recs.at {w:World} {a:Option Addr} {n c:Nat} {R:Nat->Rcm} {D:Nat->List Int} (h:Recs w a n c R D) (hn:0 < n):∃ b off,a=some ⟨b,off,none⟩/\∀ i,i < n->w.cell? ⟨b,off+i * 5,none⟩=some (.int .i64 (R i).s)/\w.cell? ⟨b,off+i * 5+1,none⟩=some (.slice (R i).a (R i).n (R i).k)/\w.cell? ⟨b,off+i * 5+2,none⟩=some (.int .i64 (R i).r)/\w.cell? ⟨b,off+i * 5+3,none⟩=some (.int .u64 (R i).root)/\w.cell? ⟨b,off+i * 5+4,none⟩=some (.int .u64 (R i).chain)/\Lst w (R i).a (R i).n (R i).k (D i):=by
 rcases h.2 with h0 | ⟨b,off,e,_,hc⟩
 ·omega
 ·exact ⟨b,off,e,hc⟩
def headL (c:Cfg) (n:Nat) (DI DO:Nat->List Int) (N:Nat):List Int :=
 [c.i,c.h,c.o,c.seed,c.batch,c.steps,c.rate,c.decay,c.how,c.keep,c.clip] ++ (List.range n).map (fun j=>rootP (DI j) (DO j) ((DI j).length+(DO j).length)) ++ [rootP ((List.range N).map (startG c.seed)) ((List.range N).map zeroG) (N+N)]
def headP (c:Cfg) (n:Nat) (DI DO:Nat->List Int) (N:Nat):Int:=ofP 5 (headL c n DI DO N)
def chainL (before step rate root:Int) (bs:List Int):List Int:=[before,step,rate,root,(bs.length:Int)] ++ bs
def chainP (before step rate root:Int) (bs:List Int):Int:=ofP 6 (chainL before step rate root bs)
def jrRoot (c:Cfg) (n:Nat) (DI DO:Nat->List Int) (N k:Nat):Int:=rootP (stateP c n DI DO N (k+1)).1 (stateP c n DI DO N (k+1)).2 (N+N)
def jrBatch (c:Cfg) (n k:Nat):List Int:=batchP c.seed c.batch.toNat n (k * c.batch.toNat)
def jrChain (c:Cfg) (n:Nat) (DI DO:Nat->List Int) (N:Nat):Nat->Int
 | 0=>headP c n DI DO N
 | k+1=>chainP (jrChain c n DI DO N k) (k:Int) (rateV c k) (jrRoot c n DI DO N k) (jrBatch c n k)
theorem okL_app {xs ys:List Int} (hx:okL xs) (hy:okL ys):okL (xs ++ ys):=by
 intro i hi
 rw [List.length_append] at hi
 rcases Nat.lt_or_ge i xs.length with h | h
 ·rw [List.getD_eq_getElem?_getD,List.getElem?_append_left h,← List.getD_eq_getElem?_getD]; exact hx i h
 ·rw [List.getD_eq_getElem?_getD,List.getElem?_append_right h,← List.getD_eq_getElem?_getD]; exact hy _ (by omega)
def rootE (n1 n2:Nat):Int:=if n1+n2=0 then 1 else if 200 < n1+n2 then 2 else 0
def rootV (n1:Nat) (ws:List Int) (n2:Nat) (ms:List Int):Int:=if rootE n1 n2=0 then rootP ws ms (n1+n2) else 0
def mkE (c:Cfg) (n:Nat) (X:Nat->Exm) (DI DO:Nat->List Int) (m:Int):Int:=if courseI c n X DI DO=0 then (if inB m 0 c.steps=true then 0 else 1) else courseI c n X DI DO
def mkN (c:Cfg) (n:Nat) (X:Nat->Exm) (DI DO:Nat->List Int) (m:Int):Nat:=if mkE c n X DI DO m=0 then m.toNat else 0
def mkRV (c:Cfg) (j:Nat):Int:=rateV c j
def mkRO (c:Cfg) (n:Nat) (DI DO:Nat->List Int):Nat->Int:=jrRoot c n DI DO (sizeN c).toNat
def mkCH (c:Cfg) (n:Nat) (DI DO:Nat->List Int):Nat->Int:=jrChain c n DI DO (sizeN c).toNat
theorem Zbr {c:Cfg} {n:Nat} {X:Nat->Exm} {DI DO:Nat->List Int} (h:courseI c n X DI DO=0):cfgB c=true/\1<=n/\n<=16/\allEx c n X DI DO=true:=by
 unfold courseI at h
 by_cases h1:cfgB c=true
 ·rw [if_pos h1] at h
  by_cases h2:n=0
  ·rw [if_pos h2] at h; cases h
  ·rw [if_neg h2] at h
   by_cases h3:16 < n
   ·rw [if_pos h3] at h; cases h
   ·rw [if_neg h3] at h
    by_cases h4:allEx c n X DI DO=true
    ·exact ⟨h1,by omega,by omega,h4⟩
    ·rw [if_neg h4] at h; cases h
 ·rw [if_neg h1] at h; cases h
def jrG (c:Cfg) (n k:Nat):Nat->Int:=batchG c.seed n (k * c.batch.toNat)
theorem jrBatch_is (c:Cfg) (n:Nat):jrBatch c n=fun k=>(List.range c.batch.toNat).map (jrG c n k):=rfl
def noRec:Nat->Rcm:=fun _=>⟨0,none,0,0,0,0,0⟩
def JrN (k:Nat) (R:Nat->Rcm) (RV RO CH:Nat->Int):Prop:=∀ j,j < k->(R j).s=(j:Int)/\(R j).r=RV j/\(R j).root=RO j/\(R j).chain=CH (j+1)
theorem JrN.push {k:Nat} {R R2:Nat->Rcm} {RV RO CH:Nat->Int} (h:JrN k R RV RO CH) (hR:∀ j,j < k->R2 j=R j) (h1:(R2 k).s=(k:Int)) (h2:(R2 k).r=RV k) (h3:(R2 k).root=RO k) (h4:(R2 k).chain=CH (k+1)):JrN (k+1) R2 RV RO CH:=fun j hj=>by
 by_cases e:j=k
 ·subst e; exact ⟨h1,h2,h3,h4⟩
 ·rw [hR j (by omega)]; exact h j (by omega)
section
def OwnW (base:Nat) (w:World) (v:Value) (xs:List Int):Prop:=w.ownsRow base 48 1 v xs.length (xs.map (Value.int .u64))
theorem OwnW.nil (base:Nat) (w:World):OwnW base w (.slice none 0 0) []:=World.ownsRow_nil _ _ _ _
theorem OwnW.alloc {base:Nat} {w:World} {v:Value} {xs:List Int} (h:OwnW base w v xs) (o:Obj):OwnW base (w.alloc o) v xs:=World.ownsRow.alloc h o
theorem OwnW.below {base:Nat} {w w':World} {v:Value} {xs:List Int} (h:OwnW base w v xs) (hb:Below w.heap.size w w'):OwnW base w' v xs:=by
 refine ⟨h.1,?_⟩
 rcases h.2 with h0 | ⟨g,cap,cur,hv,hg,hh,r⟩
 ·exact .inl h0
 ·exact .inr ⟨g,cap,cur,hv,hg,by rw [hb.block g (Array.getElem?_eq_some_iff.1 hh).1]; exact hh,r⟩
theorem OwnW.lst' {base:Nat} {w:World} {v:Value} {xs:List Int} {n:Nat} (h:OwnW base w v xs) (hn:xs.length=n):∃ a c,v=.slice a n c/\LstW w a n c xs:=by
 subst hn; exact LstW.owned h
theorem OwnW.congr {base:Nat} {w:World} {v:Value} {xs ys:List Int} (h:OwnW base w v xs) (e:xs=ys):OwnW base w v ys:=e ▸ h
theorem Zbh (g:Nat->Int) (k:Nat) (x:Int) (h:g k=x):(List.range k).map g ++ [x]=(List.range (k+1)).map g:=by
 rw [List.range_succ,List.map_append,List.map_singleton,h]
section
variable {w' W0:World} {ops:Array Oper} {o:Oper} {a:Act} {Q:Exit->Act->World->Prop}
theorem Zcp (ty:TypeId) (base:Nat) (v:Value) (xs:List Int) (z:Int) (g:Nat) (hown:OwnW base w' v xs) (hc:w'.cell? ⟨g,0,none⟩=some (.int .u64 z))
  (hn:(xs.length+1) * 8<=140737488355328) (hbase:base<=w'.heap.size) (hB:Below base W0 w') :
  ∃ v' w1,(Builtin.append_ #[144,144] ty #[v,.slice (some ⟨g,0,none⟩) 1 1]).run Tryz.prog w'=.ok v' w1/\OwnW base w1 v' (xs ++ [z])/\Below base W0 w1:=by
 obtain ⟨i0,hi,hz0,hz1,hz2⟩:=info_parts infoW
 obtain ⟨v',w1,hrun,h1,h2,_⟩:=run_append_own (P:=Tryz.prog) w' base 144 ty 48 i0 (.int .u64 0) 1 8 Tryz.underlying144 hi hz0 hz1 hz2 rfl (by decide) v xs.length _ hown ⟨g,0,none⟩ 1 1 [.int .u64 z] rfl
  (by intro j u hj
      match j,hj with
      | 0,hj=>simp at hj; subst hj; simpa [Addr.add] using hc)
  (by intro u hu; simp at hu; subst hu; rfl) (by unfold maxLen; omega) hn hbase
 refine ⟨v',w1,hrun,by unfold OwnW; rw [List.length_append,List.map_append]; exact h1,hB.grown h2 hbase ?_⟩
 intro k hk
 rcases hown.2 with ⟨rfl,_⟩ | ⟨g',cap,cur,rfl,hg,_⟩
 ·simp [Value.ownBlock] at hk
 ·simp [Value.ownBlock] at hk; omega
theorem Zak {rest:List Oper} (hgd:o.guard=none) (s x:Operand) (ho:o.op=.call { callee:=.builtin .append,args:=#[s,x],argTypes:=#[144,144] })
  (base:Nat) (v:Value) (xs:List Int) (z:Int) (g:Nat) (W0:World) (hs:a.eval s=v) (hx:a.eval x=.slice (some ⟨g,0,none⟩) 1 1) (hown:OwnW base w' v xs) (hc:w'.cell? ⟨g,0,none⟩=some (.int .u64 z))
  (hn:(xs.length+1) * 8<=140737488355328) (hbase:base<=w'.heap.size) (hB:Below base W0 w')
  (h:∀ v' w1,OwnW base w1 v' (xs ++ [z])->Below base W0 w1->wpList Tryz.prog ops Q rest (a.put o.dst v') w1):wpList Tryz.prog ops Q (o :: rest) a w':=by
 obtain ⟨v',w1,hrun,h1,h2⟩:=Zcp o.type base v xs z g hown hc hn hbase hB
 refine wpList_plain hgd fun K hK=>?_
 unfold Oper.wp
 simp [execOp,ho,resolve,invoke,builtin,hs,hx,hrun,Result.andThen]
 exact hK _ _ (h v' w1 h1 h2)
theorem step_append_word {K:Act->World->Prop} {E:Prop} (hgd:o.guard=none) (s x:Operand) (ho:o.op=.call { callee:=.builtin .append,args:=#[s,x],argTypes:=#[144,144] })
  (base:Nat) (v:Value) (xs:List Int) (z:Int) (g:Nat) (W0:World) (hs:a.eval s=v) (hx:a.eval x=.slice (some ⟨g,0,none⟩) 1 1) (hown:OwnW base w' v xs) (hc:w'.cell? ⟨g,0,none⟩=some (.int .u64 z))
  (hn:(xs.length+1) * 8<=140737488355328) (hbase:base<=w'.heap.size) (hB:Below base W0 w')
  (h:∀ v' w1,OwnW base w1 v' (xs ++ [z])->Below base W0 w1->K (a.put o.dst v') w1) :
  if Region.wanted o (yielded ops a.tmps)=true then Oper.wp Tryz.prog o a w' K Q else E:=by
 obtain ⟨v',w1,hrun,h1,h2⟩:=Zcp o.type base v xs z g hown hc hn hbase hB
 have hw:Region.wanted o (yielded ops a.tmps)=true:=by simp [Region.wanted,hgd]
 rw [if_pos hw]
 unfold Oper.wp
 simp [execOp,ho,resolve,invoke,builtin,hs,hx,hrun,Result.andThen]
 exact h v' w1 h1 h2
end
end
theorem OwnW.lit (w:World) (xs:List Int) (hm:xs.length<=1000):OwnW w.heap.size (w.alloc (.cells (xs.map (Value.int .u64)).toArray 48)) (.slice (some ⟨w.heap.size,0,none⟩) xs.length xs.length) xs :=
 ⟨by simp,.inr ⟨w.heap.size,xs.length,_,rfl,nr,Go.Deep.blk_alloc_new _ _,nr,by unfold maxLen; omega,by simp,by simp; exact List.take_of_length_le (by simp)⟩⟩
theorem take_snocI {xs:List Int} {t:Nat} {x:Int} (h:t < xs.length) (hx:xs.getD t 0=x):xs.take t ++ [x]=xs.take (t+1):=by
 rw [List.take_succ_eq_append_getElem h]
 rw [List.getD_eq_getElem?_getD,List.getElem?_eq_getElem h,Option.getD_some] at hx
 rw [hx]
theorem rootP_W (ws ms:List Int) (n:Nat):okW (rootP ws ms n):=okP_W (ZbO _ _)
def exRoot (DI DO:Nat->List Int) (j:Nat):Int:=rootP (DI j) (DO j) ((DI j).length+(DO j).length)
theorem headL_ok {c:Cfg} (hc:cfgB c=true) (hs:okW c.seed) (n:Nat) (DI DO:Nat->List Int) (N:Nat):okL (headL c n DI DO N):=by
 obtain ⟨⟨i1,i2⟩,⟨h1,h2⟩,⟨o1,o2⟩,⟨b1,b2⟩,⟨s1,s2⟩,⟨r1,r2⟩,⟨d1,d2⟩,⟨w1,w2⟩,⟨k1,k2⟩,⟨q1,q2⟩⟩:=Zal hc
 unfold headL
 refine okL_app (okL_app ?_ ?_) ?_
 ·intro i hi
  have h11:i < 11:=by simpa using hi
  rcases (show i=0\/i=1\/i=2\/i=3\/i=4\/i=5\/i=6\/i=7\/i=8\/i=9\/i=10 by omega) with rfl | rfl | rfl | rfl | rfl | rfl | rfl | rfl | rfl | rfl | rfl
  ·exact ⟨by simp; omega,by simp; omega⟩
  ·exact ⟨by simp; omega,by simp; omega⟩
  ·exact ⟨by simp; omega,by simp; omega⟩
  ·exact hs
  ·exact ⟨by simp; omega,by simp; omega⟩
  ·exact ⟨by simp; omega,by simp; omega⟩
  ·exact ⟨by simp; omega,by simp; omega⟩
  ·exact ⟨by simp; omega,by simp; omega⟩
  ·exact ⟨by simp; omega,by simp; omega⟩
  ·exact ⟨by simp; omega,by simp; omega⟩
  ·exact ⟨by simp; omega,by simp; omega⟩
 ·intro i hi
  have hi':i < n:=by simpa using hi
  rw [ZaS _ hi']
  exact rootP_W _ _ _
 ·intro i hi
  obtain rfl:i=0:=by simpa using hi
  exact rootP_W _ _ _
theorem jchain_calls (before:Int) (hbf:okW before) (x:Rcm) (bs:List Int) (w:World) (l:Lst w x.a x.n x.k bs) (hs:0<=x.s/\x.s<=9223372036854775807) (hr:0<=x.r/\x.r<=9223372036854775807) (hroot:okW x.root) (h8:x.n<=8) (hbs:∀ j,j < x.n->0<=bs.getD j 0/\bs.getD j 0<=9223372036854775807) :
  Calls Tryz.prog 169 #[.int .u64 before,x.val] w fun e w'=>e=.returned (.int .u64 (chainP before x.s x.r x.root bs))/\Below w.heap.size w w':=by
 have hal:=Zac w (.cells x.cells 111)
 have l':=l.below hal nr
 have hlen:=l.len
 have row:=Zao w (.int .i64 x.s) (.slice x.a x.n x.k) (.int .i64 x.r) (.int .u64 x.root) (.int .u64 x.chain) 111
 obtain ⟨s,a,n,k,r,root,chain⟩:=x
 simp only [Rcm.val,Rcm.cells] at *
 obtain ⟨s0,s1⟩:=hs
 obtain ⟨r0,r1⟩:=hr
 have HBS:Hid (∀ j,j < n->0<=bs.getD j 0/\bs.getD j 0<=9223372036854775807):=hbs
 have HOK:Hid (okL (chainL before s r root bs)):=by
  show okL _
  unfold chainL
  refine okL_app ?_ (fun i hi=>⟨(hbs i (by omega)).1,by have:=(hbs i (by omega)).2; omega⟩)
  intro i hi
  have h5:i < 5:=by simpa using hi
  rcases lt5 h5 with rfl | rfl | rfl | rfl | rfl
  ·exact hbf
  ·exact ⟨s0,by simp; omega⟩
  ·exact ⟨r0,by simp; omega⟩
  ·exact hroot
  ·exact ⟨by simp,by simp; omega⟩
 obtain ⟨W,HW⟩:∃ q,Hid (q=w.alloc (.cells #[.int .i64 s,.slice a n k,.int .i64 r,.int .u64 root,.int .u64 chain] 111)):=⟨_,rfl⟩
 have HWS:Hid (w.heap.size+1=W.heap.size):=by show _=_; rw [HW.out]; simp
 rw [← HW.out] at hal l' row
 obtain ⟨c0,c1,c2,c3,c4⟩:=Zam row
 have own0:=OwnW.lit W [before,s,r,root,(n:Int)] (by simp)
 have hl0:=Zac W (.cells #[.int .u64 before,.int .u64 s,.int .u64 r,.int .u64 root,.int .u64 (n:Int)] 48)
 have KC:Hid (∀ q,Below W.heap.size W q->q.cell? ⟨w.heap.size,1,none⟩=some (.slice a n k)):=fun q hq=>(Zam (row.of_block (hq.block _ row.lt))).c1
 have hlt0:=row.lt
 have d1:=KC.out _ hl0
 clear hbs l hbf hroot
 go_enter Tryz.func169,Tryz.ntmps169
 go_wp2_with fail
 rw [← HW.out]
 clear HW
 go_loopw [5,27] (fun v i wr=>∃ j:Nat,j<=n/\i=.int .i64 j/\OwnW W.heap.size wr v ([before,s,r,root,(n:Int)] ++ bs.take j)/\Below W.heap.size W wr) (fun _ i _=>n - (intOf i).toNat)
 case atStart=>exact ⟨0,Nat.zero_le _,rfl,by rw [HWS.out]; simpa using own0,hl0⟩
 case round =>
  clear own0 hl0 c0 c1 c2 c3 c4 d1
  obtain ⟨j,hj,rfl,hown,hbel⟩:=hrel
  have hsz:=hbel.size
  by_cases hlt:j < n
  ·obtain ⟨b1,o1,y,rfl,_,c5,HX⟩:=l'.at1b hbel nr hlt
   have hy:=HBS.out j hlt
   rw [HX.out] at hy
   obtain ⟨y0,y1⟩:=hy
   have hl2:([before,s,r,root,(n:Int)] ++ bs.take j).length=5+j:=by simp; omega
   have al1:=hown.below (Zac wr (.cells #[.int .u64 y] 48))
   have bl1:=hbel.alloc hbel.size (.cells #[.int .u64 y] 48)
   have cn:=Zaf wr (.int .u64 y) 48
   have HH:Hid (wr.heap.size+1=(wr.alloc (.cells #[.int .u64 y] 48)).heap.size):=by show _=_; simp
   go_wp2_with (at_builtin; refine Zak (by rfl) _ _ (by rfl) W.heap.size _ ([before,s,r,root,(n:Int)] ++ bs.take j) y wr.heap.size W (by rfl) (by rfl) (by exact al1) (by exact cn) (by rw [hl2]; omega) (by exact bl1.size) (by exact bl1) ?_; intro v1 w2 hown1 hbel1)
   go_roundw
   case rel=>exact ⟨j+1,by omega,by go_num,hown1.congr (by rw [List.append_assoc,take_snocI (by omega) HX.out]),hbel1⟩
   case measure=>simp [intOf]; omega
  ·obtain rfl:j=n:=by omega
   obtain ⟨av,cv,rfl,lw⟩:=hown.lst' (n:=5+j) (by simp; omega)
   have hl3:[before,s,r,root,(j:Int)] ++ bs.take j=chainL before s r root bs:=by unfold chainL; rw [List.take_of_length_le (by omega),hlen]
   rw [hl3] at lw
   have HO:=dOf_calls 6 ⟨by omega,by omega⟩ _ _ _ _ _ lw HOK.out
   rw [show ofA 6 (chainL before s r root bs) (5+j)=chainP before s r root bs from if_neg (by omega),show bigI (5+j)=0 from if_neg (by omega)] at HO
   go_wp2_with fail
   refine HO.mono ?_
   rintro e w3 ⟨rfl,hw3⟩
   go_wp2_with fail
   go_ret
   exact ⟨rfl,hal.trans ((hbel.trans (hw3.mono hbel.size)).mono hal.size)⟩
section
theorem grow_calls (n:Nat) (w:World) (h0:0 < n) (h1:n<=1000) :
  Calls Tryz.prog 235 #[.slice none 0 0,.int .i64 n] w fun e w'=>∃ v,e=.returned v/\OwnI w.heap.size w' v []/\Below w.heap.size w w':=by
 obtain ⟨i0,hi,hz0,hz1,hz2⟩:=info_parts info3
 have happ:=fun ty=>Lib.run_append_nil_zeros (P:=Tryz.prog) w 66 3 ty 3 i0 (.int .i64 0) .i64 .i64 Tryz.underlying66 Tryz.underlying3 hi hz0 n h0 (by omega) (by omega) (by rw [hz2]; omega)
 have hge:=grownCap_ge w n 0 3
 have hle:=grownCap_le_maxLen w n 0 3 (by unfold maxLen; omega)
 generalize grownCap w n 0 3=G at happ hge hle
 have hG63:G<=9223372036854775807:=by unfold maxLen at hle; omega
 have hsz:(Builtin.zeroCells (Value.int .i64 0).cells n ++ Builtin.zeroCells (Value.int .i64 0).cells (G - n)).size=G * 1:=by
  simp [size_zeroCells,Value.cells]; omega
 generalize Builtin.zeroCells (Value.int .i64 0).cells n ++ Builtin.zeroCells (Value.int .i64 0).cells (G - n)=cs at happ hsz
 have hpos:(n:Int) > 0:=by omega
 go_enter Tryz.func235,Tryz.ntmps235
 go_wp2_with (at_builtin; refine Lib.wpList_append_run _ rfl _ _ _ _ rfl _ _ rfl rfl _ _ (happ _) ?_)
 go_ret
 refine ⟨_,rfl,⟨rfl,.inr ⟨w.heap.size,G,cs,rfl,nr,?_,Nat.zero_le _,hle,hsz,rfl⟩⟩,?_⟩
 ·exact heap_alloc_new w.drew _
 ·exact (br.drew).alloc nr _
section
variable {w' W0:World} {ops:Array Oper} {o:Oper} {a:Act} {Q:Exit->Act->World->Prop}
theorem run_append_ints (ty:TypeId) (base:Nat) (v:Value) (xs ys:List Int) (src:Option Addr) (m c:Nat) (hm:0 < m) (hown:OwnI base w' v xs) (hsrc:Lst w' src m c ys)
  (hn:(xs.length+m) * 8<=140737488355328) (hbase:base<=w'.heap.size) (hB:Below base W0 w') :
  ∃ v' w1,(Builtin.append_ #[66,66] ty #[v,.slice src m c]).run Tryz.prog w'=.ok v' w1/\OwnI base w1 v' (xs ++ ys)/\Below base W0 w1:=by
 obtain ⟨i0,hi,hz0,hz1,hz2⟩:=info_parts info3
 have hl:=hsrc.len
 obtain ⟨b,off,rfl,_,hc⟩:=hsrc.at hm
 obtain ⟨v',w1,hrun,h1,h2,_⟩:=run_append_own (P:=Tryz.prog) w' base 66 ty 3 i0 (.int .i64 0) 1 8 Tryz.underlying66 hi hz0 hz1 hz2 rfl (by decide) v xs.length _ hown ⟨b,off,none⟩ m c (ys.map (Value.int .i64)) (by simp [hl])
  (by intro j u hj
      have hj':j < ys.length:=by
       have:=(List.getElem?_eq_some_iff.1 hj).1
       simpa using this
      rw [ZbG ys j hj'] at hj
      rw [Go.WideShapes.add_plain,hc j (by omega)]
      exact hj)
  (by intro u hu
      obtain ⟨z,_,rfl⟩:=List.mem_map.1 hu
      rfl) (by unfold maxLen; omega) hn hbase
 refine ⟨v',w1,hrun,by unfold OwnI; rw [List.length_append,List.map_append,hl]; exact h1,hB.grown h2 hbase ?_⟩
 intro k hk
 rcases hown.2 with ⟨rfl,_⟩ | ⟨g',cap,cur,rfl,hg,_⟩
 ·simp [Value.ownBlock] at hk
 ·simp [Value.ownBlock] at hk; omega
theorem wpList_append_ints {rest:List Oper} (hgd:o.guard=none) (s x:Operand) (ho:o.op=.call { callee:=.builtin .append,args:=#[s,x],argTypes:=#[66,66] })
  (base:Nat) (v:Value) (xs ys:List Int) (src:Option Addr) (m c:Nat) (W0:World) (hm:0 < m) (hs:a.eval s=v) (hx:a.eval x=.slice src m c) (hown:OwnI base w' v xs) (hsrc:Lst w' src m c ys)
  (hn:(xs.length+m) * 8<=140737488355328) (hbase:base<=w'.heap.size) (hB:Below base W0 w')
  (h:∀ v' w1,OwnI base w1 v' (xs ++ ys)->Below base W0 w1->wpList Tryz.prog ops Q rest (a.put o.dst v') w1):wpList Tryz.prog ops Q (o :: rest) a w':=by
 obtain ⟨v',w1,hrun,h1,h2⟩:=run_append_ints o.type base v xs ys src m c hm hown hsrc hn hbase hB
 refine wpList_plain hgd fun K hK=>?_
 unfold Oper.wp
 simp [execOp,ho,resolve,invoke,builtin,hs,hx,hrun,Result.andThen]
 exact hK _ _ (h v' w1 h1 h2)
end
def lenTo (L:Nat->Nat):Nat->Nat
 | 0=>0
 | k+1=>lenTo L k+L k
def catTo (X:Nat->List Int):Nat->List Int
 | 0=>[]
 | k+1=>catTo X k ++ X k
theorem ZcK (L:Nat->Nat) {k n:Nat} (h:k<=n):lenTo L k<=lenTo L n:=by
 induction n with
 | zero => obtain rfl : k = 0 := by omega
           exact nr
 | succ n ih =>
   by_cases e:k=n+1
   ·subst e; exact nr
   ·have:=ih (by omega)
    rw [lenTo]; omega
theorem catTo_len (X:Nat->List Int) (L:Nat->Nat) (n:Nat) (h:∀ i,i < n->(X i).length=L i):(catTo X n).length=lenTo L n:=by
 induction n with
 | zero=>rfl
 | succ n ih=>rw [catTo,lenTo,List.length_append,ih (fun i hi=>h i (by omega)),h n (by omega)]
theorem concat_calls (n:Nat) (A:Nat->Option Addr) (L C:Nat->Nat) (X:Nat->List Int) (b:Nat) (w:World) (hb:b < w.heap.size) (hn0:0 < n) (hn:n<=1000) (hc:∀ i,i < n->w.cell? ⟨b,i,none⟩=some (.slice (A i) (L i) (C i)))
  (hl:∀ i,i < n->Lst w (A i) (L i) (C i) (X i)) (hp:∀ i,i < n->0 < L i) (hs:lenTo L n<=1000) :
  Calls Tryz.prog 221 #[.slice (some ⟨b,0,none⟩) n n] w fun e w'=>∃ v,e=.returned v/\OwnI w.heap.size w' v (catTo X n)/\Below w.heap.size w w':=by
 have HC:Hid (∀ i,i < n->w.cell? ⟨b,i,none⟩=some (.slice (A i) (L i) (C i))):=hc
 have HL:Hid (∀ i,i < n->Lst w (A i) (L i) (C i) (X i)):=hl
 have HP:Hid (∀ i,i < n->0 < L i):=hp
 clear hc hl hp
 go_enter Tryz.func221,Tryz.ntmps221
 go_wp2
 go_loopw [3,11] (fun s i wr=>∃ k:Nat,k<=n/\i=.int .i64 k/\s=.int .i64 (lenTo L k)/\wr=w) (fun _ i _=>n - (intOf i).toNat)
 case atStart=>exact ⟨0,Nat.zero_le _,rfl,rfl,rfl⟩
 case round =>
  obtain ⟨k,hk,rfl,rfl,hw⟩:=hrel
  replace hw:=hw.symm
  subst hw
  by_cases hlt:k < n
  ·have c:=HC.out k hlt
   have b1:=ZcK L (k:=k+1) (n:=n) (by omega)
   have b2:lenTo L (k+1)=lenTo L k+L k:=rfl
   obtain ⟨l,hl⟩:=nm (L k)
   obtain ⟨T,hT⟩:=nm (lenTo L k)
   rw [hl.out] at c b2
   rw [hT.out] at b2
   have b3:T+l<=1000:=by omega
   rw [hT.out]
   clear b1 b2
   go_wp2
   go_roundw
   case rel=>exact ⟨k+1,by omega,by go_num,by rw [lenTo,hT.out,hl.out]; go_num,by trivial⟩
   case measure=>simp [intOf]; omega
  ·obtain rfl:k=n:=by omega
   have hpos:0 < lenTo L k:=by
    have b1:=ZcK L (k:=1) (n:=k) (by omega)
    have b2:lenTo L 1=0+L 0:=rfl
    have:=HP.out 0 hn0
    omega
   obtain ⟨T,hT⟩:=nm (lenTo L k)
   have HS:Hid (lenTo L k<=1000):=hs
   rw [hT.out] at hs hpos ⊢
   go_wp2_with fail
   refine (grow_calls T _ hpos hs).mono ?_
   rintro e w1 ⟨v0,rfl,hown,hw1⟩
   go_wp2
   go_loopw [6,27] (fun v i wr=>∃ j:Nat,j<=k/\i=.int .i64 j/\OwnI w.heap.size wr v (catTo X j)/\Below w.heap.size w wr) (fun _ i _=>k - (intOf i).toNat)
   case atStart=>exact ⟨0,Nat.zero_le _,rfl,hown,hw1⟩
   case round =>
    obtain ⟨j,hj,rfl,hown,hbel⟩:=hrel
    have hsz:=hbel.size
    by_cases hlt2:j < k
    ·have c:=(hbel.cell (p:=⟨b,j,none⟩) (by exact hb)).trans (HC.out j hlt2)
     have hx:=(HL.out j hlt2).below hbel nr
     have hp:=HP.out j hlt2
     have hlen:(catTo X j).length+L j<=1000:=by
      rw [catTo_len X L j (fun i hi=>(HL.out i (by omega)).len)]
      have b1:=ZcK L (k:=j+1) (n:=k) (by omega)
      have b2:lenTo L (j+1)=lenTo L j+L j:=rfl
      have:=HS.out
      omega
     obtain ⟨l,hl⟩:=nm (L j)
     rw [hl.out] at c hx hp hlen
     go_wp2_with (at_builtin; refine wpList_append_ints (by rfl) _ _ (by rfl) w.heap.size _ (catTo X j) (X j) (A j) l (C j) w hp (by rfl) (by rfl) (by exact hown) (by exact hx) (by omega) (by exact hsz) (by exact hbel) ?_; intro v1 w3 hown1 hbel1)
     go_roundw
     case rel=>exact ⟨j+1,by omega,by go_num,hown1,hbel1⟩
     case measure=>simp [intOf]; omega
    ·obtain rfl:j=k:=by omega
     go_wp2
     go_ret
     exact ⟨_,rfl,hown,hbel⟩
def four {α:Type} (x0 x1 x2 x3:α) (i:Nat):α:=if i=0 then x0 else if i=1 then x1 else if i=2 then x2 else x3
theorem lt_four {i:Nat} (h:i < 4):i=0\/i=1\/i=2\/i=3:=by omega
theorem concat4 (a0 a1 a2 a3:Option Addr) (l0 l1 l2 l3 c0 c1 c2 c3:Nat) (x0 x1 x2 x3:List Int) (g:Nat) (w:World) (hg:g=w.heap.size) (h0:Lst w a0 l0 c0 x0) (h1:Lst w a1 l1 c1 x1) (h2:Lst w a2 l2 c2 x2) (h3:Lst w a3 l3 c3 x3)
  (p0:0 < l0) (p1:0 < l1) (p2:0 < l2) (p3:0 < l3) (hs:l0+l1+l2+l3<=1000) :
  Calls Tryz.prog 221 #[.slice (some ⟨g,0,none⟩) 4 4] (w.alloc (.cells #[.slice a0 l0 c0,.slice a1 l1 c1,.slice a2 l2 c2,.slice a3 l3 c3] 66)) fun e w'=>∃ a n c,e=.returned (.slice a n c)/\n=l0+l1+l2+l3/\Lst w' a n c (x0 ++ (x1 ++ (x2 ++ x3)))/\Below w.heap.size w w':=by
 subst hg
 have hal:=(Below.refl w.heap.size w).alloc nr (.cells #[.slice a0 l0 c0,.slice a1 l1 c1,.slice a2 l2 c2,.slice a3 l3 c3] 66)
 have hr:=World.rowIs_alloc w #[.slice a0 l0 c0,.slice a1 l1 c1,.slice a2 l2 c2,.slice a3 l3 c3] 66 (fun i=>.slice (four a0 a1 a2 a3 i) (four l0 l1 l2 l3 i) (four c0 c1 c2 c3 i)) (by
  intro i hi
  rcases lt_four hi with rfl | rfl | rfl | rfl <;> rfl)
 refine (concat_calls 4 (four a0 a1 a2 a3) (four l0 l1 l2 l3) (four c0 c1 c2 c3) (four x0 x1 x2 x3) w.heap.size _ (by simp) (by omega) (by omega) (fun i hi=>hr.cell hi) ?_ ?_ ?_).mono ?_
 ·intro i hi
  rcases lt_four hi with rfl | rfl | rfl | rfl
  ·exact h0.below hal nr
  ·exact h1.below hal nr
  ·exact h2.below hal nr
  ·exact h3.below hal nr
 ·intro i hi
  rcases lt_four hi with rfl | rfl | rfl | rfl
  ·exact p0
  ·exact p1
  ·exact p2
  ·exact p3
 ·show 0+l0+l1+l2+l3<=1000
  omega
 ·rintro e w' ⟨v,rfl,hown,hb⟩
  obtain ⟨a,c,rfl,hl⟩:=hown.lst
  have e1:catTo (four x0 x1 x2 x3) 4=x0 ++ (x1 ++ (x2 ++ x3)):=by
   show (([] ++ x0) ++ x1 ++ x2) ++ x3=_
   simp [List.append_assoc]
  rw [e1] at hl ⊢
  exact ⟨a,_,c,rfl,by simp [h0.len,h1.len,h2.len,h3.len]; omega,hl,hal.trans (hb.mono hal.size)⟩
theorem pflat_calls (p:Pup) (d:PD) (w:World) (h:InPup w p d) :
  Calls Tryz.prog 188 #[p.val] w fun e w'=>∃ a n c,e=.returned (.tuple #[.slice a n c,.int .i64 (pchk p d)])/\n<=40/\Lst w' a n c (flatL p d)/\Below w.heap.size w w':=by
 have hal:=(Below.refl w.heap.size w).alloc nr (.cells p.cells 102)
 have h1:=h.below hal nr
 have hck:=pcheck_calls p d _ h1
 unfold flatL
 rcases pchk_cases p d with h0 | ⟨h0,t0,_⟩
 ·rw [if_pos h0]
  have G:Hid (pchk p d=0):=h0
  obtain ⟨I,H,O,a1,k1,a2,k2,d1,e1,d2,e2,rfl,i1,i2,j1,j2,o1,o2,hr⟩:=pchk_zero h0
  clear h0 hr h
  obtain ⟨X1,X2,B1,B2⟩:=d
  obtain ⟨hx1,hx2,hb1,hb2⟩:=h1
  simp only [Pup.val,Pup.cells,rpup] at *
  have s1:=Zae j2 i2
  have s2:=Zae o2 j2
  have s3:0 < H * I:=Nat.mul_pos (by omega) (by omega)
  have s4:0 < O * H:=Nat.mul_pos (by omega) (by omega)
  go_enter Tryz.func188,Tryz.ntmps188
  go_wp2_with fail
  refine hck.mono ?_
  rintro e w1 ⟨rfl,hw1⟩
  rw [G.out]
  obtain ⟨f0,f1,f2,f3,f4,f5,f6,f7⟩:=box8 hw1 (by simp)
  have hbw:=hal.trans (hw1.mono hal.size)
  have hx1:=hx1.below hw1 nr
  have hx2:=hx2.below hw1 nr
  have hb1:=hb1.below hw1 nr
  have hb2:=hb2.below hw1 nr
  clear hal hck hw1
  go_wp2_with fail
  refine (concat4 a1 d1 a2 d2 _ _ _ _ _ _ _ _ X1 B1 X2 B2 _ _ rfl hx1 hb1 hx2 hb2 s3 (by omega) s4 (by omega) (by omega)).mono ?_
  rintro e w2 ⟨a,n,c,rfl,hn,hl,hw2⟩
  have hn40:n<=40:=by omega
  clear hn
  go_wp2
  go_ret2
  exact ⟨a,n,c,by rw [G.out]; rfl,hn40,hl,hbw.trans (hw2.mono hbw.size)⟩
 ·rw [if_neg h0]
  obtain ⟨r1,c1,a1,n1,k1,r2,c2,a2,n2,k2,d1,m1,e1,d2,m2,e2⟩:=p
  simp only [Pup.val,Pup.cells] at *
  clear h h1
  go_enter Tryz.func188,Tryz.ntmps188
  go_wp2_with fail
  refine hck.mono ?_
  rintro e w1 ⟨rfl,hw1⟩
  go_wp2
  go_ret2
  exact ⟨_,_,_,rfl,Nat.zero_le _,Lst.nil _ _ _,hal.trans (hw1.mono hal.size)⟩
end
section
section
variable {w' W0:World} {ops:Array Oper} {o:Oper} {a:Act} {Q:Exit->Act->World->Prop}
theorem run_append_far (ty:TypeId) (base:Nat) (v:Value) (xs:List Int) (z:Int) (g:Nat) (hown:OwnI base w' v xs) (hc:w'.cell? ⟨g,0,none⟩=some (.int .i64 z)) (hn:(xs.length+1) * 8<=140737488355328) (hbase:base<=w'.heap.size) (hB:Below base W0 w') :
  ∃ v' w1,(Builtin.append_ #[66,66] ty #[v,.slice (some ⟨g,0,none⟩) 1 1]).run Tryz.prog w'=.ok v' w1/\OwnI base w1 v' (xs ++ [z])/\Below base W0 w1/\w'.grownBy w1 v.ownBlock/\(v'.ownBlock=v.ownBlock\/v'.ownBlock=some w'.heap.size):=by
 obtain ⟨i0,hi,hz0,hz1,hz2⟩:=info_parts info3
 obtain ⟨v',w1,hrun,h1,h2,_,h3⟩:=run_append_own_at (P:=Tryz.prog) w' base 66 ty 3 i0 (.int .i64 0) 1 8 Tryz.underlying66 hi hz0 hz1 hz2 rfl (by decide) v xs.length _ hown ⟨g,0,none⟩ 1 1 [.int .i64 z] rfl
  (by intro j u hj
      match j,hj with
      | 0,hj=>simp at hj; subst hj; simpa [Addr.add] using hc)
  (by intro u hu; simp at hu; subst hu; rfl) (by unfold maxLen; omega) hn hbase
 refine ⟨v',w1,hrun,by unfold OwnI; rw [List.length_append,List.map_append]; exact h1,hB.grown h2 hbase ?_,h2,h3⟩
 intro k hk
 rcases hown.2 with ⟨rfl,_⟩ | ⟨g',cap,cur,rfl,hg,_⟩
 ·simp [Value.ownBlock] at hk
 ·simp [Value.ownBlock] at hk; omega
theorem ZbR {rest:List Oper} (hgd:o.guard=none) (s x:Operand) (ho:o.op=.call { callee:=.builtin .append,args:=#[s,x],argTypes:=#[66,66] })
  (base:Nat) (v:Value) (xs:List Int) (z:Int) (g:Nat) (W0:World) (hs:a.eval s=v) (hx:a.eval x=.slice (some ⟨g,0,none⟩) 1 1) (hown:OwnI base w' v xs) (hc:w'.cell? ⟨g,0,none⟩=some (.int .i64 z)) (hn:(xs.length+1) * 8<=140737488355328) (hbase:base<=w'.heap.size) (hB:Below base W0 w')
  (h:∀ v' w1,OwnI base w1 v' (xs ++ [z])->Below base W0 w1->w'.grownBy w1 v.ownBlock->(v'.ownBlock=v.ownBlock\/v'.ownBlock=some w'.heap.size)->wpList Tryz.prog ops Q rest (a.put o.dst v') w1):wpList Tryz.prog ops Q (o :: rest) a w':=by
 obtain ⟨v',w1,hrun,h1,h2,h3,h4⟩:=run_append_far o.type base v xs z g hown hc hn hbase hB
 refine wpList_plain hgd fun K hK=>?_
 unfold Oper.wp
 simp [execOp,ho,resolve,invoke,builtin,hs,hx,hrun,Result.andThen]
 exact hK _ _ (h v' w1 h1 h2 h3 h4)
end
theorem OwnI.new {base:Nat} {w:World} {y:Value} {xs:List Int} (h:OwnI base w y xs) {b:Nat} (hb:w.heap.size<=b):some b ≠ y.ownBlock:=by
 rcases h.blk with e | ⟨g,e,_,hg⟩
 ·rw [e]; simp
 ·rw [e]; simp; omega
theorem Arr.grown {w w1:World} {b c n:Nat} {f:Nat->Int} {row:Option Nat} (h:Arr w b c n f) (hg:w.grownBy w1 row) (hne:some b ≠ row):Arr w1 b c n f:=by
 have hlt:=h.lt
 obtain ⟨hc,F,hr,hf⟩:=h
 exact ⟨hc,F,hr.of_block (hg.block b hlt hne),hf⟩
def LastIs (seed:Int) (n:Nat) (out last v:Value) (w:World):Prop :=
 ∃ L:Int,last=.int .i64 L/\∀ d:Nat,L=(d:Int)->∃ b c,v=.slice (some ⟨b,0,none⟩) n c/\some b ≠ out.ownBlock/\Arr w b c n (shufF seed d n)
theorem LastIs.none (seed:Int) (n:Nat) (out v:Value) (w:World):LastIs seed n out (.int .i64 (-1)) v w:=⟨-1,rfl,fun d h=>by omega⟩
theorem LastIs.one {seed:Int} {n b c d:Nat} {out:Value} {w:World} (hne:some b ≠ out.ownBlock) (h:Arr w b c n (shufF seed d n)):LastIs seed n out (.int .i64 (d:Int)) (.slice (some ⟨b,0,Option.none⟩) n c) w :=
 ⟨d, rfl, fun d' e => by
  obtain rfl:d'=d:=by omega
  exact ⟨b,c,rfl,hne,h⟩⟩
theorem LastIs.push {seed:Int} {n b c d:Nat} {out out1:Value} {w w1:World} (hne:some b ≠ out.ownBlock) (h:Arr w b c n (shufF seed d n)) (hg:w.grownBy w1 out.ownBlock) (h3:out1.ownBlock=out.ownBlock\/out1.ownBlock=some w.heap.size) :
  LastIs seed n out1 (.int .i64 (d:Int)) (.slice (some ⟨b,0,Option.none⟩) n c) w1:=by
 refine LastIs.one ?_ (h.grown hg hne)
 rcases h3 with e | e
 ·rw [e]; exact hne
 ·rw [e]
  have:=h.lt
  simp
  omega
end
section
section
variable {w' W0:World} {ops:Array Oper} {o:Oper} {a:Act} {Q:Exit->Act->World->Prop}
theorem ZbM (ty:TypeId) (base:Nat) (v:Value) (xs zs:List Int) (b off m c:Nat) (hown:OwnI base w' v xs) (hz:Lst w' (some ⟨b,off,none⟩) m c zs) (hn:(xs.length+m) * 8<=140737488355328) (hbase:base<=w'.heap.size) (hB:Below base W0 w') :
  ∃ v' w1,(Builtin.append_ #[66,66] ty #[v,.slice (some ⟨b,off,none⟩) m c]).run Tryz.prog w'=.ok v' w1/\OwnI base w1 v' (xs ++ zs)/\Below base W0 w1:=by
 obtain ⟨i0,hi,hz0,hz1,hz2⟩:=info_parts info3
 have hzl:=hz.len
 obtain ⟨v',w1,hrun,h1,h2,_,_⟩:=run_append_own_at (P:=Tryz.prog) w' base 66 ty 3 i0 (.int .i64 0) 1 8 Tryz.underlying66 hi hz0 hz1 hz2 rfl (by decide) v xs.length _ hown ⟨b,off,none⟩ m c (zs.map (Value.int .i64)) (by simp [hzl])
  (by intro j u hj
      have hjm:j < m:=by
       have:=(List.getElem?_eq_some_iff.1 hj).1
       simpa [hzl] using this
      obtain ⟨b1,o1,e,_,hc⟩:=hz.at (by omega)
      simp only [Option.some.injEq,Addr.mk.injEq,and_true] at e
      obtain ⟨rfl,rfl⟩:=e
      rw [ZbG zs j (by omega)] at hj
      rw [Go.WideShapes.add_plain,hc j hjm]
      exact hj)
  (by intro u hu; obtain ⟨x,_,rfl⟩:=List.mem_map.1 hu; rfl) (by unfold maxLen; omega) hn hbase
 refine ⟨v',w1,hrun,by unfold OwnI; rw [List.length_append,List.map_append,hzl]; exact h1,hB.grown h2 hbase ?_⟩
 intro k hk
 rcases hown.2 with ⟨rfl,_⟩ | ⟨g',cap,cur,rfl,hg,_⟩
 ·simp [Value.ownBlock] at hk
 ·simp [Value.ownBlock] at hk; omega
theorem wpList_append_all {rest:List Oper} (hgd:o.guard=none) (s x:Operand) (ho:o.op=.call { callee:=.builtin .append,args:=#[s,x],argTypes:=#[66,66] })
  (base:Nat) (v:Value) (xs zs:List Int) (b off m c:Nat) (W0:World) (hs:a.eval s=v) (hx:a.eval x=.slice (some ⟨b,off,none⟩) m c) (hown:OwnI base w' v xs) (hz:Lst w' (some ⟨b,off,none⟩) m c zs) (hn:(xs.length+m) * 8<=140737488355328) (hbase:base<=w'.heap.size) (hB:Below base W0 w')
  (h:∀ v' w1,OwnI base w1 v' (xs ++ zs)->Below base W0 w1->wpList Tryz.prog ops Q rest (a.put o.dst v') w1):wpList Tryz.prog ops Q (o :: rest) a w':=by
 obtain ⟨v',w1,hrun,h1,h2⟩:=ZbM o.type base v xs zs b off m c hown hz hn hbase hB
 refine wpList_plain hgd fun K hK=>?_
 unfold Oper.wp
 simp [execOp,ho,resolve,invoke,builtin,hs,hx,hrun,Result.andThen]
 exact hK _ _ (h v' w1 h1 h2)
end
theorem OwnI.empty (w:World):OwnI w.heap.size (w.alloc (.cells #[] 3)) (.slice (some ⟨w.heap.size,0,none⟩) 0 0) [] :=
 ⟨rfl,.inr ⟨w.heap.size,0,#[],rfl,nr,Go.Deep.blk_alloc_new _ _,nr,Nat.zero_le _,rfl,rfl⟩⟩
end
section
section
variable {w' W0:World} {ops:Array Oper} {o:Oper} {a:Act} {Q:Exit->Act->World->Prop}
theorem run_append_zero (w':World) (ty:TypeId) (base src:Option Addr) (l c d:Nat) (hle:l<=c):(Builtin.append_ #[66,66] ty #[.slice base l c,.slice src 0 d]).run Tryz.prog w'=.ok (.slice base l c) w':=by
 obtain ⟨i0,hi,_⟩:=info_parts info3
 cases base <;> cases src <;> simp [Builtin.append_,run_underlying Tryz.underlying66,sizeOf,typeInfo,hi,Builtin.lenOf,Builtin.firstCells,hle,storeCells,loadCells,loadCellsFrom]
theorem ZcQ (ty:TypeId) (base:Nat) (v:Value) (xs zs:List Int) (src:Option Addr) (m c:Nat) (hown:OwnI base w' v xs) (hz:Lst w' src m c zs) (hn:(xs.length+m) * 8<=140737488355328) (hbase:base<=w'.heap.size) (hB:Below base W0 w') :
  ∃ v' w1,(Builtin.append_ #[66,66] ty #[v,.slice src m c]).run Tryz.prog w'=.ok v' w1/\OwnI base w1 v' (xs ++ zs)/\Below base W0 w1:=by
 by_cases h0:m=0
 ·subst h0
  have hz0:zs=[]:=List.length_eq_zero_iff.1 hz.len
  subst hz0
  obtain ⟨av,cv,hv,lv⟩:=hown.lst
  refine ⟨v,w',?_,by rw [List.append_nil]; exact hown,hB⟩
  rw [hv]
  exact run_append_zero w' ty av src xs.length cv c lv.cap
 ·obtain ⟨b,off,rfl,_,_⟩:=hz.at (by omega)
  exact ZbM ty base v xs zs b off m c hown hz hn hbase hB
theorem Zcq {K:Act->World->Prop} {E:Prop} (hgd:o.guard=none) (s x:Operand) (ho:o.op=.call { callee:=.builtin .append,args:=#[s,x],argTypes:=#[66,66] })
  (base:Nat) (v:Value) (xs zs:List Int) (src:Option Addr) (m c:Nat) (W0:World) (hs:a.eval s=v) (hx:a.eval x=.slice src m c) (hown:OwnI base w' v xs) (hz:Lst w' src m c zs) (hn:(xs.length+m) * 8<=140737488355328) (hbase:base<=w'.heap.size) (hB:Below base W0 w')
  (h:∀ v' w1,OwnI base w1 v' (xs ++ zs)->Below base W0 w1->K (a.put o.dst v') w1) :
  if Region.wanted o (yielded ops a.tmps)=true then Oper.wp Tryz.prog o a w' K Q else E:=by
 obtain ⟨v',w1,hrun,h1,h2⟩:=ZcQ o.type base v xs zs src m c hown hz hn hbase hB
 have hw:Region.wanted o (yielded ops a.tmps)=true:=by simp [Region.wanted,hgd]
 rw [if_pos hw]
 unfold Oper.wp
 simp [execOp,ho,resolve,invoke,builtin,hs,hx,hrun,Result.andThen]
 exact h v' w1 h1 h2
theorem wpList_append_any {rest:List Oper} (hgd:o.guard=none) (s x:Operand) (ho:o.op=.call { callee:=.builtin .append,args:=#[s,x],argTypes:=#[66,66] })
  (base:Nat) (v:Value) (xs zs:List Int) (src:Option Addr) (m c:Nat) (W0:World) (hs:a.eval s=v) (hx:a.eval x=.slice src m c) (hown:OwnI base w' v xs) (hz:Lst w' src m c zs) (hn:(xs.length+m) * 8<=140737488355328) (hbase:base<=w'.heap.size) (hB:Below base W0 w')
  (h:∀ v' w1,OwnI base w1 v' (xs ++ zs)->Below base W0 w1->wpList Tryz.prog ops Q rest (a.put o.dst v') w1):wpList Tryz.prog ops Q (o :: rest) a w':=by
 obtain ⟨v',w1,hrun,h1,h2⟩:=ZcQ o.type base v xs zs src m c hown hz hn hbase hB
 refine wpList_plain hgd fun K hK=>?_
 unfold Oper.wp
 simp [execOp,ho,resolve,invoke,builtin,hs,hx,hrun,Result.andThen]
 exact hK _ _ (h v' w1 h1 h2)
end
end
theorem grow_any (n:Nat) (w:World) (h1:n<=1000) :
  Calls Tryz.prog 235 #[.slice none 0 0,.int .i64 n] w fun e w'=>∃ v,e=.returned v/\OwnI w.heap.size w' v []/\Below w.heap.size w w':=by
 by_cases h0:0 < n
 ·exact grow_calls n w h0 h1
 ·have hz:¬ (n:Int) > 0:=by omega
  have hz2:¬ (n:Int) < 0:=by omega
  have hz3:¬ 0 < n:=h0
  go_enter Tryz.func235,Tryz.ntmps235
  go_wp2
  go_ret
  exact ⟨_,rfl,OwnI.nil _ _,br⟩
theorem concat_any (n:Nat) (A:Nat->Option Addr) (L C:Nat->Nat) (X:Nat->List Int) (b:Nat) (w:World) (hb:b < w.heap.size) (hn0:0 < n) (hn:n<=1000) (hc:∀ i,i < n->w.cell? ⟨b,i,none⟩=some (.slice (A i) (L i) (C i)))
  (hl:∀ i,i < n->Lst w (A i) (L i) (C i) (X i)) (hs:lenTo L n<=1000) :
  Calls Tryz.prog 221 #[.slice (some ⟨b,0,none⟩) n n] w fun e w'=>∃ v,e=.returned v/\OwnI w.heap.size w' v (catTo X n)/\Below w.heap.size w w':=by
 have HC:Hid (∀ i,i < n->w.cell? ⟨b,i,none⟩=some (.slice (A i) (L i) (C i))):=hc
 have HL:Hid (∀ i,i < n->Lst w (A i) (L i) (C i) (X i)):=hl
 clear hc hl
 go_enter Tryz.func221,Tryz.ntmps221
 go_wp2
 go_loopw [3,11] (fun s i wr=>∃ k:Nat,k<=n/\i=.int .i64 k/\s=.int .i64 (lenTo L k)/\wr=w) (fun _ i _=>n - (intOf i).toNat)
 case atStart=>exact ⟨0,Nat.zero_le _,rfl,rfl,rfl⟩
 case round =>
  obtain ⟨k,hk,rfl,rfl,hw⟩:=hrel
  replace hw:=hw.symm
  subst hw
  by_cases hlt:k < n
  ·have c:=HC.out k hlt
   have b1:=ZcK L (k:=k+1) (n:=n) (by omega)
   have b2:lenTo L (k+1)=lenTo L k+L k:=rfl
   obtain ⟨l,hl⟩:=nm (L k)
   obtain ⟨T,hT⟩:=nm (lenTo L k)
   rw [hl.out] at c b2
   rw [hT.out] at b2
   have b3:T+l<=1000:=by omega
   rw [hT.out]
   clear b1 b2
   go_wp2
   go_roundw
   case rel=>exact ⟨k+1,by omega,by go_num,by rw [lenTo,hT.out,hl.out]; go_num,by trivial⟩
   case measure=>simp [intOf]; omega
  ·obtain rfl:k=n:=by omega
   obtain ⟨T,hT⟩:=nm (lenTo L k)
   have HS:Hid (lenTo L k<=1000):=hs
   rw [hT.out] at hs ⊢
   go_wp2_with fail
   refine (grow_any T _ hs).mono ?_
   rintro e w1 ⟨v0,rfl,hown,hw1⟩
   go_wp2
   go_loopw [6,27] (fun v i wr=>∃ j:Nat,j<=k/\i=.int .i64 j/\OwnI w.heap.size wr v (catTo X j)/\Below w.heap.size w wr) (fun _ i _=>k - (intOf i).toNat)
   case atStart=>exact ⟨0,Nat.zero_le _,rfl,hown,hw1⟩
   case round =>
    obtain ⟨j,hj,rfl,hown,hbel⟩:=hrel
    have hsz:=hbel.size
    by_cases hlt2:j < k
    ·have c:=(hbel.cell (p:=⟨b,j,none⟩) (by exact hb)).trans (HC.out j hlt2)
     have hx:=(HL.out j hlt2).below hbel nr
     have hlen:(catTo X j).length+L j<=1000:=by
      rw [catTo_len X L j (fun i hi=>(HL.out i (by omega)).len)]
      have b1:=ZcK L (k:=j+1) (n:=k) (by omega)
      have b2:lenTo L (j+1)=lenTo L j+L j:=rfl
      have:=HS.out
      omega
     obtain ⟨l,hl⟩:=nm (L j)
     rw [hl.out] at c hx hlen
     go_wp2_with (at_builtin; refine wpList_append_any (by rfl) _ _ (by rfl) w.heap.size _ (catTo X j) (X j) (A j) l (C j) w (by rfl) (by rfl) (by exact hown) (by exact hx) (by omega) (by exact hsz) (by exact hbel) ?_; intro v1 w3 hown1 hbel1)
     go_roundw
     case rel=>exact ⟨j+1,by omega,by go_num,hown1,hbel1⟩
     case measure=>simp [intOf]; omega
    ·obtain rfl:j=k:=by omega
     go_wp2
     go_ret
     exact ⟨_,rfl,hown,hbel⟩
def two {α:Type} (x0 x1:α) (i:Nat):α:=if i=0 then x0 else x1
theorem lt_two {i:Nat} (h:i < 2):i=0\/i=1:=by omega
theorem concat2 (a0 a1:Option Addr) (l0 l1 c0 c1:Nat) (x0 x1:List Int) (g:Nat) (w:World) (hg:g=w.heap.size) (h0:Lst w a0 l0 c0 x0) (h1:Lst w a1 l1 c1 x1) (hs:l0+l1<=1000) :
  Calls Tryz.prog 221 #[.slice (some ⟨g,0,none⟩) 2 2] (w.alloc (.cells #[.slice a0 l0 c0,.slice a1 l1 c1] 66)) fun e w'=>∃ a c,e=.returned (.slice a (l0+l1) c)/\Lst w' a (l0+l1) c (x0 ++ x1)/\Below w.heap.size w w':=by
 subst hg
 have hal:=(Below.refl w.heap.size w).alloc nr (.cells #[.slice a0 l0 c0,.slice a1 l1 c1] 66)
 have hr:=World.rowIs_alloc w #[.slice a0 l0 c0,.slice a1 l1 c1] 66 (fun i=>.slice (two a0 a1 i) (two l0 l1 i) (two c0 c1 i)) (by
  intro i hi
  rcases lt_two hi with rfl | rfl <;> rfl)
 refine (concat_any 2 (two a0 a1) (two l0 l1) (two c0 c1) (two x0 x1) w.heap.size _ (by simp) (by omega) (by omega) (fun i hi=>hr.cell hi) ?_ ?_).mono ?_
 ·intro i hi
  rcases lt_two hi with rfl | rfl
  ·exact h0.below hal nr
  ·exact h1.below hal nr
 ·show 0+l0+l1<=1000
  omega
 ·rintro e w' ⟨v,rfl,hown,hb⟩
  have e1:catTo (two x0 x1) 2=x0 ++ x1:=by
   show ([] ++ x0) ++ x1=_
   simp
  rw [e1] at hown
  have e2:(x0 ++ x1).length=l0+l1:=by rw [List.length_append,h0.len,h1.len]
  obtain ⟨a,c,rfl,hl⟩:=hown.lst
  rw [e2] at hl ⊢
  exact ⟨a,c,rfl,hl,hal.trans (hb.mono hal.size)⟩
end Go.Proofs.YthmiojmlaclgaaaGreatDoor.Fx
