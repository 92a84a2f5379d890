/- What the law stands on: VecE AppsGr PupH Trains Fives OnceA OptKeep Courses Trees. -/
import Derived.Test.YthmiojmlaclgaaaGreatDoorJ00
import Derived.Test.YthmiojmlaclgaaaGreatDoorJ01
import Derived.Maps.AppendAt
import Derived.Test.YthmiojmlaclgaaaGreatDoorJ02
import Derived.Test.YthmiojmlaclgaaaGreatDoorJ03
set_option maxRecDepth 100000
set_option maxHeartbeats 12800000
namespace Go.Proofs.YthmiojmlaclgaaaGreatDoor.Fx
open Go.RowKit
def fn3 (v0 v1 v2:Value) (i:Nat):Value:=if i=0 then v0 else if i=1 then v1 else v2
def outerG (xs ys:List Int) (lb i:Nat):Int:=mulI (xs.getD (i / lb) 0) (ys.getD (i % lb) 0)
theorem fn3_alloc (w:World) (v0 v1 v2:Value) (t:TypeId):(w.alloc (.cells #[v0,v1,v2] t)).rowIs w.heap.size t 3 (fn3 v0 v1 v2) :=
 World.rowIs_alloc w #[v0,v1,v2] t (fn3 v0 v1 v2) (by
  intro i hi
  rcases (show i = 0 ∨ i = 1 ∨ i = 2 from by have : i < 3 := hi
                                             omega) with rfl | rfl | rfl <;> rfl)
theorem fn3_cells {w:World} {b t:Nat} {v0 v1 v2:Value} (h:w.rowIs b t 3 (fn3 v0 v1 v2)) :
  w.cell? ⟨b,0,none⟩=some v0/\w.cell? ⟨b,1,none⟩=some v1/\w.cell? ⟨b,2,none⟩=some v2 :=
 ⟨h.cell (i:=0) (by omega),h.cell (i:=1) (by omega),h.cell (i:=2) (by omega)⟩
theorem set3 {w:World} {b t:Nat} {f:Nat->Value} (h:w.rowIs b t 3 f) (v0 v1 v2:Value):(((w.setCell ⟨b,0,none⟩ v0).setCell ⟨b,1,none⟩ v1).setCell ⟨b,2,none⟩ v2).rowIs b t 3 (fn3 v0 v1 v2):=by
 refine (((h.set 0 v0).set 1 v1).set 2 v2).congr (fun i hi=>?_)
 rcases (show i=0\/i=1\/i=2 from by omega) with rfl | rfl | rfl <;> rfl
structure OutRel (w:World) (n la lb:Nat) (g:Nat->Int) (k:Nat) (wr:World):Prop where
 row:wr.rowIs (w.heap.size+1+1) 3 n (rowTo g k)
 res:wr.rowIs w.heap.size 100 3 (fn3 (.int .i64 0) (.int .i64 0) (.slice none 0 0))
 mat:wr.rowIs (w.heap.size+1+1+1) 100 3 (fn3 (.int .i64 la) (.int .i64 lb) (.slice (some ⟨w.heap.size+1+1,0,none⟩) n n))
 old:Below w.heap.size w wr
theorem OutRel.start (w:World) (n la lb:Nat) (g:Nat->Int) (o:Obj):OutRel w n la lb g 0
  ((((w.alloc (.cells #[.int .i64 0,.int .i64 0,.slice none 0 0] 100)).alloc o).alloc (.cells (madeCells #[.int .i64 0] n) 3)).alloc (.cells #[.int .i64 la,.int .i64 lb,.slice (some ⟨w.heap.size+1+1,0,none⟩) n n] 100)):=by
 refine ⟨?_,?_,?_,?_⟩
 ·refine ZaG ?_
  have h:=World.rowIs_made ((w.alloc (.cells #[.int .i64 0,.int .i64 0,.slice none 0 0] 100)).alloc o) (.int .i64 0) n 3
  have h:=h.alloc (.cells #[.int .i64 la,.int .i64 lb,.slice (some ⟨w.heap.size+1+1,0,none⟩) n n] 100)
  simpa using h
 ·exact (((fn3_alloc w _ _ _ _).alloc _).alloc _).alloc _
 ·have h:=fn3_alloc (((w.alloc (.cells #[.int .i64 0,.int .i64 0,.slice none 0 0] 100)).alloc o).alloc (.cells (madeCells #[.int .i64 0] n) 3)) (.int .i64 la) (.int .i64 lb) (.slice (some ⟨w.heap.size+1+1,0,none⟩) n n) 100
  simpa using h
 ·exact (((br.alloc nr _).alloc (by simp) _).alloc (by simp; omega) _).alloc (by simp; omega) _
theorem OutRel.step {w wr:World} {n la lb k:Nat} {g:Nat->Int} (h:OutRel w n la lb g k wr) (d:Nat) :
  OutRel w n la lb g (k+1) ((wr.setCell ⟨w.heap.size+1+1,k,none⟩ (.int .i64 (g k))).drewN d) :=
 ⟨Zap (Zaw h.row) _,Zap (h.res.setOther (by simp; omega) _) _,Zap (h.mat.setOther (by simp) _) _,Zab (h.old.setCell (by simp; omega) _) _⟩
theorem outerG_at (xs ys:List Int) (lb k j:Nat) (h:j < lb):outerG xs ys lb (k * lb+j)=mulI (xs.getD k 0) (ys.getD j 0):=by
 unfold outerG
 rw [Nat.mul_comm,Nat.mul_add_div (by omega),Nat.div_eq_of_lt h,Nat.mul_add_mod,Nat.mod_eq_of_lt h,Nat.add_zero]
theorem vOuter_good (a b:Option Addr) (la ca lb cb:Nat) (xs ys:List Int) (w:World) (ha:Lst w a la ca xs) (hb:Lst w b lb cb ys) (ha1:1<=la) (ha2:la<=4) (hb1:1<=lb) (hb2:lb<=4) :
  Calls Tryz.prog 220 #[.slice a la ca,.slice b lb cb] w fun e w'=>∃ g,e=.returned (.tuple #[.agg #[.int .i64 la,.int .i64 lb,.slice (some ⟨g,0,none⟩) (la * lb) (la * lb)],.int .i64 0])/\w.heap.size<=g/\Lst w' (some ⟨g,0,none⟩) (la * lb) (la * lb) ((List.range (la * lb)).map (outerG xs ys lb))/\Below w.heap.size w w':=by
 have h2:=Zae ha2 hb2
 have i3:(la:Int) * (lb:Int)<=16:=by exact_mod_cast h2
 have i4:0<=(la:Int) * (lb:Int):=by exact_mod_cast Nat.zero_le (la * lb)
 have hmk:=run_make_row' (P:=Tryz.prog) 66 3 (.int .i64 0) 8 Tryz.underlying66 info3 rfl .i64 .i64 (la * lb) (by omega) (by omega)
 simp only [Int.natCast_mul] at hmk
 have hd:decide (200 < la\/200 < lb)=false:=decide_eq_false (by omega)
 have sa:sideB (la:Int)=true:=ZaP (by omega) (by omega)
 have sb:sideB (lb:Int)=true:=ZaP (by omega) (by omega)
 go_enter Tryz.func220,Tryz.ntmps220
 go_wp2_with (first | (go_at_call 199; refine (long2 _ _ _ _ _ _ _ _ (by simp)).mono ?_; rintro e w' ⟨rfl,rfl⟩; rw [hd]) | (go_at_call 222; refine (ZbQ _ _).mono ?_; rintro e w' ⟨rfl,rfl⟩))
 go_loopw [40] (fun i wr=>∃ k:Nat,k<=la/\i=.int .i64 k/\OutRel w (la * lb) la lb (outerG xs ys lb) (k * lb) wr) (fun i _=>la - (intOf i).toNat)
 case atStart=>exact ⟨0,Nat.zero_le _,rfl,by rw [Nat.zero_mul]; exact OutRel.start _ _ _ _ _ _⟩
 case round =>
  obtain ⟨k,hk,rfl,hrel⟩:=hrel
  clear hmk
  by_cases hlt:k < la
  ·obtain ⟨b1,o1,x,rfl,s1,c1,HX⟩:=ha.at1b hrel.old nr hlt
   go_wp2
   generalize hwr:wr=w1 at *
   clear hwr
   go_loopw [47] (fun i wr=>∃ j:Nat,j<=lb/\i=.int .i64 j/\OutRel w (la * lb) la lb (outerG xs ys lb) (k * lb+j) wr) (fun i _=>lb - (intOf i).toNat)
   case atStart=>exact ⟨0,Nat.zero_le _,rfl,hrel⟩
   case round =>
    rename_i hrel1 _
    obtain ⟨j,hj,rfl,hin⟩:=hrel
    by_cases hlt2:j < lb
    ·obtain ⟨b2,o2,y,rfl,s2,c2,HY⟩:=hb.at1b hin.old nr hlt2
     obtain ⟨_,g1,g2⟩:=fn3_cells hin.mat
     have m1:(k+1) * lb<=la * lb:=Nat.mul_le_mul_right _ hlt
     have m2:(k+1) * lb=k * lb+lb:=Nat.succ_mul _ _
     have m3:k * lb+j < la * lb:=by omega
     have c3:=Zax hin.row m3
     have f3:=hin.row.frozen (k * lb+j)
     have i5:(0:Int)<=(k:Int) * (lb:Int):=by exact_mod_cast Nat.zero_le (k * lb)
     have i6:(k:Int) * (lb:Int)+(j:Int) < (la:Int) * (lb:Int):=by exact_mod_cast m3
     have HG:Hid (outerG xs ys lb (k * lb+j)=mulI x y):=by rw [outerG_at _ _ _ _ _ hlt2,HX.out,HY.out]; rfl
     have e1:IntKind.i64.wrap ((k:Int) * (lb:Int))=(k:Int) * (lb:Int):=ZaK _ (by omega) (by omega)
     have e2:IntKind.i64.wrap ((k:Int) * (lb:Int)+(j:Int))=(k:Int) * (lb:Int)+(j:Int):=ZaK _ (by omega) (by omega)
     clear m2 ha hb
     go_wp2
     go_region_with ((go_at_call 190; refine (ZbP _ _ _).mono ?_; rintro e w' ⟨rfl,nd,rfl⟩))
     all_goals
      go_wp2
      go_roundw
      case rel =>
       have st:=hin.step (1+nd)
       rw [HG.out] at st
       exact ⟨j+1,by omega,by go_num,st⟩
      case measure=>simp [intOf]; omega
    ·go_wp2
     go_roundw
     case rel =>
      obtain rfl:j=lb:=by omega
      exact ⟨k+1,by omega,by go_num,by rw [Nat.succ_mul]; exact hin⟩
     case measure=>simp [intOf]; omega
  ·obtain rfl:k=la:=by omega
   obtain ⟨g0,g1,g2⟩:=fn3_cells hrel.mat
   obtain ⟨r0,r1,r2⟩:=fn3_cells hrel.res
   have f0:=hrel.res.frozen 0
   have f1:=hrel.res.frozen 1
   have f2:=hrel.res.frozen 2
   go_wp2
   have hq:=set3 hrel.res (.int .i64 k) (.int .i64 lb) (.slice (some ⟨w.heap.size+1+1,0,none⟩) (k * lb) (k * lb))
   obtain ⟨q0,q1,q2⟩:=fn3_cells hq
   refine bodyPost_ret (v:=.tuple #[.agg #[.int .i64 k,.int .i64 lb,.slice (some ⟨w.heap.size+1+1,0,none⟩) (k * lb) (k * lb)],.int .i64 0]) (by simp [results,Tryz.results220,go_sem,q0,q1,q2]) rfl ⟨_,rfl,by omega,?_,?_⟩
   ·exact Zbe (((hrel.row.setOther (by simp; omega) _).setOther (by simp; omega) _).setOther (by simp; omega) _)
   ·exact ((hrel.old.setCell nr _).setCell nr _).setCell nr _
section
section
variable {w':World} {ops:Array Oper} {o:Oper} {a:Act} {Q:Exit->Act->World->Prop}
theorem run_append_at (ty:TypeId) (base:Nat) (v:Value) (xs:List Int) (z:Int) (g:Nat) (hown:OwnI base w' v xs) (hc:w'.cell? ⟨g,0,none⟩=some (.int .i64 z)) (hn:(xs.length+1) * 8<=140737488355328) (hbase:base<=w'.heap.size) :
  ∃ v' w1,(Builtin.append_ #[66,66] ty #[v,.slice (some ⟨g,0,none⟩) 1 1]).run Tryz.prog w'=.ok v' w1/\OwnI base w1 v' (xs ++ [z])/\w'.grownBy w1 v.ownBlock/\(v'.ownBlock=v.ownBlock\/v'.ownBlock=some w'.heap.size):=by
 obtain ⟨i0,hi,hz0,hz1,hz2⟩:=info_parts info3
 obtain ⟨v',w1,hrun,h1,h2,_,h3⟩:=run_append_own_at (P:=Tryz.prog) w' base 66 ty 3 i0 (.int .i64 0) 1 8 Tryz.underlying66 hi hz0 hz1 hz2 rfl (by decide) v xs.length _ hown ⟨g,0,none⟩ 1 1 [.int .i64 z] rfl
  (by intro j u hj
      match j,hj with
      | 0,hj=>simp at hj; subst hj; simpa [Addr.add] using hc)
  (by intro u hu; simp at hu; subst hu; rfl) (by unfold maxLen; omega) hn hbase
 exact ⟨v',w1,hrun,by unfold OwnI; rw [List.length_append,List.map_append]; exact h1,h2,h3⟩
theorem ZaW {rest:List Oper} (hgd:o.guard=none) (s x:Operand) (ho:o.op=.call { callee:=.builtin .append,args:=#[s,x],argTypes:=#[66,66] })
  (base:Nat) (v:Value) (xs:List Int) (z:Int) (g:Nat) (hs:a.eval s=v) (hx:a.eval x=.slice (some ⟨g,0,none⟩) 1 1) (hown:OwnI base w' v xs) (hc:w'.cell? ⟨g,0,none⟩=some (.int .i64 z)) (hn:(xs.length+1) * 8<=140737488355328) (hbase:base<=w'.heap.size)
  (h:∀ v' w1,OwnI base w1 v' (xs ++ [z])->w'.grownBy w1 v.ownBlock->(v'.ownBlock=v.ownBlock\/v'.ownBlock=some w'.heap.size)->wpList Tryz.prog ops Q rest (a.put o.dst v') w1):wpList Tryz.prog ops Q (o :: rest) a w':=by
 obtain ⟨v',w1,hrun,h1,h2,h3⟩:=run_append_at o.type base v xs z g hown hc hn hbase
 refine wpList_plain hgd fun K hK=>?_
 unfold Oper.wp
 simp [execOp,ho,resolve,invoke,builtin,hs,hx,hrun,Result.andThen]
 exact hK _ _ (h v' w1 h1 h2 h3)
theorem Zbn {K:Act->World->Prop} {E:Prop} (hgd:o.guard=none) (s x:Operand) (ho:o.op=.call { callee:=.builtin .append,args:=#[s,x],argTypes:=#[66,66] })
  (base:Nat) (v:Value) (xs:List Int) (z:Int) (g:Nat) (hs:a.eval s=v) (hx:a.eval x=.slice (some ⟨g,0,none⟩) 1 1) (hown:OwnI base w' v xs) (hc:w'.cell? ⟨g,0,none⟩=some (.int .i64 z)) (hn:(xs.length+1) * 8<=140737488355328) (hbase:base<=w'.heap.size)
  (h:∀ v' w1,OwnI base w1 v' (xs ++ [z])->w'.grownBy w1 v.ownBlock->(v'.ownBlock=v.ownBlock\/v'.ownBlock=some w'.heap.size)->K (a.put o.dst v') w1) :
  if Region.wanted o (yielded ops a.tmps)=true then Oper.wp Tryz.prog o a w' K Q else E:=by
 obtain ⟨v',w1,hrun,h1,h2,h3⟩:=run_append_at o.type base v xs z g hown hc hn hbase
 have hw:Region.wanted o (yielded ops a.tmps)=true:=by simp [Region.wanted,hgd]
 rw [if_pos hw]
 unfold Oper.wp
 simp [execOp,ho,resolve,invoke,builtin,hs,hx,hrun,Result.andThen]
 exact h v' w1 h1 h2 h3
end
def Apart (x y:Value):Prop:=y.ownBlock=none\/y.ownBlock ≠ x.ownBlock
theorem Apart.symm {x y:Value} (h:Apart x y):Apart y x:=by
 unfold Apart at *
 rcases h with h | h
 ·rw [h]
  cases e:x.ownBlock with
  | none=>exact .inl rfl
  | some b=>exact .inr (by simp)
 ·exact .inr (fun e=>h e.symm)
theorem OwnI.blk {base:Nat} {w:World} {y:Value} {xs:List Int} (h:OwnI base w y xs):y.ownBlock=none\/∃ g,y.ownBlock=some g/\base<=g/\g < w.heap.size:=by
 rcases h.2 with ⟨rfl,_⟩ | ⟨g,cap,cur,rfl,hg,hh,_⟩
 ·exact .inl rfl
 ·exact .inr ⟨g,rfl,hg,(Array.getElem?_eq_some_iff.1 hh).1⟩
theorem OwnI.kept {base:Nat} {w w1:World} {y:Value} {xs:List Int} {row:Option Nat} (h:OwnI base w y xs) (hg:w.grownBy w1 row) (hne:y.ownBlock=none\/y.ownBlock ≠ row):OwnI base w1 y xs:=World.ownsRow.kept h hg hne
theorem grown_trans {w w1 w2:World} {row:Option Nat} {b:Nat} (h1:w.grownBy w1 (some b)) (h2:w1.grownBy w2 row) (hr:∀ k,row=some k->w.heap.size<=k\/k=b):w.grownBy w2 (some b) :=
 ⟨h2.os.trans h1.os, h2.tape.trans h1.tape, h2.output.trans h1.output, Nat.le_trans h1.size h2.size, fun k hk hne => by
  refine (h2.block k (Nat.lt_of_lt_of_le hk h1.size) (fun e=>?_)).trans (h1.block k hk hne)
  rcases hr k e.symm with h | h
  ·omega
  ·exact hne (by rw [h])⟩
theorem grown_below {w w1 w2:World} {b:Nat} (h1:w.grownBy w1 (some b)) (h2:Below w1.heap.size w1 w2):w.grownBy w2 (some b) :=
 ⟨h2.os.trans h1.os,h2.tape.trans h1.tape,h2.output.trans h1.output,Nat.le_trans h1.size h2.size,fun k hk hne=>(h2.block k (Nat.lt_of_lt_of_le hk h1.size)).trans (h1.block k hk hne)⟩
theorem OwnI.at {base:Nat} {w:World} {a:Option Addr} {n c:Nat} {L:List Int} (h:OwnI base w (.slice a n c) L) (hl:L.length=n) (hn:0 < n):∃ g,a=some ⟨g,0,none⟩/\base<=g/\Lst w (some ⟨g,0,none⟩) n c L:=by
 obtain ⟨a',c',e,hL⟩:=h.lst' hl
 simp only [Value.slice.injEq] at e
 obtain ⟨rfl,_,rfl⟩:=e
 rcases h.2 with ⟨hv,_⟩ | ⟨g,cap,cur,hv,hg,_⟩
 ·simp only [Value.slice.injEq] at hv
  omega
 ·simp only [Value.slice.injEq] at hv
  obtain ⟨rfl,_,_⟩:=hv
  exact ⟨g,rfl,hg,hL⟩
theorem grown1 {w w1:World} {b:Nat} (h:w.grownBy w1 (some b)) (i:Nat) (v:Value):w.grownBy (w1.setCell ⟨b,i,none⟩ v) (some b) :=
 ⟨h.os,h.tape,h.output,by simpa using h.size,fun k hk hne=>(Go.Deep.blk_setCell_other _ _ _ _ (by simpa using hne)).trans (h.block k hk hne)⟩
theorem Lst.grown {w w':World} {g off n c b:Nat} {xs:List Int} (h:Lst w (some ⟨g,off,none⟩) n c xs) (hg:w.grownBy w' (some b)) (hne:g ≠ b):Lst w' (some ⟨g,off,none⟩) n c xs:=by
 refine ⟨h.1,h.2.1,?_⟩
 rcases h.2.2 with h0 | ⟨b',off',e,hs,hc⟩
 ·exact .inl h0
 ·simp only [Option.some.injEq,Addr.mk.injEq,and_true] at e
  obtain ⟨rfl,rfl⟩:=e
  exact .inr ⟨g,off,rfl,Nat.lt_of_lt_of_le hs hg.size,fun i hi=>hg.cell (hc i hi) (by simpa using hne)⟩
theorem Zac (w:World) (o:Obj):Below w.heap.size w (w.alloc o):=br.alloc nr o
end
def graG (d:PD) (xs ys:List Int) (I H O k:Nat):Int:=if (hidL d xs I H).getD k 0=0 then 0 else backG d.X2 (difL d xs ys I H O) O H k
def graL (d:PD) (xs ys:List Int) (I H O:Nat):List Int:=(List.range H).map (graG d xs ys I H O)
def graD (d:PD) (xs ys:List Int) (I H O:Nat):PD :=
 ⟨(List.range (H * I)).map (outerG (graL d xs ys I H O) xs I),(List.range (O * H)).map (outerG (difL d xs ys I H O) (hidL d xs I H) H),graL d xs ys I H O,difL d xs ys I H O⟩
theorem grown8 (w:World) (b:Nat) (v0 v1 v2 v3 v4 v5 v6 v7:Value) :
  w.grownBy ((((((((w.setCell ⟨b,0,none⟩ v0).setCell ⟨b,1,none⟩ v1).setCell ⟨b,2,none⟩ v2).setCell ⟨b,3,none⟩ v3).setCell ⟨b,4,none⟩ v4).setCell ⟨b,5,none⟩ v5).setCell ⟨b,6,none⟩ v6).setCell ⟨b,7,none⟩ v7) (some b) :=
 grown1 (grown1 (grown1 (grown1 (grown1 (grown1 (grown1 (grown1 (World.grownBy.refl w _) 0 v0) 1 v1) 2 v2) 3 v3) 4 v4) 5 v5) 6 v6) 7 v7
def Exs (w:World) (a:Option Addr) (n cap:Nat) (X:Nat->Exm) (DI DO:Nat->List Int):Prop :=
 n<=cap/\(n=0\/∃ b off,a=some ⟨b,off,none⟩/\b < w.heap.size/\∀ i,i < n->w.cell? ⟨b,off+i * 2,none⟩=some (.slice (X i).a (X i).n (X i).k)/\w.cell? ⟨b,off+i * 2+1,none⟩=some (.slice (X i).b (X i).m (X i).t)/\InEx w (X i) (DI i) (DO i))
theorem Exs.below {w w':World} {a:Option Addr} {n c:Nat} {X:Nat->Exm} {DI DO:Nat->List Int} {B:Nat} (h:Exs w a n c X DI DO) (hb:Below B w w') (hB:w.heap.size<=B):Exs w' a n c X DI DO:=by
 refine ⟨h.1,?_⟩
 rcases h.2 with h0 | ⟨b,off,e,hs,hc⟩
 ·exact .inl h0
 ·exact .inr ⟨b,off,e,Nat.lt_of_lt_of_le hs hb.size,fun i hi =>
   ⟨(hb.cell (p:=⟨b,off+i * 2,none⟩) (Nat.lt_of_lt_of_le hs hB)).trans (hc i hi).1,(hb.cell (p:=⟨b,off+i * 2+1,none⟩) (Nat.lt_of_lt_of_le hs hB)).trans (hc i hi).2.1,(hc i hi).2.2.below hb hB⟩⟩
theorem Exs.drewN {w:World} {a:Option Addr} {n c:Nat} {X:Nat->Exm} {DI DO:Nat->List Int} (h:Exs w a n c X DI DO) (k:Nat):Exs (w.drewN k) a n c X DI DO:=h.below (Zab (Below.refl w.heap.size w) k) nr
theorem Exs.at {w:World} {a:Option Addr} {n c:Nat} {X:Nat->Exm} {DI DO:Nat->List Int} (h:Exs w a n c X DI DO) {i:Nat} (hi:i < n) :
  ∃ b off,a=some ⟨b,off,none⟩/\w.cell? ⟨b,off+i * 2,none⟩=some (.slice (X i).a (X i).n (X i).k)/\w.cell? ⟨b,off+i * 2+1,none⟩=some (.slice (X i).b (X i).m (X i).t)/\InEx w (X i) (DI i) (DO i):=by
 rcases h.2 with h0 | ⟨b,off,e,_,hc⟩
 ·omega
 ·exact ⟨b,off,e,hc i hi⟩
def exB (c:Cfg) (x:Exm) (I O:List Int):Bool:=decide ((x.n:Int)=c.i) && decide ((x.m:Int)=c.o) && rightB I && rightB O
def allEx (c:Cfg) (n:Nat) (X:Nat->Exm) (DI DO:Nat->List Int):Bool:=(List.range n).all fun i=>exB c (X i) (DI i) (DO i)
theorem allEx_yes {c:Cfg} {n:Nat} {X:Nat->Exm} {DI DO:Nat->List Int} (h:∀ i,i < n->exB c (X i) (DI i) (DO i)=true):allEx c n X DI DO=true:=by
 unfold allEx; rw [List.all_eq_true]; exact fun i hi=>h i (List.mem_range.1 hi)
theorem allEx_no {c:Cfg} {n i:Nat} {X:Nat->Exm} {DI DO:Nat->List Int} (hi:i < n) (h:exB c (X i) (DI i) (DO i)=false):allEx c n X DI DO=false:=by
 unfold allEx; rw [List.all_eq_false]; exact ⟨i,List.mem_range.2 hi,by rw [h]; decide⟩
theorem ZcG {c:Cfg} {n:Nat} {X:Nat->Exm} {DI DO:Nat->List Int} (h:allEx c n X DI DO=true) {i:Nat} (hi:i < n):exB c (X i) (DI i) (DO i)=true:=by
 unfold allEx at h; rw [List.all_eq_true] at h; exact h i (List.mem_range.2 hi)
theorem exB_is {c:Cfg} {x:Exm} {I O:List Int} (h:exB c x I O=true):(x.n:Int)=c.i/\(x.m:Int)=c.o/\rightB I=true/\rightB O=true:=by
 simp only [exB,Bool.and_eq_true,decide_eq_true_eq] at h
 exact ⟨h.1.1.1,h.1.1.2,h.1.2,h.2⟩
def courseI (c:Cfg) (n:Nat) (X:Nat->Exm) (DI DO:Nat->List Int):Int :=
 if cfgB c=true then (if n=0 then 1 else if 16 < n then 2 else if allEx c n X DI DO=true then 0 else 5) else 1
def startG (seed:Int) (i:Nat):Int:=ofP 2 [seed,1000+(i:Int)] % 131073 - 65536
def zeroG (_:Nat):Int:=0
theorem startG_bd (seed:Int) (i:Nat):-65536<=startG seed i/\startG seed i<=65536:=by
 unfold startG
 have:=Int.emod_nonneg (ofP 2 [seed,1000+(i:Int)]) (b:=131073) (by omega)
 have:=Int.emod_lt_of_pos (ofP 2 [seed,1000+(i:Int)]) (b:=131073) (by omega)
 omega
def accTo (f:Nat->Nat->Int):Nat->Nat->Int
 | 0,_=>0
 | k+1,i=>addI (accTo f k i) (f k i)
def gradOf (I H O:Nat) (ws:List Int) (DI DO:Nat->List Int) (j:Nat):List Int:=flatD (graD (cutD I H O ws) (DI j) (DO j) I H O)
def meanG (f:Nat->Nat->Int) (b:Int) (i:Nat):Int:=divI (accTo f b.toNat i) (b * 65536)
def gradG (c:Cfg) (n:Nat) (ws:List Int) (DI DO:Nat->List Int) (step:Int) (k i:Nat):Int :=
 (gradOf c.i.toNat c.h.toNat c.o.toNat ws DI DO ((batchL c.seed c.batch n step).getD k 0).toNat).getD i 0
def pushL (c:Cfg) (n:Nat) (ws:List Int) (DI DO:Nat->List Int) (step:Int) (nw:Nat):List Int :=
 clipL ((List.range nw).map (meanG (gradG c n ws DI DO step) c.batch)) c.clip nw
def fn5 (v0 v1 v2 v3 v4:Value) (i:Nat):Value:=if i=0 then v0 else if i=1 then v1 else if i=2 then v2 else if i=3 then v3 else v4
theorem lt5 {i:Nat} (h:i < 5):i=0\/i=1\/i=2\/i=3\/i=4:=by omega
theorem Zao (w:World) (v0 v1 v2 v3 v4:Value) (t:TypeId):(w.alloc (.cells #[v0,v1,v2,v3,v4] t)).rowIs w.heap.size t 5 (fn5 v0 v1 v2 v3 v4) :=
 World.rowIs_alloc w #[v0,v1,v2,v3,v4] t (fn5 v0 v1 v2 v3 v4) (by
  intro i hi
  rcases lt5 hi with rfl | rfl | rfl | rfl | rfl <;> rfl)
structure Box5 (w:World) (b:Nat) (v0 v1 v2 v3 v4:Value):Prop where
 c0:w.cell? ⟨b,0,none⟩=some v0
 c1:w.cell? ⟨b,1,none⟩=some v1
 c2:w.cell? ⟨b,2,none⟩=some v2
 c3:w.cell? ⟨b,3,none⟩=some v3
 c4:w.cell? ⟨b,4,none⟩=some v4
theorem Zam {w:World} {b t:Nat} {v0 v1 v2 v3 v4:Value} (h:w.rowIs b t 5 (fn5 v0 v1 v2 v3 v4)):Box5 w b v0 v1 v2 v3 v4 :=
 ⟨h.cell (i:=0) (by omega),h.cell (i:=1) (by omega),h.cell (i:=2) (by omega),h.cell (i:=3) (by omega),h.cell (i:=4) (by omega)⟩
theorem ZaN {w:World} {b t:Nat} {f:Nat->Value} (h:w.rowIs b t 5 f) (v0 v1 v2 v3 v4:Value) :
  (((((w.setCell ⟨b,0,none⟩ v0).setCell ⟨b,1,none⟩ v1).setCell ⟨b,2,none⟩ v2).setCell ⟨b,3,none⟩ v3).setCell ⟨b,4,none⟩ v4).rowIs b t 5 (fn5 v0 v1 v2 v3 v4):=by
 refine (((((h.set 0 v0).set 1 v1).set 2 v2).set 3 v3).set 4 v4).congr (fun i hi=>?_)
 rcases lt5 hi with rfl | rfl | rfl | rfl | rfl <;> rfl
theorem Zan {Bd:Nat} {W q:World} {b:Nat} (h:Below Bd W q) (hb:Bd<=b) (v0 v1 v2 v3 v4:Value) :
  Below Bd W (((((q.setCell ⟨b,0,none⟩ v0).setCell ⟨b,1,none⟩ v1).setCell ⟨b,2,none⟩ v2).setCell ⟨b,3,none⟩ v3).setCell ⟨b,4,none⟩ v4) :=
 ((((h.setCell hb v0).setCell hb v1).setCell hb v2).setCell hb v3).setCell hb v4
theorem below_set2 {Bd:Nat} {W q:World} {b:Nat} (h:Below Bd W q) (hb:Bd<=b) (v0 v1:Value):Below Bd W ((q.setCell ⟨b,0,none⟩ v0).setCell ⟨b,1,none⟩ v1):=(h.setCell hb v0).setCell hb v1
def idN (x:Nat):Int:=(x:Int)
theorem swap_perm (f:Nat->Int) {n i j:Nat} (hi:i < n) (hj:j < n):((List.range n).map (swapF f i j)).Perm ((List.range n).map f):=by
 have h:=Array.swap_perm (xs:=((List.range n).map f).toArray) (i:=i) (j:=j) (by simpa using hi) (by simpa using hj)
 rw [Array.perm_iff_toList_perm] at h
 refine List.Perm.trans ?_ h
 rw [show (List.range n).map (swapF f i j)=(((List.range n).map f).toArray.swap i j (by simpa using hi) (by simpa using hj)).toList from ?_]
 refine List.ext_getElem (by simp) (fun k h1 h2=>?_)
 simp only [List.length_map,List.length_range] at h1
 simp only [List.getElem_map,List.getElem_range,Array.getElem_toList,Array.getElem_swap,List.getElem_toArray]
 unfold swapF
 by_cases e1:k=i
 ·subst e1
  by_cases e2:k=j
  ·subst e2; simp
  ·simp [e2]
 ·by_cases e2:k=j
  ·subst e2; simp [e1]
  ·simp [e1,e2]
theorem shufTo_perm (seed:Int) (epoch n:Nat):∀ k,k+1<=n->((List.range n).map (shufTo seed epoch n k)).Perm ((List.range n).map idN)
 | 0,_=>List.Perm.refl _
 | k+1,h=>(swap_perm (shufTo seed epoch n k) (i:=n - 1 - k) (j:=placeP seed epoch (n - 1 - k)) (by omega) (by have:=placeP_le seed epoch (n - 1 - k); omega)).trans (shufTo_perm seed epoch n k (by omega))
theorem shufP_perm (seed:Int) (epoch n:Nat) (h:1<=n):((List.range n).map (shufF seed epoch n)).Perm ((List.range n).map idN):=shufTo_perm seed epoch n (n - 1) (by omega)
theorem mulI_zero (b:Int):mulI 0 b=0:=by
 unfold mulI
 rw [show clampI 0=0 from by decide,Int.zero_mul]
 decide
theorem mulI_nonneg {a b:Int} (ha:0<=a) (hb:0<=b):0<=mulI a b:=by
 have:=mulI_mono hb ha
 rw [mulI_zero] at this
 exact this
theorem divI_part {a b:Int} (ha:0<=a) (hb:0 < b) (hm:b<=2147483647) (hab:a<=b):0<=divI a b/\divI a b<=65536:=by
 unfold divI quoI
 rw [ZbB (n:=a) (by omega) (by omega),ZbB (n:=b) (by omega) (by omega),if_neg (by omega)]
 have h0:=rnd_mono (a:=0 * b) (b:=a * 65536) hb (by omega)
 have h1:=rnd_mono (a:=a * 65536) (b:=65536 * b) hb (by omega)
 rw [rnd_whole _ _ hb] at h0 h1
 have c0:=ZbU h0
 have c1:=ZbU h1
 rw [show clampI 0=0 from by decide] at c0
 rw [show clampI 65536=65536 from by decide] at c1
 exact ⟨c0,c1⟩
theorem rateV_bd {c:Cfg} {step:Int} (h:cfgB c=true) (hs:inB step 0 (c.steps - 1)=true):0<=rateV c step/\rateV c step<=c.rate:=by
 obtain ⟨_,_,_,_,⟨s1,s2⟩,⟨r1,r2⟩,_⟩:=Zal h
 have s:=in_is hs
 unfold rateV
 split
 ·have d:=divI_part (a:=c.steps - step) (b:=c.steps) (by omega) (by omega) (by omega) (by omega)
  refine ⟨mulI_nonneg r1 d.1,?_⟩
  have m:=mulI_mono (c:=c.rate) r1 d.2
  rw [mulI_comm 65536,mulI_one _ (by omega) r2,mulI_comm] at m
  exact m
 ·omega
theorem Zbq {g:Nat->Int} {n:Nat} (h:∀ i,i < n->clampI (g i)=g i):rightB ((List.range n).map g)=true:=by
 refine ZbC (fun j hj=>?_)
 have hj':j < n:=by simpa using hj
 rw [ZaS g hj',h j hj']
theorem dotTo_in (xs ys:List Int) (n:Nat):clampI (dotTo xs ys n)=dotTo xs ys n:=by
 cases n with
 | zero=>rfl
 | succ k=>exact ZaO _
theorem difL_right (d:PD) (xs ys:List Int) (I H O:Nat):rightB (difL d xs ys I H O)=true:=Zbq fun _ _=>ZaO _
theorem graL_right (d:PD) (xs ys:List Int) (I H O:Nat):rightB (graL d xs ys I H O)=true:=by
 refine Zbq fun i _=>?_
 unfold graG
 by_cases h:(hidL d xs I H).getD i 0=0
 ·rw [if_pos h]; rfl
 ·rw [if_neg h]; exact dotTo_in _ _ _
theorem graD_right (d:PD) (xs ys:List Int) (I H O:Nat):RightD (graD d xs ys I H O) :=
 ⟨Zbq fun _ _=>ZaO _,Zbq fun _ _=>ZaO _,graL_right d xs ys I H O,difL_right d xs ys I H O⟩
theorem rightB_app {xs ys:List Int} (h:rightB (xs ++ ys)=true):rightB xs=true/\rightB ys=true:=by
 unfold rightB at h ⊢
 rw [List.all_append,Bool.and_eq_true] at h
 exact h
theorem cutD_right {I H O:Nat} {xs:List Int} (hl:xs.length=H * I+H+O * H+O) (h:rightB xs=true):RightD (cutD I H O xs):=by
 rw [← cutD_flat hl] at h
 unfold flatD at h
 have h1:=rightB_app h
 have h2:=rightB_app h1.2
 have h3:=rightB_app h2.2
 exact ⟨h1.1,h3.1,h2.1,h3.2⟩
theorem graD_len (d:PD) (xs ys:List Int) (I H O:Nat):(flatD (graD d xs ys I H O)).length=H * I+H+O * H+O:=by
 unfold flatD graD graL difL
 simp
 omega
def nextW (c:Cfg) (n:Nat) (ws ms:List Int) (DI DO:Nat->List Int) (step:Int) (N:Nat):List Int:=(List.range N).map (goneG c ws ms (pushL c n ws DI DO step N) (rateV c step))
def nextM (c:Cfg) (n:Nat) (ws ms:List Int) (DI DO:Nat->List Int) (step:Int) (N:Nat):List Int:=(List.range N).map (keptG c ms (pushL c n ws DI DO step N))
def stateP (c:Cfg) (n:Nat) (DI DO:Nat->List Int) (N:Nat):Nat->List Int × List Int
 | 0=>((List.range N).map (startG c.seed),(List.range N).map zeroG)
 | k+1=>(nextW c n (stateP c n DI DO N k).1 (stateP c n DI DO N k).2 DI DO (k:Int) N,nextM c n (stateP c n DI DO N k).1 (stateP c n DI DO N k).2 DI DO (k:Int) N)
theorem nextW_right (c:Cfg) (n:Nat) (ws ms:List Int) (DI DO:Nat->List Int) (step:Int) (N:Nat):rightB (nextW c n ws ms DI DO step N)=true:=Zbq fun _ _=>ZaO _
theorem nextM_right {c:Cfg} {n:Nat} {ws ms:List Int} {DI DO:Nat->List Int} {step:Int} {N:Nat} (h:rightB ms=true):rightB (nextM c n ws ms DI DO step N)=true:=by
 refine Zbq fun i _=>?_
 unfold keptG
 by_cases e:c.how=1
 ·rw [if_pos e]; unfold moveG; rw [if_pos e]; exact ZaO _
 ·rw [if_neg e]; exact (rightB_get h i).symm
theorem start_right (seed:Int) (N:Nat):rightB ((List.range N).map (startG seed))=true:=by
 refine Zbq fun i _=>?_
 have:=startG_bd seed i
 exact ZbB (by omega) (by omega)
theorem zero_right (N:Nat):rightB ((List.range N).map zeroG)=true:=Zbq fun _ _=>rfl
theorem Zco (c:Cfg) (n:Nat) (DI DO:Nat->List Int) (N k:Nat):rightB (stateP c n DI DO N k).1=true/\rightB (stateP c n DI DO N k).2=true:=by
 induction k with
 | zero=>exact ⟨start_right _ _,zero_right _⟩
 | succ k ih=>exact ⟨nextW_right _ _ _ _ _ _ _ _,nextM_right ih.2⟩
theorem ZcH (c:Cfg) (n:Nat) (DI DO:Nat->List Int) (N k:Nat):(stateP c n DI DO N k).1.length=N/\(stateP c n DI DO N k).2.length=N:=by
 cases k with
 | zero=>exact ⟨by simp [stateP],by simp [stateP]⟩
 | succ k=>exact ⟨by simp [stateP,nextW],by simp [stateP,nextM]⟩
theorem rateV_in {c:Cfg} (h:cfgB c=true) (step:Int) (h0:0<=step) (h1:step<=c.steps - 1):inB (rateV c step) 0 2147483647=true:=by
 have b:=rateV_bd h (in_yes ⟨h0,h1⟩)
 obtain ⟨_,_,_,_,_,⟨r1,r2⟩,_⟩:=Zal h
 exact in_yes ⟨b.1,by omega⟩
theorem push_len (c:Cfg) (hc:cfgB c=true) (n:Nat) (ws:List Int) (DI DO:Nat->List Int) (step:Int) (N:Nat) (hN:N<=200):pushL c n ws DI DO step N=(List.range N).map (clipG ((List.range N).map (meanG (gradG c n ws DI DO step) c.batch)) c.clip N)/\(pushL c n ws DI DO step N).length=N:=by
 obtain ⟨_,_,_,_,_,_,_,_,_,q1,q2⟩:=Zal hc
 have hE:clipE N c.clip=0:=by
  unfold clipE
  rw [if_neg (by omega),if_pos (by unfold inB; simp [q1,q2])]
 unfold pushL clipL
 rw [if_pos hE]
 exact ⟨rfl,by simp⟩
theorem batch_in (seed:Int) (B n s:Nat) (h1:1<=n) {k:Nat} (hk:k < B):∃ j:Nat,j < n/\(batchP seed B n s).getD k 0=(j:Int):=by
 have e:(batchP seed B n s).getD k 0=shufF seed ((s+k) / n) n ((s+k) % n):=by
  unfold batchP
  rw [ZaS _ hk]
  rfl
 have hm:shufF seed ((s+k) / n) n ((s+k) % n) ∈ (List.range n).map (shufF seed ((s+k) / n) n):=List.mem_map.2 ⟨_,List.mem_range.2 (Nat.mod_lt _ (by omega)),rfl⟩
 have hp:=(shufP_perm seed ((s+k) / n) n h1).mem_iff.1 hm
 obtain ⟨j,hj,hj2⟩:=List.mem_map.1 hp
 exact ⟨j,List.mem_range.1 hj,by rw [e,← hj2]; rfl⟩
theorem okL_take {xs:List Int} (h:okL xs) (k:Nat):okL (xs.take k):=by
 intro i hi
 rw [List.length_take] at hi
 have e:(xs.take k).getD i 0=xs.getD i 0:=by
  rw [List.getD_eq_getElem?_getD,List.getElem?_take_of_lt (by omega),← List.getD_eq_getElem?_getD]
 rw [e]; exact h i (by omega)
theorem okL_drop {xs:List Int} (h:okL xs) (k:Nat):okL (xs.drop k):=by
 intro i hi
 rw [List.length_drop] at hi
 have e:(xs.drop k).getD i 0=xs.getD (k+i) 0:=by
  rw [List.getD_eq_getElem?_getD,List.getElem?_drop,← List.getD_eq_getElem?_getD]
 rw [e]; exact h _ (by omega)
theorem okW_of_P {n:Int} (h:okP n):okW n:=⟨h.1,by have:=h.2; omega⟩
def cutN (n:Nat):Nat:=2 ^ Nat.log2 (n - 1)
theorem cutN_lt {n:Nat} (h:2<=n):1<=cutN n/\cutN n < n/\n<=cutN n+cutN n:=by
 have h1:2 ^ Nat.log2 (n - 1)<=n - 1:=Nat.log2_self_le (by omega)
 have h2:n - 1 < 2 ^ (Nat.log2 (n - 1)+1):=Nat.lt_log2_self
 have h3:0 < 2 ^ Nat.log2 (n - 1):=Nat.pow_pos (by omega)
 rw [Nat.pow_succ] at h2
 unfold cutN
 omega
theorem cutN_is {n j:Nat} (h:2 ^ j < n) (h2:n<=2 ^ j+2 ^ j):cutN n=2 ^ j:=by
 unfold cutN
 have e:Nat.log2 (n - 1)=j:=by
  rw [Nat.log2_eq_iff (by have : 0 < 2 ^ j := Nat.pow_pos (by omega)
                          omega)]
  rw [Nat.pow_succ]
  omega
 rw [e]
def treeF:Nat->List Int->Int
 | 0,l=>l.getD 0 0
 | f+1,l=>if l.length<=1 then l.getD 0 0 else ofP 3 [treeF f (l.take (cutN l.length)),treeF f (l.drop (cutN l.length))]
theorem Zby:∀ (f g:Nat) (l:List Int),l.length<=f->l.length<=g->treeF f l=treeF g l
 | 0,0,_,_,_=>rfl
 | 0,g+1,l,h,_=>by unfold treeF; rw [if_pos (by omega)]
 | f+1,0,l,_,h=>by unfold treeF; rw [if_pos (by omega)]
 | f + 1, g + 1, l, h1, h2 => by
   unfold treeF
   by_cases c:l.length<=1
   ·rw [if_pos c,if_pos c]
   ·rw [if_neg c,if_neg c]
    have:=cutN_lt (n:=l.length) (by omega)
    rw [Zby f g (l.take _) (by rw [List.length_take]; omega) (by rw [List.length_take]; omega),Zby f g (l.drop _) (by rw [List.length_drop]; omega) (by rw [List.length_drop]; omega)]
def treeP (l:List Int):Int:=treeF l.length l
theorem treeP_one {l:List Int} (h:l.length<=1):treeP l=l.getD 0 0:=by
 unfold treeP
 rw [Zby l.length (l.length+1) l nr (by omega)]
 unfold treeF
 rw [if_pos h]
theorem treeP_two {l:List Int} (h:2<=l.length):treeP l=ofP 3 [treeP (l.take (cutN l.length)),treeP (l.drop (cutN l.length))]:=by
 have:=cutN_lt h
 have e:treeP l=treeF (l.length+1) l:=Zby _ _ l nr (by omega)
 rw [e]
 rw [treeF,if_neg (by omega)]
 unfold treeP
 rw [Zby l.length (l.take _).length (l.take _) (by rw [List.length_take]; omega) nr,Zby l.length (l.drop _).length (l.drop _) (by rw [List.length_drop]; omega) nr]
theorem ZcI {l:List Int} (h:okL l) (h1:1<=l.length):okW (treeP l):=by
 by_cases c:l.length<=1
 ·rw [treeP_one c]; exact h 0 (by omega)
 ·rw [treeP_two (by omega)]; exact okW_of_P (ZbO _ _)
end Go.Proofs.YthmiojmlaclgaaaGreatDoor.Fx
