/- An append of one integer to a list that the program itself makes, and what it leaves of other blocks; no function of the program is spoken of. -/
import Derived.Test.YtkikhfdkibekgaaGreatJ02
import Derived.Maps.AppendAt
import Derived.Test.YtkikhfdkibekgaaGreatJ05
import Derived.Test.YtkikhfdkibekgaaGreatJ06
import Derived.Test.YtkikhfdkibekgaaGreatJ00
import Derived.Test.YtkikhfdkibekgaaGreatJ03
import Derived.Deep.Slices
import Derived.Test.YtkikhfdkibekgaaGreatJ01
namespace Go.Proofs.YtkikhfdkibekgaaGreat.Fx
open Go.RowKit

section
variable {w' : World} {ops : Array Oper} {o : Oper} {a : Act} {Q : Exit → Act → World → Prop}

theorem run_append_at (ty : TypeId) (base : Nat) (v : Value) (xs : List Int) (z : Int) (g : Nat) (hown : OwnI base w' v xs) (hc : w'.cell? ⟨g, 0, none⟩ = some (.int .i64 z)) (hn : (xs.length + 1) * 8 ≤ 140737488355328) (hbase : base ≤ w'.heap.size) :
    ∃ v' w1, (Builtin.append_ #[26, 26] ty #[v, .slice (some ⟨g, 0, none⟩) 1 1]).run Tryz.prog w' = .ok v' w1 ∧ OwnI base w1 v' (xs ++ [z]) ∧ w'.grownBy w1 v.ownBlock ∧ (v'.ownBlock = v.ownBlock ∨ v'.ownBlock = some w'.heap.size) := by
  obtain ⟨i0, hi, hz0, hz1, hz2⟩ := info_parts info3
  obtain ⟨v', w1, hrun, h1, h2, _, h3⟩ := run_append_own_at (P := Tryz.prog) w' base 26 ty 3 i0 (.int .i64 0) 1 8 Tryz.underlying26 hi hz0 hz1 hz2 rfl (by decide) v xs.length _ hown ⟨g, 0, none⟩ 1 1 [.int .i64 z] rfl
    (by intro j u hj
        match j, hj with
        | 0, hj => simp at hj; subst hj; simpa [Addr.add] using hc)
    (by intro u hu; simp at hu; subst hu; rfl) (by unfold maxLen; omega) hn hbase
  exact ⟨v', w1, hrun, by unfold OwnI; rw [List.length_append, List.map_append]; exact h1, h2, h3⟩

theorem wpList_append_at {rest : List Oper} (hgd : o.guard = none) (s x : Operand) (ho : o.op = .call { callee := .builtin .append, args := #[s, x], argTypes := #[26, 26] })
    (base : Nat) (v : Value) (xs : List Int) (z : Int) (g : Nat) (hs : a.eval s = v) (hx : a.eval x = .slice (some ⟨g, 0, none⟩) 1 1) (hown : OwnI base w' v xs) (hc : w'.cell? ⟨g, 0, none⟩ = some (.int .i64 z)) (hn : (xs.length + 1) * 8 ≤ 140737488355328) (hbase : base ≤ w'.heap.size)
    (h : ∀ v' w1, OwnI base w1 v' (xs ++ [z]) → w'.grownBy w1 v.ownBlock → (v'.ownBlock = v.ownBlock ∨ v'.ownBlock = some w'.heap.size) → wpList Tryz.prog ops Q rest (a.put o.dst v') w1) : wpList Tryz.prog ops Q (o :: rest) a w' := by
  obtain ⟨v', w1, hrun, h1, h2, h3⟩ := run_append_at o.type base v xs z g hown hc hn hbase
  refine wpList_plain hgd fun K hK => ?_
  unfold Oper.wp
  simp [execOp, ho, resolve, invoke, builtin, hs, hx, hrun, Result.andThen]
  exact hK _ _ (h v' w1 h1 h2 h3)

theorem step_append_at {K : Act → World → Prop} {E : Prop} (hgd : o.guard = none) (s x : Operand) (ho : o.op = .call { callee := .builtin .append, args := #[s, x], argTypes := #[26, 26] })
    (base : Nat) (v : Value) (xs : List Int) (z : Int) (g : Nat) (hs : a.eval s = v) (hx : a.eval x = .slice (some ⟨g, 0, none⟩) 1 1) (hown : OwnI base w' v xs) (hc : w'.cell? ⟨g, 0, none⟩ = some (.int .i64 z)) (hn : (xs.length + 1) * 8 ≤ 140737488355328) (hbase : base ≤ w'.heap.size)
    (h : ∀ v' w1, OwnI base w1 v' (xs ++ [z]) → w'.grownBy w1 v.ownBlock → (v'.ownBlock = v.ownBlock ∨ v'.ownBlock = some w'.heap.size) → K (a.put o.dst v') w1) :
    if Region.wanted o (yielded ops a.tmps) = true then Oper.wp Tryz.prog o a w' K Q else E := by
  obtain ⟨v', w1, hrun, h1, h2, h3⟩ := run_append_at o.type base v xs z g hown hc hn hbase
  have hw : Region.wanted o (yielded ops a.tmps) = true := by simp [Region.wanted, hgd]
  rw [if_pos hw]
  unfold Oper.wp
  simp [execOp, ho, resolve, invoke, builtin, hs, hx, hrun, Result.andThen]
  exact h v' w1 h1 h2 h3
end

/-- Of two own slices: they don't lie in one block. -/
def Apart (x y : Value) : Prop := y.ownBlock = none ∨ y.ownBlock ≠ x.ownBlock
theorem Apart.symm {x y : Value} (h : Apart x y) : Apart y x := by
  unfold Apart at *
  rcases h with h | h
  · rw [h]
    cases e : x.ownBlock with
    | none => exact .inl rfl
    | some b => exact .inr (by simp)
  · exact .inr (fun e => h e.symm)
theorem OwnI.blk {base : Nat} {w : World} {y : Value} {xs : List Int} (h : OwnI base w y xs) : y.ownBlock = none ∨ ∃ g, y.ownBlock = some g ∧ base ≤ g ∧ g < w.heap.size := by
  rcases h.2 with ⟨rfl, _⟩ | ⟨g, cap, cur, rfl, hg, hh, _⟩
  · exact .inl rfl
  · exact .inr ⟨g, rfl, hg, (Array.getElem?_eq_some_iff.1 hh).1⟩
theorem OwnI.kept {base : Nat} {w w1 : World} {y : Value} {xs : List Int} {row : Option Nat} (h : OwnI base w y xs) (hg : w.grownBy w1 row) (hne : y.ownBlock = none ∨ y.ownBlock ≠ row) : OwnI base w1 y xs := World.ownsRow.kept h hg hne
theorem grown_trans {w w1 w2 : World} {row : Option Nat} {b : Nat} (h1 : w.grownBy w1 (some b)) (h2 : w1.grownBy w2 row) (hr : ∀ k, row = some k → w.heap.size ≤ k ∨ k = b) : w.grownBy w2 (some b) :=
  ⟨h2.os.trans h1.os, h2.tape.trans h1.tape, h2.output.trans h1.output, Nat.le_trans h1.size h2.size, fun k hk hne => by
    refine (h2.block k (Nat.lt_of_lt_of_le hk h1.size) (fun e => ?_)).trans (h1.block k hk hne)
    rcases hr k e.symm with h | h
    · omega
    · exact hne (by rw [h])⟩
theorem grown_below {w w1 w2 : World} {b : Nat} (h1 : w.grownBy w1 (some b)) (h2 : Below w1.heap.size w1 w2) : w.grownBy w2 (some b) :=
  ⟨h2.os.trans h1.os, h2.tape.trans h1.tape, h2.output.trans h1.output, Nat.le_trans h1.size h2.size, fun k hk hne => (h2.block k (Nat.lt_of_lt_of_le hk h1.size)).trans (h1.block k hk hne)⟩
theorem OwnI.at {base : Nat} {w : World} {a : Option Addr} {n c : Nat} {L : List Int} (h : OwnI base w (.slice a n c) L) (hl : L.length = n) (hn : 0 < n) : ∃ g, a = some ⟨g, 0, none⟩ ∧ base ≤ g ∧ Lst w (some ⟨g, 0, none⟩) n c L := by
  obtain ⟨a', c', e, hL⟩ := h.lst' hl
  simp only [Value.slice.injEq] at e
  obtain ⟨rfl, _, rfl⟩ := e
  rcases h.2 with ⟨hv, _⟩ | ⟨g, cap, cur, hv, hg, _⟩
  · simp only [Value.slice.injEq] at hv
    omega
  · simp only [Value.slice.injEq] at hv
    obtain ⟨rfl, _, _⟩ := hv
    exact ⟨g, rfl, hg, hL⟩
theorem grown1 {w w1 : World} {b : Nat} (h : w.grownBy w1 (some b)) (i : Nat) (v : Value) : w.grownBy (w1.setCell ⟨b, i, none⟩ v) (some b) :=
  ⟨h.os, h.tape, h.output, by simpa using h.size, fun k hk hne => (Go.Deep.blk_setCell_other _ _ _ _ (by simpa using hne)).trans (h.block k hk hne)⟩
theorem Lst.grown {w w' : World} {g off n c b : Nat} {xs : List Int} (h : Lst w (some ⟨g, off, none⟩) n c xs) (hg : w.grownBy w' (some b)) (hne : g ≠ b) : Lst w' (some ⟨g, off, none⟩) n c xs := by
  refine ⟨h.1, h.2.1, ?_⟩
  rcases h.2.2 with h0 | ⟨b', off', e, hs, hc⟩
  · exact .inl h0
  · simp only [Option.some.injEq, Addr.mk.injEq, and_true] at e
    obtain ⟨rfl, rfl⟩ := e
    exact .inr ⟨g, off, rfl, Nat.lt_of_lt_of_le hs hg.size, fun i hi => hg.cell (hc i hi) (by simpa using hne)⟩

theorem low_alloc (w : World) (o : Obj) : Below w.heap.size w (w.alloc o) := (Below.refl _ _).alloc (Nat.le_refl _) o
end Go.Proofs.YtkikhfdkibekgaaGreat.Fx

/- What pupil.Grad returns. -/
namespace Go.Proofs.YtkikhfdkibekgaaGreat.Fx
open Go.RowKit

/-- What is to be learnt: of the hidden ones; and all of it. -/
def graG (d : PD) (xs ys : List Int) (I H O k : Nat) : Int := if (hidL d xs I H).getD k 0 = 0 then 0 else backG d.X2 (difL d xs ys I H O) O H k
def graL (d : PD) (xs ys : List Int) (I H O : Nat) : List Int := (List.range H).map (graG d xs ys I H O)
def graD (d : PD) (xs ys : List Int) (I H O : Nat) : PD :=
  ⟨(List.range (H * I)).map (outerG (graL d xs ys I H O) xs I), (List.range (O * H)).map (outerG (difL d xs ys I H O) (hidL d xs I H) H), graL d xs ys I H O, difL d xs ys I H O⟩

theorem grown8 (w : World) (b : Nat) (v0 v1 v2 v3 v4 v5 v6 v7 : Value) :
    w.grownBy ((((((((w.setCell ⟨b, 0, none⟩ v0).setCell ⟨b, 1, none⟩ v1).setCell ⟨b, 2, none⟩ v2).setCell ⟨b, 3, none⟩ v3).setCell ⟨b, 4, none⟩ v4).setCell ⟨b, 5, none⟩ v5).setCell ⟨b, 6, none⟩ v6).setCell ⟨b, 7, none⟩ v7) (some b) :=
  grown1 (grown1 (grown1 (grown1 (grown1 (grown1 (grown1 (grown1 (World.grownBy.refl w _) 0 v0) 1 v1) 2 v2) 3 v3) 4 v4) 5 v5) 6 v6) 7 v7


set_option maxHeartbeats 1600000 in
theorem pgrad_bad (p : Pup) (d : PD) (x : Exm) (w : World) (hp : InPup w p d) (hne : exI p d x.n x.m ≠ 0) :
    Calls Tryz.prog 63 #[p.val, x.val] w fun e w' => e = .returned (.tuple #[noPup.val, .int .i64 (exI p d x.n x.m)]) ∧ Below w.heap.size w w' := by
  have hal0 := low_alloc w (.cells p.cells 107)
  have hal1 := hal0.alloc hal0.size (.cells #[.slice x.a x.n x.k, .slice x.b x.m x.t] 51)
  have hal := hal1.alloc hal1.size (.cells #[.int .i64 0, .int .i64 0, .slice none 0 0, .int .i64 0, .int .i64 0, .slice none 0 0, .slice none 0 0, .slice none 0 0] 107)
  have hcall := pboth_calls p d x _ (hp.below hal (Nat.le_refl _))
  have hst := fn8_alloc ((w.alloc (.cells p.cells 107)).alloc (.cells #[.slice x.a x.n x.k, .slice x.b x.m x.t] 51)) (.int .i64 0) (.int .i64 0) (.slice none 0 0) (.int .i64 0) (.int .i64 0) (.slice none 0 0) (.slice none 0 0) (.slice none 0 0) 107
  clear hal0 hal1 hp
  have hE' : (exI p d x.n x.m != 0) = true := by rw [bne_iff_ne]; exact hne
  generalize exI p d x.n x.m = E at *
  obtain ⟨r1, c1, a1, n1, k1, r2, c2, a2, n2, k2, d1, m1, t1, d2, m2, t2⟩ := p
  obtain ⟨xa, xn, xk, xb, xm, xt⟩ := x
  simp only [Pup.val, Pup.cells, Exm.val] at *
  simp at hst
  go_enter Tryz.func63, Tryz.ntmps63
  go_wp2_with fail
  refine hcall.mono ?_
  rintro e w1 ⟨rfl, hw1⟩
  have hst1 := rowIs_below hst hw1 (by simp)
  obtain ⟨f0, f1, f2, f3, f4, f5, f6, f7⟩ := fn8_box hst1
  have g0 := hst1.frozen 0
  have g1 := hst1.frozen 1
  have g2 := hst1.frozen 2
  have g3 := hst1.frozen 3
  have g4 := hst1.frozen 4
  have g5 := hst1.frozen 5
  have g6 := hst1.frozen 6
  have g7 := hst1.frozen 7
  have hbw := hal.trans (hw1.mono hal.size)
  have hb8 := (((((((hbw.setCell (p := ⟨w.heap.size + 1 + 1, 0, none⟩) (by simp; omega) (.int .i64 0)).setCell (p := ⟨w.heap.size + 1 + 1, 1, none⟩) (by simp; omega) (.int .i64 0)).setCell (p := ⟨w.heap.size + 1 + 1, 2, none⟩) (by simp; omega) (.slice none 0 0)).setCell (p := ⟨w.heap.size + 1 + 1, 3, none⟩) (by simp; omega) (.int .i64 0)).setCell (p := ⟨w.heap.size + 1 + 1, 4, none⟩) (by simp; omega) (.int .i64 0)).setCell (p := ⟨w.heap.size + 1 + 1, 5, none⟩) (by simp; omega) (.slice none 0 0)).setCell (p := ⟨w.heap.size + 1 + 1, 6, none⟩) (by simp; omega) (.slice none 0 0)).setCell (p := ⟨w.heap.size + 1 + 1, 7, none⟩) (by simp; omega) (.slice none 0 0)
  have hst8 := fn8_set8 hst1 (.int .i64 0) (.int .i64 0) (.slice none 0 0) (.int .i64 0) (.int .i64 0) (.slice none 0 0) (.slice none 0 0) (.slice none 0 0)
  clear hcall hw1 hal hst
  go_wp2
  refine (fun (key : ∀ wz : World, wz.rowIs (w.heap.size + 1 + 1) 107 8 (fn8 (.int .i64 0) (.int .i64 0) (.slice none 0 0) (.int .i64 0) (.int .i64 0) (.slice none 0 0) (.slice none 0 0) (.slice none 0 0)) → Below w.heap.size w wz → bodyPost Tryz.prog Tryz.f63 _ Exit.ret _ wz) => (by first | exact key _ hst8 hb8 | exact key _ hst1 hbw)) ?_
  clear hst1 hbw hst8 hb8 f0 f1 f2 f3 f4 f5 f6 f7
  intro wz hq hbq
  obtain ⟨q0, q1, q2, q3, q4, q5, q6, q7⟩ := fn8_box hq
  exact bodyPost_ret (v := .tuple #[noPup.val, .int .i64 E]) (by simp [results, Tryz.results63, go_sem, noPup, Pup.val, Pup.cells, q0, q1, q2, q3, q4, q5, q6, q7]) rfl ⟨rfl, hbq⟩

set_option maxHeartbeats 3200000 in
theorem pgrad_good (I H O : Nat) (a1 : Option Addr) (k1 : Nat) (a2 : Option Addr) (k2 : Nat) (d1 : Option Addr) (e1 : Nat) (d2 : Option Addr) (e2 : Nat) (d : PD) (v : Option Addr) (cv : Nat) (xs : List Int) (u : Option Addr) (cu : Nat) (ys : List Int) (w : World) (h : InPup w (rpup I H O a1 k1 a2 k2 d1 e1 d2 e2) d) (hv : Lst w v I cv xs) (hu : Lst w u O cu ys) (hr : RightD d) (i1 : 1 ≤ I) (i2 : I ≤ 4) (j1 : 1 ≤ H) (j2 : H ≤ 4) (o1 : 1 ≤ O) (o2 : O ≤ 4) :
    Calls Tryz.prog 63 #[(rpup I H O a1 k1 a2 k2 d1 e1 d2 e2).val, .agg #[.slice v I cv, .slice u O cu]] w fun e w' => ∃ x1 x2 y1 y2, e = .returned (.tuple #[(rpup I H O x1 (H * I) x2 (O * H) y1 H y2 O).val, .int .i64 0]) ∧ InPup w' (rpup I H O x1 (H * I) x2 (O * H) y1 H y2 O) (graD d xs ys I H O) ∧ Below w.heap.size w w' := by
  have hal0 := low_alloc w (.cells (rpup I H O a1 k1 a2 k2 d1 e1 d2 e2).cells 107)
  have hal1 := hal0.alloc hal0.size (.cells #[.slice v I cv, .slice u O cu] 51)
  have hal := hal1.alloc hal1.size (.cells #[.int .i64 0, .int .i64 0, .slice none 0 0, .int .i64 0, .int .i64 0, .slice none 0 0, .slice none 0 0, .slice none 0 0] 107)
  have hst := fn8_alloc ((w.alloc (.cells (rpup I H O a1 k1 a2 k2 d1 e1 d2 e2).cells 107)).alloc (.cells #[.slice v I cv, .slice u O cu] 51)) (.int .i64 0) (.int .i64 0) (.slice none 0 0) (.int .i64 0) (.int .i64 0) (.slice none 0 0) (.slice none 0 0) (.slice none 0 0) 107
  have hc0 := pboth_calls _ d ⟨v, I, cv, u, O, cu⟩ _ (h.below hal (Nat.le_refl _))
  have hz : exI (rpup I H O a1 k1 a2 k2 d1 e1 d2 e2) d I O = 0 := by
    unfold exI
    rw [if_pos (pchk_right i1 i2 j1 j2 o1 o2 hr), if_pos ⟨rfl, rfl⟩]
  rw [hz] at hc0
  have HC1 : Hid (∀ q, Below w.heap.size w q → Calls Tryz.prog 85 #[(rpup I H O a1 k1 a2 k2 d1 e1 d2 e2).val, .slice v I cv] q fun e w' => ∃ ah ay, e = .returned (.tuple #[.slice ah H H, .slice ay O O]) ∧ Lst w' ah H H (hidL d xs I H) ∧ Lst w' ay O O (outYL d xs I H O) ∧ Below q.heap.size q w') :=
    fun q hq => forward_calls I H O a1 k1 a2 k2 d1 e1 d2 e2 d v cv xs q (h.below hq (Nat.le_refl _)) (hv.below hq (Nat.le_refl _)) hr i1 i2 j1 j2 o1 o2
  have HC2 : Hid (∀ q ad, Below w.heap.size w q → Lst q ad O O (difL d xs ys I H O) → Calls Tryz.prog 87 #[.agg #[.int .i64 O, .int .i64 H, .slice a2 (O * H) k2], .slice ad O O] q fun e w' => ∃ g, e = .returned (.tuple #[.slice (some ⟨g, 0, none⟩) H H, .int .i64 0]) ∧ q.heap.size ≤ g ∧ w'.rowIs g 3 H (rowTo (backG d.X2 (difL d xs ys I H O) O H) H) ∧ Below q.heap.size q w') :=
    fun q ad hq hl => vBack_row O H a2 k2 d.X2 ad O _ q (h.below hq (Nat.le_refl _)).x2 hl o1 o2 j1 j2 hr.2.1
  have HV : Hid (∀ q, Below w.heap.size w q → Lst q v I cv xs) := fun q hq => hv.below hq (Nat.le_refl _)
  have HU : Hid (∀ q, Below w.heap.size w q → Lst q u O cu ys) := fun q hq => hu.below hq (Nat.le_refl _)
  clear h hv hu hz hal0 hal1
  simp only [Pup.val, Pup.cells, rpup, Exm.val] at *
  simp at hst
  generalize hB : (((w.alloc (.cells #[.int .i64 H, .int .i64 I, .slice a1 (H * I) k1, .int .i64 O, .int .i64 H, .slice a2 (O * H) k2, .slice d1 H e1, .slice d2 O e2] 107)).alloc (.cells #[.slice v I cv, .slice u O cu] 51)).alloc (.cells #[.int .i64 0, .int .i64 0, .slice none 0 0, .int .i64 0, .int .i64 0, .slice none 0 0, .slice none 0 0, .slice none 0 0] 107)) = W3 at hal hst hc0
  have hWs : W3.heap.size = w.heap.size + 1 + 1 + 1 := by rw [← hB]; simp
  have KA : Hid (∀ q, Below W3.heap.size W3 q → Box8 q w.heap.size (.int .i64 H) (.int .i64 I) (.slice a1 (H * I) k1) (.int .i64 O) (.int .i64 H) (.slice a2 (O * H) k2) (.slice d1 H e1) (.slice d2 O e2)) := by
    intro q hq
    rw [hWs, ← hB] at hq
    exact boxA (B := w.heap.size + 1) (((Below.refl _ _).alloc (by simp) _).trans (hq.mono (by omega))) (by omega)
  have KE : Hid (∀ q, Below W3.heap.size W3 q → q.cell? ⟨w.heap.size + 1, 0, none⟩ = some (.slice v I cv) ∧ q.cell? ⟨w.heap.size + 1, 1, none⟩ = some (.slice u O cu)) := by
    intro q hq
    rw [hWs, ← hB] at hq
    exact boxE (B := w.heap.size + 1 + 1) (((Below.refl _ _).alloc (by simp) _).trans (hq.mono (by omega))) (by omega)
  have KR : Hid (∀ q, Below W3.heap.size W3 q → q.rowIs (w.heap.size + 1 + 1) 107 8 (fn8 (.int .i64 0) (.int .i64 0) (.slice none 0 0) (.int .i64 0) (.int .i64 0) (.slice none 0 0) (.slice none 0 0) (.slice none 0 0))) := fun q hq => rowIs_below hst hq (by omega)
  have KW : Hid (∀ q, Below W3.heap.size W3 q → Below w.heap.size w q) := fun q hq => hal.trans (hq.mono hal.size)
  have hB' : (((w.alloc (.cells #[.int .i64 H, .int .i64 I, .slice a1 (H * I) k1, .int .i64 O, .int .i64 H, .slice a2 (O * H) k2, .slice d1 H e1, .slice d2 O e2] 107)).alloc (.cells #[.slice v I cv, .slice u O cu] 51)).alloc (.cells #[.int .i64 0, .int .i64 0, .slice none 0 0, .int .i64 0, .int .i64 0, .slice none 0 0, .slice none 0 0, .slice none 0 0] 107)) = W3 := hB
  have HB : Hid ((((w.alloc (.cells #[.int .i64 H, .int .i64 I, .slice a1 (H * I) k1, .int .i64 O, .int .i64 H, .slice a2 (O * H) k2, .slice d1 H e1, .slice d2 O e2] 107)).alloc (.cells #[.slice v I cv, .slice u O cu] 51)).alloc (.cells #[.int .i64 0, .int .i64 0, .slice none 0 0, .int .i64 0, .int .i64 0, .slice none 0 0, .slice none 0 0, .slice none 0 0] 107)) = W3) := hB
  clear hB hB' hst hal
  have s1 := prod_sideN j2 i2
  have s2 := prod_sideN o2 j2
  go_enter Tryz.func63, Tryz.ntmps63
  go_wp2_with fail
  rw [HB.out]
  refine hc0.mono ?_
  rintro e w1 ⟨rfl, T1⟩
  obtain ⟨f0, f1, f2, f3, f4, f5, f6, f7⟩ := KA.out _ T1
  obtain ⟨x0, x1⟩ := KE.out _ T1
  have hc1 := HC1.out _ (KW.out _ T1)
  clear hc0
  go_wp2_with fail
  refine hc1.mono ?_
  rintro e w2 ⟨ah, ay, rfl, hh, hy, hw2⟩
  have T2 := T1.trans (hw2.mono T1.size)
  clear hc1 hw2 T1 f0 f1 f2 f3 f4 f5 f6 f7 x0 x1
  obtain ⟨x0, x1⟩ := KE.out _ T2
  have hc2 := less_calls ay u O O cu _ ys w2 hy (HU.out _ (KW.out _ T2)) (by omega)
  go_wp2_with fail
  refine hc2.mono ?_
  rintro e w3 ⟨gd, rfl, hgd, hd, hw3⟩
  have hh3 := hh.below hw3 (Nat.le_refl _)
  have T3 := T2.trans (hw3.mono T2.size)
  have hd3 : Lst w3 (some ⟨gd, 0, none⟩) O O (difL d xs ys I H O) := hd
  have hgd' : W3.heap.size ≤ gd := Nat.le_trans T2.size hgd
  have hg3' : W3.heap.size ≤ w3.heap.size := T3.size
  clear hc2 hw3 T2 x0 x1 hh hy hd
  obtain ⟨f0, f1, f2, f3, f4, f5, f6, f7⟩ := KA.out _ T3
  have hc3 := HC2.out _ (some ⟨gd, 0, none⟩) (KW.out _ T3) hd3
  go_wp2_with fail
  refine hc3.mono ?_
  rintro e w4 ⟨g, rfl, hg, hrow, hw4⟩
  clear hc3 f0 f1 f2 f3 f4 f5 f6 f7
  go_wp2
  go_loopw [44] (fun i wr => ∃ k : Nat, k ≤ H ∧ i = .int .i64 k ∧ wr.rowIs g 3 H (midTo (graG d xs ys I H O) (backG d.X2 (difL d xs ys I H O) O H) k) ∧ Below w3.heap.size w3 wr) (fun i _ => H - (intOf i).toNat)
  case atStart => exact ⟨0, Nat.zero_le _, rfl, midTo_start hrow, hw4⟩
  case round =>
    obtain ⟨k, hk, rfl, hrow, hbel⟩ := hrel
    by_cases hlt : k < H
    · have c3 := midTo_cell hrow hlt
      have f3 := hrow.frozen k
      obtain ⟨b1, o1', x, rfl, sb1, c1, HX⟩ := hh3.at1b hbel (Nat.le_refl _) hlt
      by_cases hx : x = 0
      · have hx' : (x == 0) = true := by simpa using hx
        have HG : Hid (graG d xs ys I H O k = 0) := by show (if (hidL d xs I H).getD k 0 = 0 then 0 else backG d.X2 (difL d xs ys I H O) O H k) = 0; rw [HX.out]; exact if_pos hx
        clear hx
        go_wp2
        go_roundw
        case rel =>
          have st := midTo_step hrow
          rw [HG.out] at st
          exact ⟨k + 1, by omega, by go_num, st, hbel.setCell (by exact hg) _⟩
        case measure => simp [intOf]; omega
      · have hx' : (x == 0) = false := by simpa using hx
        have HG : Hid (graG d xs ys I H O k = backG d.X2 (difL d xs ys I H O) O H k) := by show (if (hidL d xs I H).getD k 0 = 0 then 0 else backG d.X2 (difL d xs ys I H O) O H k) = _; rw [HX.out]; exact if_neg hx
        go_wp2
        go_roundw
        case rel => exact ⟨k + 1, by omega, by go_num, midTo_skip hrow HG.out, hbel⟩
        case measure => simp [intOf]; omega
    · obtain rfl : k = H := by omega
      have hgl : Lst wr (some ⟨g, 0, none⟩) k k (graL d xs ys I k O) := midTo_end hrow
      have T5 := T3.trans (hbel.mono T3.size)
      have hh5 := hh3.below hbel (Nat.le_refl _)
      have hd5 := hd3.below hbel (Nat.le_refl _)
      clear hrow hbel hh3 hd3 hw4 T3
      obtain ⟨x0, x1⟩ := KE.out _ T5
      have hc5 := vOuter_good (some ⟨g, 0, none⟩) v k k I cv _ xs wr hgl (HV.out _ (KW.out _ T5)) j1 j2 i1 i2
      go_wp2_with fail
      refine hc5.mono ?_
      rintro e w6 ⟨gw1, rfl, hgw1, hl6, hw6⟩
      have T6 := T5.trans (hw6.mono T5.size)
      have hal6 := low_alloc w6 (.cells #[.int .i64 k, .int .i64 I, .slice (some ⟨gw1, 0, none⟩) (k * I) (k * I)] 105)
      have T7 := T6.trans (hal6.mono T6.size)
      have hb67 := hw6.trans (hal6.mono hw6.size)
      have hc7 := vOuter_good (some ⟨gd, 0, none⟩) ah O O k k _ _ _ (hd5.below hb67 (Nat.le_refl _)) (hh5.below hb67 (Nat.le_refl _)) o1 o2 j1 j2
      clear hc5 x0 x1
      go_wp2_with fail
      refine hc7.mono ?_
      rintro e w8 ⟨gw2, rfl, hgw2, hl8, hw8⟩
      have hal8 := low_alloc w8 (.cells #[.int .i64 O, .int .i64 k, .slice (some ⟨gw2, 0, none⟩) (O * k) (O * k)] 105)
      have T8 := T7.trans (hw8.mono T7.size)
      have T9 := T8.trans (hal8.mono T8.size)
      have hb79 := hw8.trans (hal8.mono hw8.size)
      obtain ⟨m0, m1, m2⟩ := box3 _ _ _ _ hb79 (by simp)
      have hg9 := (hgl.below hb67 (Nat.le_refl _)).below hb79 (Nat.le_refl _)
      have hd9 := (hd5.below hb67 (Nat.le_refl _)).below hb79 (Nat.le_refl _)
      have hl69 := (hl6.below hal6 (Nat.le_refl _)).below hb79 (Nat.le_refl _)
      have hl89 := hl8.below hal8 (Nat.le_refl _)
      have hr9 := KR.out _ T9
      obtain ⟨q0, q1, q2, q3, q4, q5, q6, q7⟩ := fn8_box hr9
      have g0 := hr9.frozen 0
      have g1 := hr9.frozen 1
      have g2 := hr9.frozen 2
      have g3 := hr9.frozen 3
      have g4 := hr9.frozen 4
      have g5 := hr9.frozen 5
      have g6 := hr9.frozen 6
      have g7 := hr9.frozen 7
      have hw1s : W3.heap.size ≤ gw1 := Nat.le_trans T5.size hgw1
      have hw2s : W3.heap.size ≤ gw2 := Nat.le_trans T7.size hgw2
      have hgs : W3.heap.size ≤ g := Nat.le_trans hg3' hg
      clear hc7 hb67 hb79 hgl hd5 hh5 hl6 hl8 T5 T6 T7 T8 hal6 hal8 hw6 hw8
      go_wp2
      have hq := fn8_set8 hr9 (.int .i64 k) (.int .i64 I) (.slice (some ⟨gw1, 0, none⟩) (k * I) (k * I)) (.int .i64 O) (.int .i64 k) (.slice (some ⟨gw2, 0, none⟩) (O * k) (O * k)) (.slice (some ⟨g, 0, none⟩) k k) (.slice (some ⟨gd, 0, none⟩) O O)
      have hgr := grown8 (w8.alloc (.cells #[.int .i64 O, .int .i64 k, .slice (some ⟨gw2, 0, none⟩) (O * k) (O * k)] 105)) (w.heap.size + 1 + 1) (.int .i64 k) (.int .i64 I) (.slice (some ⟨gw1, 0, none⟩) (k * I) (k * I)) (.int .i64 O) (.int .i64 k) (.slice (some ⟨gw2, 0, none⟩) (O * k) (O * k)) (.slice (some ⟨g, 0, none⟩) k k) (.slice (some ⟨gd, 0, none⟩) O O)
      refine (fun (key : ∀ wz : World, wz.rowIs (w.heap.size + 1 + 1) 107 8 (fn8 (.int .i64 k) (.int .i64 I) (.slice (some ⟨gw1, 0, none⟩) (k * I) (k * I)) (.int .i64 O) (.int .i64 k) (.slice (some ⟨gw2, 0, none⟩) (O * k) (O * k)) (.slice (some ⟨g, 0, none⟩) k k) (.slice (some ⟨gd, 0, none⟩) O O)) → (w8.alloc (.cells #[.int .i64 O, .int .i64 k, .slice (some ⟨gw2, 0, none⟩) (O * k) (O * k)] 105)).grownBy wz (some (w.heap.size + 1 + 1)) → bodyPost Tryz.prog Tryz.f63 _ Exit.ret _ wz) => key _ hq hgr) ?_
      clear hq hgr hr9 q0 q1 q2 q3 q4 q5 q6 q7 g0 g1 g2 g3 g4 g5 g6 g7 m0 m1 m2
      intro wz hq hgr
      obtain ⟨q0, q1, q2, q3, q4, q5, q6, q7⟩ := fn8_box hq
      have hbw := KW.out _ T9
      refine bodyPost_ret (v := .tuple #[(rpup I k O (some ⟨gw1, 0, none⟩) (k * I) (some ⟨gw2, 0, none⟩) (O * k) (some ⟨g, 0, none⟩) k (some ⟨gd, 0, none⟩) O).val, .int .i64 0]) (by simp [results, Tryz.results63, go_sem, rpup, Pup.val, Pup.cells, q0, q1, q2, q3, q4, q5, q6, q7]) rfl ⟨some ⟨gw1, 0, none⟩, some ⟨gw2, 0, none⟩, some ⟨g, 0, none⟩, some ⟨gd, 0, none⟩, rfl, ⟨?_, ?_, ?_, ?_⟩, hbw.grown hgr hbw.size (fun k hk => by simp at hk; omega)⟩
      · exact hl69.grown hgr (by omega)
      · exact hl89.grown hgr (by omega)
      · exact hg9.grown hgr (by omega)
      · exact hd9.grown hgr (by omega)
end Go.Proofs.YtkikhfdkibekgaaGreat.Fx

/- A course in plain numbers: what Check, Start, Next and Run tell of right things; and how examples and states lie in memory; no function of the program is spoken of. -/
namespace Go.Proofs.YtkikhfdkibekgaaGreat.Fx
open Go.RowKit

/-- A slice of examples: where each one's lists lie, and their numbers. -/
def Exs (w : World) (a : Option Addr) (n cap : Nat) (X : Nat → Exm) (DI DO : Nat → List Int) : Prop :=
  n ≤ cap ∧ (n = 0 ∨ ∃ b off, a = some ⟨b, off, none⟩ ∧ b < w.heap.size ∧ ∀ i, i < n → w.cell? ⟨b, off + i * 2, none⟩ = some (.slice (X i).a (X i).n (X i).k) ∧ w.cell? ⟨b, off + i * 2 + 1, none⟩ = some (.slice (X i).b (X i).m (X i).t) ∧ InEx w (X i) (DI i) (DO i))
theorem Exs.below {w w' : World} {a : Option Addr} {n c : Nat} {X : Nat → Exm} {DI DO : Nat → List Int} {B : Nat} (h : Exs w a n c X DI DO) (hb : Below B w w') (hB : w.heap.size ≤ B) : Exs w' a n c X DI DO := by
  refine ⟨h.1, ?_⟩
  rcases h.2 with h0 | ⟨b, off, e, hs, hc⟩
  · exact .inl h0
  · exact .inr ⟨b, off, e, Nat.lt_of_lt_of_le hs hb.size, fun i hi =>
      ⟨(hb.cell (p := ⟨b, off + i * 2, none⟩) (Nat.lt_of_lt_of_le hs hB)).trans (hc i hi).1, (hb.cell (p := ⟨b, off + i * 2 + 1, none⟩) (Nat.lt_of_lt_of_le hs hB)).trans (hc i hi).2.1, (hc i hi).2.2.below hb hB⟩⟩
theorem Exs.drewN {w : World} {a : Option Addr} {n c : Nat} {X : Nat → Exm} {DI DO : Nat → List Int} (h : Exs w a n c X DI DO) (k : Nat) : Exs (w.drewN k) a n c X DI DO := h.below (below_drewN (Below.refl w.heap.size w) k) (Nat.le_refl _)
theorem Exs.at {w : World} {a : Option Addr} {n c : Nat} {X : Nat → Exm} {DI DO : Nat → List Int} (h : Exs w a n c X DI DO) {i : Nat} (hi : i < n) :
    ∃ b off, a = some ⟨b, off, none⟩ ∧ w.cell? ⟨b, off + i * 2, none⟩ = some (.slice (X i).a (X i).n (X i).k) ∧ w.cell? ⟨b, off + i * 2 + 1, none⟩ = some (.slice (X i).b (X i).m (X i).t) ∧ InEx w (X i) (DI i) (DO i) := by
  rcases h.2 with h0 | ⟨b, off, e, _, hc⟩
  · omega
  · exact ⟨b, off, e, hc i hi⟩

/-- Whether an example is one of the config. -/
def exB (c : Cfg) (x : Exm) (I O : List Int) : Bool := decide ((x.n : Int) = c.i) && decide ((x.m : Int) = c.o) && rightB I && rightB O
def allEx (c : Cfg) (n : Nat) (X : Nat → Exm) (DI DO : Nat → List Int) : Bool := (List.range n).all fun i => exB c (X i) (DI i) (DO i)
theorem allEx_yes {c : Cfg} {n : Nat} {X : Nat → Exm} {DI DO : Nat → List Int} (h : ∀ i, i < n → exB c (X i) (DI i) (DO i) = true) : allEx c n X DI DO = true := by
  unfold allEx; rw [List.all_eq_true]; exact fun i hi => h i (List.mem_range.1 hi)
theorem allEx_no {c : Cfg} {n i : Nat} {X : Nat → Exm} {DI DO : Nat → List Int} (hi : i < n) (h : exB c (X i) (DI i) (DO i) = false) : allEx c n X DI DO = false := by
  unfold allEx; rw [List.all_eq_false]; exact ⟨i, List.mem_range.2 hi, by rw [h]; decide⟩
theorem allEx_is {c : Cfg} {n : Nat} {X : Nat → Exm} {DI DO : Nat → List Int} (h : allEx c n X DI DO = true) {i : Nat} (hi : i < n) : exB c (X i) (DI i) (DO i) = true := by
  unfold allEx at h; rw [List.all_eq_true] at h; exact h i (List.mem_range.2 hi)
theorem exB_is {c : Cfg} {x : Exm} {I O : List Int} (h : exB c x I O = true) : (x.n : Int) = c.i ∧ (x.m : Int) = c.o ∧ rightB I = true ∧ rightB O = true := by
  simp only [exB, Bool.and_eq_true, decide_eq_true_eq] at h
  exact ⟨h.1.1.1, h.1.1.2, h.1.2, h.2⟩
def courseI (c : Cfg) (n : Nat) (X : Nat → Exm) (DI DO : Nat → List Int) : Int :=
  if cfgB c = true then (if n = 0 then 1 else if 16 < n then 2 else if allEx c n X DI DO = true then 0 else 5) else 1

/-- Start: the first weights. -/
def startG (seed : Int) (i : Nat) : Int := ofP 2 [seed, 1000 + (i : Int)] % 131073 - 65536
def zeroG (_ : Nat) : Int := 0
theorem startG_bd (seed : Int) (i : Nat) : -65536 ≤ startG seed i ∧ startG seed i ≤ 65536 := by
  unfold startG
  have := Int.emod_nonneg (ofP 2 [seed, 1000 + (i : Int)]) (b := 131073) (by omega)
  have := Int.emod_lt_of_pos (ofP 2 [seed, 1000 + (i : Int)]) (b := 131073) (by omega)
  omega

/-- The gradients of a batch, added one by one; their mean. -/
def accTo (f : Nat → Nat → Int) : Nat → Nat → Int
  | 0, _ => 0
  | k + 1, i => addI (accTo f k i) (f k i)
def gradOf (I H O : Nat) (ws : List Int) (DI DO : Nat → List Int) (j : Nat) : List Int := flatD (graD (cutD I H O ws) (DI j) (DO j) I H O)
def meanG (f : Nat → Nat → Int) (b : Int) (i : Nat) : Int := divI (accTo f b.toNat i) (b * 65536)
def gradG (c : Cfg) (n : Nat) (ws : List Int) (DI DO : Nat → List Int) (step : Int) (k i : Nat) : Int :=
  (gradOf c.i.toNat c.h.toNat c.o.toNat ws DI DO ((batchL c.seed c.batch n step).getD k 0).toNat).getD i 0
def pushL (c : Cfg) (n : Nat) (ws : List Int) (DI DO : Nat → List Int) (step : Int) (nw : Nat) : List Int :=
  clipL ((List.range nw).map (meanG (gradG c n ws DI DO step) c.batch)) c.clip nw
end Go.Proofs.YtkikhfdkibekgaaGreat.Fx

/- How a slice of examples that comes in as an argument is opened. -/
namespace Go.Proofs.YtkikhfdkibekgaaGreat.Fx
open Go.ChangeShapes Go.WideShapes Go.ChangeAt Go.RowKit

set_option maxRecDepth 100000 in
theorem came_ex {H : Type} {enc : TypeId × Value → H} {W : World} {fuel : Nat} {cs : List Value} {x : DataW H × List MemPlace} (hf : DataW.trod enc Tryz.prog W 0 (fun _ => true) true fuel 51 cs = some x) :
    ∃ (e : Exm) (I O : List Int), cs = [.slice e.a e.n e.k, .slice e.b e.m e.t] ∧ InEx W e I O := by
  obtain ⟨y0, y1, n, _, hl, h0, h1⟩ := Go.ChangeShapes.trod_struct2 Tryz.underlying51 hf
  rw [cellsEx] at hl
  match cs, hl with
  | [c0, c1], _ =>
    simp [cellsInts] at h0 h1
    obtain ⟨a3, l3, k3, B1, e3, g3⟩ := came_trod h0
    obtain ⟨a4, l4, k4, B2, e4, g4⟩ := came_trod h1
    simp at e3 e4
    subst e3 e4
    exact ⟨⟨a3, l3, k3, a4, l4, k4⟩, B1, B2, rfl, g3.1, g4.1⟩

set_option maxRecDepth 100000 in
theorem openExs {H : Type} {enc : TypeId × Value → H} {W : World} {b0 : Nat} {v : Value} {d : DataW H} {p : List MemPlace} (hv : Value.okWide Tryz.prog W .any b0 25 v) (h : DataW.Trod enc Tryz.prog W 0 (fun _ => true) true 25 v d p) :
    ∃ a len cap X DI DO, v = .slice a len cap ∧ Exs W a len cap X DI DO := by
  obtain ⟨a, len, cap, rfl⟩ := okWide_slice Tryz.underlying25 hv
  obtain ⟨fuel, hf⟩ := h
  rcases Go.Deep.open_slice Tryz.underlying25 hf with ⟨hcs, _⟩ | ⟨a', len', cap', m, n, D, Pl, hcs, _, hl, _, hm, _, hel⟩
  · simp [Value.cells] at hcs
    obtain ⟨rfl, rfl, rfl⟩ := hcs
    exact ⟨_, _, _, fun _ => ⟨none, 0, 0, none, 0, 0⟩, fun _ => [], fun _ => [], rfl, Nat.le_refl _, .inl rfl⟩
  · simp [Value.cells] at hcs
    obtain ⟨rfl, rfl, rfl⟩ := hcs
    have hm' : m = cap := by simpa using hm
    subst hm'
    have each : ∀ i, i < m → ∃ (e : Exm) (I O : List Int), W.cell? (a'.add (i * 2)) = some (.slice e.a e.n e.k) ∧ W.cell? ((a'.add (i * 2)).add 1) = some (.slice e.b e.m e.t) ∧ InEx W e I O := by
      intro i hi
      obtain ⟨cs', h1, h2⟩ := hel i hi
      rw [cellsEx] at h1
      obtain ⟨e, I, O, rfl, hin⟩ := came_ex h2
      have hc := (World.cells?_some h1).2.2
      have c0 := hc 0 (by omega)
      have c1 := hc 1 (by omega)
      exact ⟨e, I, O, by simpa [Addr.add] using c0, by simpa using c1, hin⟩
    refine ⟨_, _, _, fun i => if hi : i < m then (each i hi).choose else ⟨none, 0, 0, none, 0, 0⟩, fun i => if hi : i < m then (each i hi).choose_spec.choose else [], fun i => if hi : i < m then (each i hi).choose_spec.choose_spec.choose else [], rfl, hl, ?_⟩
    by_cases h0 : len = 0
    · exact .inl h0
    · obtain ⟨b, off, spot⟩ := a'
      have hs := (each 0 (by omega)).choose_spec.choose_spec.choose_spec.1
      have hspot : spot = none := by simpa [Addr.add] using World.cell?_spot hs
      subst hspot
      refine .inr ⟨b, off, rfl, ?_, fun i hi => ?_⟩
      · have := cell_lt hs
        simpa [Addr.add] using this
      · have hs := (each i (by omega)).choose_spec.choose_spec.choose_spec
        have a1 : W.cell? ⟨b, off + i * 2, none⟩ = W.cell? ((⟨b, off, none⟩ : Addr).add (i * 2)) := by rw [add_plain]
        have a2 : W.cell? ⟨b, off + i * 2 + 1, none⟩ = W.cell? (((⟨b, off, none⟩ : Addr).add (i * 2)).add 1) := by rw [add_plain, add_plain]
        simp only [dif_pos (show i < m by omega)]
        exact ⟨a1.trans hs.1, a2.trans hs.2.1, hs.2.2⟩
end Go.Proofs.YtkikhfdkibekgaaGreat.Fx

/- How a word, and a slice of words, that come in as arguments are opened. -/
namespace Go.Proofs.YtkikhfdkibekgaaGreat.Fx
open Go.ChangeShapes Go.WideShapes Go.ChangeAt Go.RowKit

theorem wf_word {n : Int} (h : (Lit.int .u64 n).wf = true) : okW n := by
  simp [Lit.wf, IntKind.min, IntKind.max, IntKind.signed, IntKind.bits] at h
  exact ⟨by omega, by omega⟩

set_option maxRecDepth 100000 in
theorem openWords {H : Type} {enc : TypeId × Value → H} {W : World} {b0 : Nat} {v : Value} {d : DataW H} {p : List MemPlace} (hv : Value.okWide Tryz.prog W .any b0 67 v) (h : DataW.Trod enc Tryz.prog W 0 (fun _ => true) true 67 v d p) :
    ∃ a len cap xs, v = .slice a len cap ∧ LstW W a len cap xs ∧ ∀ i, i < xs.length → okW (xs.getD i 0) := by
  obtain ⟨a, len, cap, rfl⟩ := okWide_slice Tryz.underlying67 hv
  obtain ⟨fuel, hf⟩ := h
  rcases open_ints Tryz.underlying67 Tryz.underlying22 (by kernel_rfl) hf with ⟨hcs, _⟩ | ⟨x, l, c, zs, hcs, _, hl, hm, hz, _, hcell, hwz⟩
  · simp [Value.cells] at hcs
    obtain ⟨rfl, rfl, rfl⟩ := hcs
    exact ⟨_, _, _, [], rfl, LstW.nil _ _ _, fun i hi => by simp at hi⟩
  · simp [Value.cells] at hcs
    obtain ⟨rfl, rfl, rfl⟩ := hcs
    refine ⟨_, _, _, zs.take len, rfl, LstW.came hl (by simpa using hz) hcell, fun i hi => wf_word (hwz _ (List.mem_of_mem_take (i := len) ?_))⟩
    rw [List.getD_eq_getElem?_getD, List.getElem?_eq_getElem hi]
    exact List.getElem_mem hi
end Go.Proofs.YtkikhfdkibekgaaGreat.Fx

/- How records lie in memory; no function of the program is spoken of. -/
namespace Go.Proofs.YtkikhfdkibekgaaGreat.Fx
open Go.RowKit

/-- A record's value: its numbers, and where its batch lies. -/
structure Rcm where
  s : Int
  a : Option Addr
  n : Nat
  k : Nat
  r : Int
  root : Int
  chain : Int
def Rcm.cells (x : Rcm) : Array Value := #[.int .i64 x.s, .slice x.a x.n x.k, .int .i64 x.r, .int .u64 x.root, .int .u64 x.chain]
def Rcm.val (x : Rcm) : Value := .agg x.cells
/-- A slice of records: their values, and their batches' numbers. -/
def Recs (w : World) (a : Option Addr) (n cap : Nat) (R : Nat → Rcm) (D : Nat → List Int) : Prop :=
  n ≤ cap ∧ (n = 0 ∨ ∃ b off, a = some ⟨b, off, none⟩ ∧ b < w.heap.size ∧ ∀ i, i < n → w.cell? ⟨b, off + i * 5, none⟩ = some (.int .i64 (R i).s) ∧ w.cell? ⟨b, off + i * 5 + 1, none⟩ = some (.slice (R i).a (R i).n (R i).k) ∧ w.cell? ⟨b, off + i * 5 + 2, none⟩ = some (.int .i64 (R i).r) ∧ w.cell? ⟨b, off + i * 5 + 3, none⟩ = some (.int .u64 (R i).root) ∧ w.cell? ⟨b, off + i * 5 + 4, none⟩ = some (.int .u64 (R i).chain) ∧ Lst w (R i).a (R i).n (R i).k (D i))
theorem Recs.below {w w' : World} {a : Option Addr} {n c : Nat} {R : Nat → Rcm} {D : Nat → List Int} {B : Nat} (h : Recs w a n c R D) (hb : Below B w w') (hB : w.heap.size ≤ B) : Recs w' a n c R D := by
  refine ⟨h.1, ?_⟩
  rcases h.2 with h0 | ⟨b, off, e, hs, hc⟩
  · exact .inl h0
  · have k : ∀ o, w'.cell? ⟨b, o, none⟩ = w.cell? ⟨b, o, none⟩ := fun o => hb.cell (p := ⟨b, o, none⟩) (Nat.lt_of_lt_of_le hs hB)
    exact .inr ⟨b, off, e, Nat.lt_of_lt_of_le hs hb.size, fun i hi =>
      ⟨(k _).trans (hc i hi).1, (k _).trans (hc i hi).2.1, (k _).trans (hc i hi).2.2.1, (k _).trans (hc i hi).2.2.2.1, (k _).trans (hc i hi).2.2.2.2.1, (hc i hi).2.2.2.2.2.below hb hB⟩⟩
theorem Recs.nil (w : World) (a : Option Addr) (c : Nat) (R : Nat → Rcm) (D : Nat → List Int) : Recs w a 0 c R D := ⟨Nat.zero_le _, .inl rfl⟩
theorem Recs.at {w : World} {a : Option Addr} {n c : Nat} {R : Nat → Rcm} {D : Nat → List Int} (h : Recs w a n c R D) (hn : 0 < n) : ∃ b off, a = some ⟨b, off, none⟩ ∧ ∀ i, i < n → w.cell? ⟨b, off + i * 5, none⟩ = some (.int .i64 (R i).s) ∧ w.cell? ⟨b, off + i * 5 + 1, none⟩ = some (.slice (R i).a (R i).n (R i).k) ∧ w.cell? ⟨b, off + i * 5 + 2, none⟩ = some (.int .i64 (R i).r) ∧ w.cell? ⟨b, off + i * 5 + 3, none⟩ = some (.int .u64 (R i).root) ∧ w.cell? ⟨b, off + i * 5 + 4, none⟩ = some (.int .u64 (R i).chain) ∧ Lst w (R i).a (R i).n (R i).k (D i) := by
  rcases h.2 with h0 | ⟨b, off, e, _, hc⟩
  · omega
  · exact ⟨b, off, e, hc⟩
end Go.Proofs.YtkikhfdkibekgaaGreat.Fx
