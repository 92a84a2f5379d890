/- An append of a whole list of integers to one that the program itself makes; and what slices.Clone returns. -/
import Derived.Test.YtfkalnehomgccaaAppsFar
import Derived.Lib.SliceRun
namespace Go.Proofs.Ytfkalnehomgccaa.Fx
open Go.RowKit

section
variable {w' W0 : World} {ops : Array Oper} {o : Oper} {a : Act} {Q : Exit → Act → World → Prop}

theorem run_append_all (ty : TypeId) (base : Nat) (v : Value) (xs zs : List Int) (b off m c : Nat) (hown : OwnI base w' v xs) (hz : Lst w' (some ⟨b, off, none⟩) m c zs) (hn : (xs.length + m) * 8 ≤ 140737488355328) (hbase : base ≤ w'.heap.size) (hB : Below base W0 w') :
    ∃ v' w1, (Builtin.append_ #[22, 22] ty #[v, .slice (some ⟨b, off, none⟩) m c]).run Try.prog w' = .ok v' w1 ∧ OwnI base w1 v' (xs ++ zs) ∧ Below base W0 w1 := by
  obtain ⟨i0, hi, hz0, hz1, hz2⟩ := info_parts info3
  have hzl := hz.len
  obtain ⟨v', w1, hrun, h1, h2, _, _⟩ := run_append_own_at (P := Try.prog) w' base 22 ty 3 i0 (.int .i64 0) 1 8 Try.underlying22 hi hz0 hz1 hz2 rfl (by decide) v xs.length _ hown ⟨b, off, none⟩ m c (zs.map (Value.int .i64)) (by simp [hzl])
    (by intro j u hj
        have hjm : j < m := by
          have := (List.getElem?_eq_some_iff.1 hj).1
          simpa [hzl] using this
        obtain ⟨b1, o1, e, _, hc⟩ := hz.at (by omega)
        simp only [Option.some.injEq, Addr.mk.injEq, and_true] at e
        obtain ⟨rfl, rfl⟩ := e
        rw [getD_map_int zs j (by omega)] at hj
        rw [Go.WideShapes.add_plain, hc j hjm]
        exact hj)
    (by intro u hu; obtain ⟨x, _, rfl⟩ := List.mem_map.1 hu; rfl) (by unfold maxLen; omega) hn hbase
  refine ⟨v', w1, hrun, by unfold OwnI; rw [List.length_append, List.map_append, hzl]; exact h1, hB.grown h2 hbase ?_⟩
  intro k hk
  rcases hown.2 with ⟨rfl, _⟩ | ⟨g', cap, cur, rfl, hg, _⟩
  · simp [Value.ownBlock] at hk
  · simp [Value.ownBlock] at hk; omega

theorem wpList_append_all {rest : List Oper} (hgd : o.guard = none) (s x : Operand) (ho : o.op = .call { callee := .builtin .append, args := #[s, x], argTypes := #[22, 22] })
    (base : Nat) (v : Value) (xs zs : List Int) (b off m c : Nat) (W0 : World) (hs : a.eval s = v) (hx : a.eval x = .slice (some ⟨b, off, none⟩) m c) (hown : OwnI base w' v xs) (hz : Lst w' (some ⟨b, off, none⟩) m c zs) (hn : (xs.length + m) * 8 ≤ 140737488355328) (hbase : base ≤ w'.heap.size) (hB : Below base W0 w')
    (h : ∀ v' w1, OwnI base w1 v' (xs ++ zs) → Below base W0 w1 → wpList Try.prog ops Q rest (a.put o.dst v') w1) : wpList Try.prog ops Q (o :: rest) a w' := by
  obtain ⟨v', w1, hrun, h1, h2⟩ := run_append_all o.type base v xs zs b off m c hown hz hn hbase hB
  refine wpList_plain hgd fun K hK => ?_
  unfold Oper.wp
  simp [execOp, ho, resolve, invoke, builtin, hs, hx, hrun, Result.andThen]
  exact hK _ _ (h v' w1 h1 h2)
end

theorem OwnI.empty (w : World) : OwnI w.heap.size (w.alloc (.cells #[] 3)) (.slice (some ⟨w.heap.size, 0, none⟩) 0 0) [] :=
  ⟨rfl, .inr ⟨w.heap.size, 0, #[], rfl, Nat.le_refl _, Go.Deep.blk_alloc_new _ _, Nat.le_refl _, Nat.zero_le _, rfl, rfl⟩⟩

set_option maxRecDepth 100000 in
theorem clone_calls (b off n c : Nat) (f : Nat → Int) (w : World) (h : Lst w (some ⟨b, off, none⟩) n c ((List.range n).map f)) (h1 : 1 ≤ n) (h2 : n ≤ 16) :
    Calls Try.prog 5 #[.slice (some ⟨b, off, none⟩) n c] w fun e w' => ∃ b' c', e = .returned (.slice (some ⟨b', 0, none⟩) n c') ∧ w.heap.size ≤ b' ∧ Arr w' b' c' n f ∧ Below w.heap.size w w' := by
  have hb := (Below.refl w.heap.size w).alloc (Nat.le_refl _) (.cells #[] 3)
  have hl := h.below hb (Nat.le_refl _)
  have q22 : ∀ (w : World) (a : Option Addr) (n c n' c' : Nat), (binOp .eql 22 (.slice a n c) (.slice none n' c')).run Try.prog w = .ok (.bool a.isNone) w := fun w a n c n' c' => Lib.run_eql_slice_nil w _ _ a n c n' c' Try.underlying22
  go_enter Try.func5, Try.ntmps5
  go_wp2_with (at_builtin; refine wpList_append_all (by rfl) _ _ (by rfl) w.heap.size _ [] ((List.range n).map f) b off n c w (by rfl) (by rfl) (by exact OwnI.empty w) (by exact hl) (by simp; omega) (by simp) (by exact hb) ?_; intro v1 w1 hown1 hbel1)
  obtain ⟨b', c', rfl, hb', hA⟩ := OwnI.arr hown1 h1
  go_wp2
  go_ret
  exact ⟨_, _, rfl, hb', hA, hbel1⟩

end Go.Proofs.Ytfkalnehomgccaa.Fx
