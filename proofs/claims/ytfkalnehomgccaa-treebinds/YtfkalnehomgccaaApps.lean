/- A list of integers that the program itself makes by append: what is known of it, and what one append more leaves. -/
import Derived.Test.YtfkalnehomgccaaVecB
import Derived.Deep.AppendLies
import Derived.Deep.RegionHeld3
namespace Go.Proofs.Ytfkalnehomgccaa.Fx
open Go.RowKit

/-- The slice value v, made from block number base on, owns the integers xs. -/
def OwnI (base : Nat) (w : World) (v : Value) (xs : List Int) : Prop := w.ownsRow base 3 1 v xs.length (xs.map (Value.int .i64))

theorem OwnI.nil (base : Nat) (w : World) : OwnI base w (.slice none 0 0) [] := World.ownsRow_nil _ _ _ _
theorem OwnI.drew {base : Nat} {w : World} {v : Value} {xs : List Int} (h : OwnI base w v xs) : OwnI base w.drew v xs := h
theorem OwnI.drewN {base : Nat} {w : World} {v : Value} {xs : List Int} (h : OwnI base w v xs) (n : Nat) : OwnI base (w.drewN n) v xs := h
theorem OwnI.alloc {base : Nat} {w : World} {v : Value} {xs : List Int} (h : OwnI base w v xs) (o : Obj) : OwnI base (w.alloc o) v xs := World.ownsRow.alloc h o
theorem OwnI.below {base : Nat} {w w' : World} {v : Value} {xs : List Int} (h : OwnI base w v xs) (hb : Below w.heap.size w w') : OwnI base w' v xs := by
  refine ⟨h.1, ?_⟩
  rcases h.2 with h0 | ⟨g, cap, cur, hv, hg, hh, r⟩
  · exact .inl h0
  · exact .inr ⟨g, cap, cur, hv, hg, by rw [hb.block g (Array.getElem?_eq_some_iff.1 hh).1]; exact hh, r⟩
theorem OwnI.lst {base : Nat} {w : World} {v : Value} {xs : List Int} (h : OwnI base w v xs) : ∃ a c, v = .slice a xs.length c ∧ Lst w a xs.length c xs := Lst.owned h
theorem OwnI.lst' {base : Nat} {w : World} {v : Value} {xs : List Int} {n : Nat} (h : OwnI base w v xs) (hn : xs.length = n) : ∃ a c, v = .slice a n c ∧ Lst w a n c xs := by
  subst hn; exact Lst.owned h
theorem OwnI.congr {base : Nat} {w : World} {v : Value} {xs ys : List Int} (h : OwnI base w v xs) (e : xs = ys) : OwnI base w v ys := e ▸ h
theorem range_snoc (g : Nat → Int) (k : Nat) (x : Int) (h : g k = x) : (List.range k).map g ++ [x] = (List.range (k + 1)).map g := by
  rw [List.range_succ, List.map_append, List.map_singleton, h]

section
variable {w' W0 : World} {ops : Array Oper} {o : Oper} {a : Act} {Q : Exit → Act → World → Prop}

theorem run_append_int (ty : TypeId) (base : Nat) (v : Value) (xs : List Int) (z : Int) (g : Nat) (hown : OwnI base w' v xs) (hc : w'.cell? ⟨g, 0, none⟩ = some (.int .i64 z))
    (hn : (xs.length + 1) * 8 ≤ 140737488355328) (hbase : base ≤ w'.heap.size) (hB : Below base W0 w') :
    ∃ v' w1, (Builtin.append_ #[22, 22] ty #[v, .slice (some ⟨g, 0, none⟩) 1 1]).run Try.prog w' = .ok v' w1 ∧ OwnI base w1 v' (xs ++ [z]) ∧ Below base W0 w1 := by
  obtain ⟨i0, hi, hz0, hz1, hz2⟩ := info_parts info3
  obtain ⟨v', w1, hrun, h1, h2, _⟩ := run_append_own (P := Try.prog) w' base 22 ty 3 i0 (.int .i64 0) 1 8 Try.underlying22 hi hz0 hz1 hz2 rfl (by decide) v xs.length _ hown ⟨g, 0, none⟩ 1 1 [.int .i64 z] rfl
    (by intro j u hj
        match j, hj with
        | 0, hj => simp at hj; subst hj; simpa [Addr.add] using hc)
    (by intro u hu; simp at hu; subst hu; rfl) (by unfold maxLen; omega) hn hbase
  refine ⟨v', w1, hrun, by unfold OwnI; rw [List.length_append, List.map_append]; exact h1, hB.grown h2 hbase ?_⟩
  intro k hk
  rcases hown.2 with ⟨rfl, _⟩ | ⟨g', cap, cur, rfl, hg, _⟩
  · simp [Value.ownBlock] at hk
  · simp [Value.ownBlock] at hk; omega

theorem wpList_append_int {rest : List Oper} (hgd : o.guard = none) (s x : Operand) (ho : o.op = .call { callee := .builtin .append, args := #[s, x], argTypes := #[22, 22] })
    (base : Nat) (v : Value) (xs : List Int) (z : Int) (g : Nat) (W0 : World) (hs : a.eval s = v) (hx : a.eval x = .slice (some ⟨g, 0, none⟩) 1 1) (hown : OwnI base w' v xs) (hc : w'.cell? ⟨g, 0, none⟩ = some (.int .i64 z))
    (hn : (xs.length + 1) * 8 ≤ 140737488355328) (hbase : base ≤ w'.heap.size) (hB : Below base W0 w')
    (h : ∀ v' w1, OwnI base w1 v' (xs ++ [z]) → Below base W0 w1 → wpList Try.prog ops Q rest (a.put o.dst v') w1) : wpList Try.prog ops Q (o :: rest) a w' := by
  obtain ⟨v', w1, hrun, h1, h2⟩ := run_append_int o.type base v xs z g hown hc hn hbase hB
  refine wpList_plain hgd fun K hK => ?_
  unfold Oper.wp
  simp [execOp, ho, resolve, invoke, builtin, hs, hx, hrun, Result.andThen]
  exact hK _ _ (h v' w1 h1 h2)

theorem step_append_int {K : Act → World → Prop} {E : Prop} (hgd : o.guard = none) (s x : Operand) (ho : o.op = .call { callee := .builtin .append, args := #[s, x], argTypes := #[22, 22] })
    (base : Nat) (v : Value) (xs : List Int) (z : Int) (g : Nat) (W0 : World) (hs : a.eval s = v) (hx : a.eval x = .slice (some ⟨g, 0, none⟩) 1 1) (hown : OwnI base w' v xs) (hc : w'.cell? ⟨g, 0, none⟩ = some (.int .i64 z))
    (hn : (xs.length + 1) * 8 ≤ 140737488355328) (hbase : base ≤ w'.heap.size) (hB : Below base W0 w')
    (h : ∀ v' w1, OwnI base w1 v' (xs ++ [z]) → Below base W0 w1 → K (a.put o.dst v') w1) :
    if Region.wanted o (yielded ops a.tmps) = true then Oper.wp Try.prog o a w' K Q else E := by
  obtain ⟨v', w1, hrun, h1, h2⟩ := run_append_int o.type base v xs z g hown hc hn hbase hB
  have hw : Region.wanted o (yielded ops a.tmps) = true := by simp [Region.wanted, hgd]
  rw [if_pos hw]
  unfold Oper.wp
  simp [execOp, ho, resolve, invoke, builtin, hs, hx, hrun, Result.andThen]
  exact h v' w1 h1 h2
end
end Go.Proofs.Ytfkalnehomgccaa.Fx
