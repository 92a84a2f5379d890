/- An append of a whole list of integers, which may be empty, to one that the program itself makes. -/
import Derived.Test.YtfkalnehomgccaaOnceB
namespace Go.Proofs.Ytfkalnehomgccaa.Fx
open Go.RowKit

section
variable {w' W0 : World} {ops : Array Oper} {o : Oper} {a : Act} {Q : Exit → Act → World → Prop}
theorem run_append_zero (w' : World) (ty : TypeId) (base src : Option Addr) (l c d : Nat) (hle : l ≤ c) : (Builtin.append_ #[22, 22] ty #[.slice base l c, .slice src 0 d]).run Try.prog w' = .ok (.slice base l c) w' := by
  obtain ⟨i0, hi, _⟩ := info_parts info3
  cases base <;> cases src <;> simp [Builtin.append_, run_underlying Try.underlying22, sizeOf, typeInfo, hi, Builtin.lenOf, Builtin.firstCells, hle, storeCells, loadCells, loadCellsFrom]
theorem run_append_any (ty : TypeId) (base : Nat) (v : Value) (xs zs : List Int) (src : Option Addr) (m c : Nat) (hown : OwnI base w' v xs) (hz : Lst w' src m c zs) (hn : (xs.length + m) * 8 ≤ 140737488355328) (hbase : base ≤ w'.heap.size) (hB : Below base W0 w') :
    ∃ v' w1, (Builtin.append_ #[22, 22] ty #[v, .slice src m c]).run Try.prog w' = .ok v' w1 ∧ OwnI base w1 v' (xs ++ zs) ∧ Below base W0 w1 := by
  by_cases h0 : m = 0
  · subst h0
    have hz0 : zs = [] := List.length_eq_zero_iff.1 hz.len
    subst hz0
    obtain ⟨av, cv, hv, lv⟩ := hown.lst
    refine ⟨v, w', ?_, by rw [List.append_nil]; exact hown, hB⟩
    rw [hv]
    exact run_append_zero w' ty av src xs.length cv c lv.cap
  · obtain ⟨b, off, rfl, _, _⟩ := hz.at (by omega)
    exact run_append_all ty base v xs zs b off m c hown hz hn hbase hB

theorem step_append_any {K : Act → World → Prop} {E : Prop} (hgd : o.guard = none) (s x : Operand) (ho : o.op = .call { callee := .builtin .append, args := #[s, x], argTypes := #[22, 22] })
    (base : Nat) (v : Value) (xs zs : List Int) (src : Option Addr) (m c : Nat) (W0 : World) (hs : a.eval s = v) (hx : a.eval x = .slice src m c) (hown : OwnI base w' v xs) (hz : Lst w' src m c zs) (hn : (xs.length + m) * 8 ≤ 140737488355328) (hbase : base ≤ w'.heap.size) (hB : Below base W0 w')
    (h : ∀ v' w1, OwnI base w1 v' (xs ++ zs) → Below base W0 w1 → K (a.put o.dst v') w1) :
    if Region.wanted o (yielded ops a.tmps) = true then Oper.wp Try.prog o a w' K Q else E := by
  obtain ⟨v', w1, hrun, h1, h2⟩ := run_append_any o.type base v xs zs src m c hown hz hn hbase hB
  have hw : Region.wanted o (yielded ops a.tmps) = true := by simp [Region.wanted, hgd]
  rw [if_pos hw]
  unfold Oper.wp
  simp [execOp, ho, resolve, invoke, builtin, hs, hx, hrun, Result.andThen]
  exact h v' w1 h1 h2
theorem wpList_append_any {rest : List Oper} (hgd : o.guard = none) (s x : Operand) (ho : o.op = .call { callee := .builtin .append, args := #[s, x], argTypes := #[22, 22] })
    (base : Nat) (v : Value) (xs zs : List Int) (src : Option Addr) (m c : Nat) (W0 : World) (hs : a.eval s = v) (hx : a.eval x = .slice src m c) (hown : OwnI base w' v xs) (hz : Lst w' src m c zs) (hn : (xs.length + m) * 8 ≤ 140737488355328) (hbase : base ≤ w'.heap.size) (hB : Below base W0 w')
    (h : ∀ v' w1, OwnI base w1 v' (xs ++ zs) → Below base W0 w1 → wpList Try.prog ops Q rest (a.put o.dst v') w1) : wpList Try.prog ops Q (o :: rest) a w' := by
  obtain ⟨v', w1, hrun, h1, h2⟩ := run_append_any o.type base v xs zs src m c hown hz hn hbase hB
  refine wpList_plain hgd fun K hK => ?_
  unfold Oper.wp
  simp [execOp, ho, resolve, invoke, builtin, hs, hx, hrun, Result.andThen]
  exact hK _ _ (h v' w1 h1 h2)
end
end Go.Proofs.Ytfkalnehomgccaa.Fx
