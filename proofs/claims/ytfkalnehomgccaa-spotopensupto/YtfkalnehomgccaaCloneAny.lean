/- What slices.Clone returns of whatever list of integers, nil and the empty one too. -/
import Derived.Test.YtfkalnehomgccaaAppsAll
namespace Go.Proofs.Ytfkalnehomgccaa.Fx
open Go.RowKit

set_option maxRecDepth 100000 in
theorem cloneI_any (a : Option Addr) (n c : Nat) (xs : List Int) (w : World) (h : Lst w a n c xs) (hn : n ≤ 1048576) :
    Calls Try.prog 5 #[.slice a n c] w fun e w' => ∃ v, e = .returned v ∧ OwnI w.heap.size w' v xs ∧ Below w.heap.size w w' := by
  have q22 : ∀ (w : World) (a : Option Addr) (n c n' c' : Nat), (binOp .eql 22 (.slice a n c) (.slice none n' c')).run Try.prog w = .ok (.bool a.isNone) w := fun w a n c n' c' => Lib.run_eql_slice_nil w _ _ a n c n' c' Try.underlying22
  have hlen := h.len
  cases a with
  | none =>
    have h0 : xs = [] := by
      rcases h.2.2 with h0 | ⟨b, off, e, _⟩
      · exact List.length_eq_zero_iff.1 (by omega)
      · cases e
    subst h0
    clear h
    go_enter Try.func5, Try.ntmps5
    go_wp2_with fail
    go_ret
    exact ⟨_, rfl, OwnI.nil _ _, Below.refl _ _⟩
  | some ad =>
    have hb := (Below.refl w.heap.size w).alloc (Nat.le_refl _) (.cells #[] 3)
    have hl := h.below hb (Nat.le_refl _)
    clear h
    go_enter Try.func5, Try.ntmps5
    go_wp2_with (at_builtin; refine wpList_append_any (by rfl) _ _ (by rfl) w.heap.size _ [] xs (some ad) n c w (by rfl) (by rfl) (by exact OwnI.empty w) (by exact hl) (by simp; omega) (by simp) (by exact hb) ?_; intro v1 w1 hown1 hbel1)
    have hown2 : OwnI w.heap.size w1 v1 xs := by simpa using hown1
    clear hown1
    go_ret
    exact ⟨_, rfl, hown2, hbel1⟩
end Go.Proofs.Ytfkalnehomgccaa.Fx
