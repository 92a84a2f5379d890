/- What vec.Dot returns: whatever lists lie there. -/
import Derived.Test.YtmoeogecafjcmaaVecA
import Derived.BigRegion
import Derived.Deep.RegionWith
namespace Go.Proofs.Ytmoeogecafjcmaa.Fx
open Go.RowKit

theorem info3 : (Try.prog.info? 3).map (fun i => (i.zero, i.size, i.bytes)) = some (some (.int .i64 0), 1, 8) := by kernel_rfl

theorem twoI_cases (la lb : Nat) : (twoI la lb = 0 ∧ la = lb ∧ la ≤ 200) ∨ (twoI la lb ≠ 0 ∧ (twoI la lb != 0) = true) := by
  unfold twoI
  by_cases h : 200 < la ∨ 200 < lb
  · rw [if_pos h]; exact .inr ⟨by decide, by decide⟩
  · rw [if_neg h]
    by_cases e : la = lb
    · rw [if_pos e]; exact .inl ⟨rfl, e, by omega⟩
    · rw [if_neg e]; exact .inr ⟨by decide, by decide⟩

theorem vDot_calls (a b : Option Addr) (la ca lb cb : Nat) (xs ys : List Int) (w : World) (ha : Lst w a la ca xs) (hb : Lst w b lb cb ys) :
    Calls Try.prog 19 #[.slice a la ca, .slice b lb cb] w fun e w' => e = .returned (.tuple #[.int .i64 (if twoI la lb = 0 then dotTo xs ys la else 0), .int .i64 (twoI la lb)]) ∧ Below w.heap.size w w' := by
  rcases twoI_cases la lb with ⟨h0, rfl, hl⟩ | ⟨h0, h1⟩
  · rw [if_pos h0]
    have H0 : Hid (twoI la la = 0) := h0
    clear h0
    go_enter Try.func19, Try.ntmps19
    go_wp2_with (first | (go_at_call 51; refine (two_calls _ _ _ _ _ _ _).mono ?_; rintro e w' ⟨rfl, hw⟩; rw [H0.out]) | (go_at_call 52; refine (dot_calls _ _ _ _ _ xs ys _ (ha.below hw (Nat.le_refl _)) (hb.below hw (Nat.le_refl _)) (by omega)).mono ?_; rintro e w' ⟨rfl, k, rfl⟩))
    go_ret2
    exact ⟨by rw [H0.out]; rfl, below_drewN hw _⟩
  · rw [if_neg h0]
    clear ha hb h0
    go_enter Try.func19, Try.ntmps19
    go_wp2_with (go_at_call 51; refine (two_calls _ _ _ _ _ _ _).mono ?_; rintro e w' ⟨rfl, hw⟩)
    go_ret2
    exact ⟨rfl, hw⟩

end Go.Proofs.Ytmoeogecafjcmaa.Fx
