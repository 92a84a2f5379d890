/- What pupil's isSide, inBounds and Check return, whatever pupil and list lie there. -/
import Derived.Test.YtllgpjhbhndlhaeVecC
import Derived.Test.YtllgpjhbhndlhaePups
namespace Go.Proofs.Ytllgpjhbhndlhae.Fx
open Go.RowKit

theorem inb_calls (a : Option Addr) (la ca : Nat) (xs : List Int) (w : World) (ha : Lst w a la ca xs) (h63 : la ≤ 9223372036854775806) :
    Calls Try.prog 82 #[.slice a la ca] w fun e w' => e = .returned (.bool (rightB xs)) ∧ w' = w := by
  go_enter Try.func82, Try.ntmps82
  go_wp2
  go_loopw [7] (fun i wr => ∃ k : Nat, k ≤ la ∧ i = .int .i64 k ∧ Hid (∀ j, j < k → xs.getD j 0 = clampI (xs.getD j 0)) ∧ wr = w) (fun i _ => la - (intOf i).toNat)
  case atStart => exact ⟨0, Nat.zero_le _, rfl, fun j hj => by omega, rfl⟩
  case round =>
    obtain ⟨k, hk, rfl, hg, hw⟩ := hrel
    replace hw := hw.symm
    subst hw
    by_cases hlt : k < la
    · obtain ⟨b1, o1, x, rfl, s1, c1, HX⟩ := ha.at1 hlt
      by_cases hx : x = clampI x
      · have hx' : (x != clampI x) = false := by rw [bne_eq_false_iff_eq]; exact hx
        have HC : Hid (x = clampI x) := hx
        clear hx
        go_wp2_with (go_at_call 25; refine (clamp_calls _ _).mono ?_; rintro e w' ⟨rfl, hw'⟩; replace hw' := hw'.symm; subst hw')
        go_roundw
        case rel => exact ⟨k + 1, by omega, by go_num, fun j hj => by
          by_cases e : j = k
          · subst e; rw [HX.out]; exact HC.out
          · exact hg.out j (by omega), by trivial⟩
        case measure => simp [intOf]; omega
      · have hx' : (x != clampI x) = true := by rw [bne_iff_ne]; exact hx
        go_wp2_with (go_at_call 25; refine (clamp_calls _ _).mono ?_; rintro e w' ⟨rfl, hw'⟩; replace hw' := hw'.symm; subst hw')
        go_ret
        exact ⟨ret_bool (rightB_false (k := k) (by rw [HX.out]; exact hx)).symm, rfl⟩
    · go_wp2
      go_ret
      exact ⟨ret_bool (rightB_true (fun j hj => hg.out j (by have := ha.len; omega))).symm, rfl⟩
end Go.Proofs.Ytllgpjhbhndlhae.Fx
