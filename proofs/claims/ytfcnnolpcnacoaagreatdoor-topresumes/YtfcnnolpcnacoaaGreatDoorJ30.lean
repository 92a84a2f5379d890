/- What math/bits.Len says of a small number, and what tree.split returns: where a tree is cut. -/
import Derived.Test.YtfcnnolpcnacoaaGreatDoorJ02
import Derived.Test.YtfcnnolpcnacoaaGreatDoorJ26
namespace Go.Proofs.YtfcnnolpcnacoaaGreatDoor.Fx
open Go.RowKit

set_option maxHeartbeats 8000000 in
set_option maxRecDepth 100000 in
theorem len64_low (x : Int) (h1 : 1 ≤ x) (h2 : x ≤ 49) (w : World) : Calls Tryz.prog 109 #[.int .u64 x] w fun e w' => e = .returned (.int .i64 ((Nat.log2 x.toNat : Nat) + 1)) ∧ w' = w := by
  have h : x = 1 ∨ x = 2 ∨ x = 3 ∨ x = 4 ∨ x = 5 ∨ x = 6 ∨ x = 7 ∨ x = 8 ∨ x = 9 ∨ x = 10 ∨ x = 11 ∨ x = 12 ∨ x = 13 ∨ x = 14 ∨ x = 15 ∨ x = 16 ∨ x = 17 ∨ x = 18 ∨ x = 19 ∨ x = 20 ∨ x = 21 ∨ x = 22 ∨ x = 23 ∨ x = 24 ∨ x = 25 ∨ x = 26 ∨ x = 27 ∨ x = 28 ∨ x = 29 ∨ x = 30 ∨ x = 31 ∨ x = 32 ∨ x = 33 ∨ x = 34 ∨ x = 35 ∨ x = 36 ∨ x = 37 ∨ x = 38 ∨ x = 39 ∨ x = 40 ∨ x = 41 ∨ x = 42 ∨ x = 43 ∨ x = 44 ∨ x = 45 ∨ x = 46 ∨ x = 47 ∨ x = 48 ∨ x = 49 := by omega
  clear h1 h2
  rcases h with rfl | rfl | rfl | rfl | rfl | rfl | rfl | rfl | rfl | rfl | rfl | rfl | rfl | rfl | rfl | rfl | rfl | rfl | rfl | rfl | rfl | rfl | rfl | rfl | rfl | rfl | rfl | rfl | rfl | rfl | rfl | rfl | rfl | rfl | rfl | rfl | rfl | rfl | rfl | rfl | rfl | rfl | rfl | rfl | rfl | rfl | rfl | rfl | rfl
  all_goals
    go_enter Tryz.func109, Tryz.ntmps109
    go_wp2
    go_ret
    exact ⟨by kernel_rfl, rfl⟩

theorem len_low (x : Int) (h1 : 1 ≤ x) (h2 : x ≤ 49) (w : World) : Calls Tryz.prog 151 #[.int .u64 x] w fun e w' => e = .returned (.int .i64 ((Nat.log2 x.toNat : Nat) + 1)) ∧ w' = w := by
  go_enter Tryz.func151, Tryz.ntmps151
  go_wp2_with (go_at_call 109; refine (len64_low _ h1 h2 _).mono ?_; rintro e w' ⟨rfl, hw'⟩; replace hw' := hw'.symm; subst hw')
  go_ret
  exact ⟨rfl, rfl⟩

theorem log2_low : ∀ x : Nat, x < 50 → 0 < x → Nat.log2 x < 6 := by decide +kernel

theorem split_calls (n : Nat) (h1 : 2 ≤ n) (h2 : n ≤ 50) (w : World) : Calls Tryz.prog 117 #[.int .i64 n] w fun e w' => e = .returned (.int .i64 (cutN n)) ∧ w' = w := by
  unfold cutN
  obtain ⟨j, hj⟩ : ∃ j, Nat.log2 (n - 1) = j := ⟨_, rfl⟩
  have hj6 : j < 6 := by rw [← hj]; exact log2_low _ (by omega) (by omega)
  have HJ : Hid (Nat.log2 ((n : Int) - 1).toNat = j) := by rw [show ((n : Int) - 1).toNat = n - 1 from by omega]; exact hj
  rw [hj]
  clear hj
  rcases (show j = 0 ∨ j = 1 ∨ j = 2 ∨ j = 3 ∨ j = 4 ∨ j = 5 from by omega) with rfl | rfl | rfl | rfl | rfl | rfl
  all_goals
    go_enter Tryz.func117, Tryz.ntmps117
    go_wp2_with (go_at_call 151; refine (len_low _ (by omega) (by omega) _).mono ?_; rintro e w' ⟨rfl, hw'⟩; replace hw' := hw'.symm; subst hw'; rw [HJ.out])
    go_ret
    exact ⟨rfl, rfl⟩

end Go.Proofs.YtfcnnolpcnacoaaGreatDoor.Fx
