/- What coachref.plus and times return: sums and products by P. -/
import Derived.Test.YtfkalnehomgccaaDigB
import Derived.Test.YtfkalnehomgccaaTris
namespace Go.Proofs.Ytfkalnehomgccaa.Fx
open Go.RowKit

theorem rplus_calls (a b : Int) (ha : okW a) (hb : okW b) (w : World) : Calls Try.prog 34 #[.int .u64 a, .int .u64 b] w fun e w' => e = .returned (.int .u64 (addP a b)) ∧ w' = w := by
  obtain ⟨a0, a1⟩ := ha
  obtain ⟨b0, b1⟩ := hb
  go_enter Try.func34, Try.ntmps34
  go_wp2
  go_ret
  exact ⟨ret_word (rest_add a b), rfl⟩

set_option maxHeartbeats 1600000 in
theorem rtimes_calls (a b : Int) (ha : okP a) (hb : okP b) (w : World) : Calls Try.prog 43 #[.int .u64 a, .int .u64 b] w fun e w' => e = .returned (.int .u64 (mulP a b)) ∧ w' = w := by
  have HB : Hid (okP b) := hb
  obtain ⟨a0, a1⟩ := ha
  obtain ⟨b0, b1⟩ := hb
  have am : a % 2305843009213693951 = a := by omega
  have bm : b % 2305843009213693951 = b := by omega
  go_enter Try.func43, Try.ntmps43
  go_wp2
  go_loop [5, 6] (fun s i => ∃ (k : Nat) (x : Int), k ≤ 61 ∧ i = .int .i64 ((k : Int) - 1) ∧ s = .int .u64 x ∧ Hid (x = dblTo a b k)) (fun _ i => ((intOf i) + 1).toNat)
  case atStart => exact ⟨61, 0, by omega, rfl, rfl, (dbl_top a b HB.out).symm⟩
  case round =>
    obtain ⟨k, x, hk, rfl, rfl, HX⟩ := hrel
    have hx : okP x := by rw [HX.out]; exact dbl_ok _ _ _
    obtain ⟨x0, x1⟩ := hx
    cases k with
    | zero =>
      go_wp2
      go_ret
      exact ⟨ret_word (by rw [HX.out, dbl_end]), rfl⟩
    | succ j =>
      go_wp2
      all_goals
        rename_i hc
        have q0 : 0 ≤ b / 2 ^ j := Int.ediv_nonneg b0 (Int.pow_nonneg (by omega))
        rw [Int.tmod_eq_emod_of_nonneg q0] at hc
        simp only [beq_iff_eq, beq_eq_false_iff_ne, ne_eq] at hc
        go_round
        case measure => simp [intOf]
      · exact ⟨j, _, by omega, rfl, rfl, by rw [HX.out]; exact dbl_step1 _ _ _ hc⟩
      · exact ⟨j, _, by omega, rfl, rfl, by rw [HX.out]; exact dbl_step0 _ _ _ (by omega)⟩

end Go.Proofs.Ytfkalnehomgccaa.Fx
