/- What the functions of package coachref that speak of fixed points return, called with whatever integers: the same plain numbers as those of package fix. -/
import Derived.Test.YtllgpjhbhndlhabFixWalks
namespace Go.Proofs.Ytllgpjhbhndlhab.Fx
open Go.RowKit

theorem rclamp_calls (n : Int) (w : World) : Calls Try.prog 51 #[.int .i64 n] w fun e w' => e = .returned (.int .i64 (clampI n)) ∧ w' = w := by
  by_cases h1 : 2147483647 < n
  · go_enter Try.func51, Try.ntmps51
    go_wp2
    go_ret
    exact ⟨ret_int (by unfold clampI; rw [if_neg (by omega), if_pos (by omega)]), rfl⟩
  · by_cases h0 : n < -2147483647
    · go_enter Try.func51, Try.ntmps51
      go_wp2
      go_ret
      exact ⟨ret_int (by unfold clampI; rw [if_pos (by omega)]), rfl⟩
    · go_enter Try.func51, Try.ntmps51
      go_wp2
      go_ret
      exact ⟨ret_int (by unfold clampI; rw [if_neg (by omega), if_neg (by omega)]), rfl⟩

theorem radd_calls (a b : Int) (w : World) : Calls Try.prog 52 #[.int .i64 a, .int .i64 b] w fun e w' => e = .returned (.int .i64 (addI a b)) ∧ w' = w := by
  have ha := clampI_bd a
  have hb := clampI_bd b
  go_enter Try.func52, Try.ntmps52
  go_wp2_with (go_at_call 51; refine (rclamp_calls _ _).mono ?_; rintro e w' ⟨rfl, rfl⟩)
  go_ret
  exact ⟨rfl, rfl⟩

theorem sub_as_add (a b : Int) : addI a (-clampI b) = subI a b := by
  unfold addI subI; rw [clampI_neg, clampI_idem]; congr 1

theorem rsub_calls (a b : Int) (w : World) : Calls Try.prog 53 #[.int .i64 a, .int .i64 b] w fun e w' => e = .returned (.int .i64 (subI a b)) ∧ w' = w := by
  have hb := clampI_bd b
  go_enter Try.func53, Try.ntmps53
  go_wp2_with (first | (go_at_call 51; refine (rclamp_calls _ _).mono ?_; rintro e w' ⟨rfl, rfl⟩) | (go_at_call 52; refine (radd_calls _ _ _).mono ?_; rintro e w' ⟨rfl, rfl⟩))
  go_ret
  exact ⟨ret_int (sub_as_add a b), rfl⟩

theorem ediv_facts (n d : Int) (hn : 0 ≤ n) (hd : 0 < d) : 0 ≤ n / d ∧ n / d ≤ n ∧ n / d * d = n - n % d ∧ (n / d + 1) * d = n - n % d + d ∧ 0 ≤ n % d ∧ n % d < d := by
  have e := Int.mul_ediv_add_emod n d
  have c : n / d * d = d * (n / d) := Int.mul_comm _ _
  refine ⟨Int.ediv_nonneg hn (by omega), Int.ediv_le_self _ hn, by omega, ?_, Int.emod_nonneg n (by omega), Int.emod_lt_of_pos n hd⟩
  rw [Int.add_mul]; omega

theorem near_pos (n d : Int) (w : World) (hn0 : 0 ≤ n) (hn1 : n ≤ 4611686018427387904) (hd0 : 0 < d) (hd1 : d ≤ 2147483648) :
    Calls Try.prog 72 #[.int .i64 n, .int .i64 d] w fun e w' => e = .returned (.int .i64 (rnd n d)) ∧ w' = w := by
  obtain ⟨q0, q1, p1, p2, r0, r1⟩ := ediv_facts n d hn0 hd0
  have P1 : Hid (n / d * d = n - n % d) := p1
  have P2 : Hid ((n / d + 1) * d = n - n % d + d) := p2
  have b1 : 0 ≤ n / d * d ∧ n / d * d ≤ n := ⟨Int.mul_nonneg q0 (by omega), by omega⟩
  have b2 : n ≤ (n / d + 1) * d ∧ (n / d + 1) * d ≤ n + d := by omega
  clear p1 p2
  go_enter Try.func72, Try.ntmps72
  go_wp2
  all_goals
    have p1 := P1.out
    have p2 := P2.out
    go_ret
    refine ⟨ret_int (rnd_of rfl rfl ?_ ?_), rfl⟩ <;> intro h <;> (try simp only [beq_iff_eq, beq_eq_false_iff_ne, ne_eq] at *) <;> omega

theorem near_calls (n d : Int) (w : World) (hn0 : -4611686018427387904 ≤ n) (hn1 : n ≤ 4611686018427387904) (hd0 : 0 < d) (hd1 : d ≤ 2147483648) :
    Calls Try.prog 72 #[.int .i64 n, .int .i64 d] w fun e w' => e = .returned (.int .i64 (rnd n d)) ∧ w' = w := by
  by_cases c : 0 ≤ n
  · exact near_pos n d w c hn1 hd0 hd1
  · have hb := rnd_bd (-n) d hd0 4611686018427387904 (by omega) (by omega) (by omega)
    go_enter Try.func72, Try.ntmps72
    go_wp2_with (go_at_call 72; refine (near_pos _ _ _ (by omega) (by omega) (by omega) (by omega)).mono ?_; rintro e w' ⟨rfl, rfl⟩)
    go_ret
    exact ⟨ret_int (by rw [rnd_neg _ _ hd0]; omega), rfl⟩

theorem rmul_calls (a b : Int) (w : World) : Calls Try.prog 47 #[.int .i64 a, .int .i64 b] w fun e w' => e = .returned (.int .i64 (mulI a b)) ∧ w' = w := by
  have hp := prod_bd _ _ (clampI_bd a) (clampI_bd b)
  go_enter Try.func47, Try.ntmps47
  go_wp2_with (first | (go_at_call 51; refine (rclamp_calls _ _).mono ?_; rintro e w' ⟨rfl, rfl⟩) | (go_at_call 72; refine (near_calls _ _ _ (by omega) (by omega) (by omega) (by omega)).mono ?_; rintro e w' ⟨rfl, rfl⟩))
  go_ret
  exact ⟨rfl, rfl⟩

theorem rdiv_calls (a b : Int) (w : World) (hb : b ≠ 0) : Calls Try.prog 48 #[.int .i64 a, .int .i64 b] w fun e w' => e = .returned (.int .i64 (divI a b)) ∧ w' = w := by
  have ha := clampI_bd a
  have hc := clampI_bd b
  have hn := clampI_ne hb
  by_cases c : clampI b < 0
  · go_enter Try.func48, Try.ntmps48
    go_wp2_with (first | (go_at_call 51; refine (rclamp_calls _ _).mono ?_; rintro e w' ⟨rfl, rfl⟩) | (go_at_call 72; refine (near_calls _ _ _ (by omega) (by omega) (by omega) (by omega)).mono ?_; rintro e w' ⟨rfl, rfl⟩))
    go_ret
    exact ⟨ret_int (by unfold divI quoI; rw [if_pos c, Int.neg_mul]), rfl⟩
  · go_enter Try.func48, Try.ntmps48
    go_wp2_with (first | (go_at_call 51; refine (rclamp_calls _ _).mono ?_; rintro e w' ⟨rfl, rfl⟩) | (go_at_call 72; refine (near_calls _ _ _ (by omega) (by omega) (by omega) (by omega)).mono ?_; rintro e w' ⟨rfl, rfl⟩))
    go_ret
    exact ⟨ret_int (by unfold divI quoI; rw [if_neg (by omega)]), rfl⟩

end Go.Proofs.Ytllgpjhbhndlhab.Fx
