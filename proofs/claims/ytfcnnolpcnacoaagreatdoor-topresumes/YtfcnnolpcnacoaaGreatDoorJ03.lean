/- What each function of package fix returns, called with whatever integers: the plain numbers of the text Fix; the world is as it was, but for what was drawn of the open order. -/
import Derived.Test.YtfcnnolpcnacoaaGreatDoorRows
import Derived.Test.YtfcnnolpcnacoaaGreatDoorJ00
import Derived.WalkKit
import Derived.Deep.QuietTactic
import Derived.BigQuiet
namespace Go.Proofs.YtfcnnolpcnacoaaGreatDoor.Fx
open Go.RowKit

theorem ret_int {k : IntKind} {a b : Int} (h : a = b) : Ending.returned (.int k a) = .returned (.int k b) := by rw [h]

theorem ret_bool {a b : Bool} (h : a = b) : Ending.returned (.bool a) = .returned (.bool b) := by rw [h]
theorem grown_drewN {W w : World} (h : Grown W w) (n : Nat) : Grown W (w.drewN n) := h

theorem narrow_calls (n : Int) (w : World) : Calls Tryz.prog 60 #[.int .i64 n] w fun e w' => e = .returned (.int .i64 (clampI n)) ∧ w' = w := by
  by_cases h0 : n < -2147483647
  · go_enter Tryz.func60, Tryz.ntmps60
    go_wp2
    go_ret
    exact ⟨ret_int (by unfold clampI; rw [if_pos (by omega)]), rfl⟩
  · by_cases h1 : 2147483647 < n
    · go_enter Tryz.func60, Tryz.ntmps60
      go_wp2
      go_ret
      exact ⟨ret_int (by unfold clampI; rw [if_neg (by omega), if_pos h1]), rfl⟩
    · go_enter Tryz.func60, Tryz.ntmps60
      go_wp2
      go_ret
      exact ⟨ret_int (by unfold clampI; rw [if_neg (by omega), if_neg (by omega)]), rfl⟩

theorem clamp_calls (n : Int) (w : World) : Calls Tryz.prog 45 #[.int .i64 n] w fun e w' => e = .returned (.int .i64 (clampI n)) ∧ w' = w := by
  go_enter Tryz.func45, Tryz.ntmps45
  go_wp2_with (go_at_call 60; refine (narrow_calls _ _).mono ?_; rintro e w' ⟨rfl, rfl⟩)
  go_ret
  exact ⟨rfl, rfl⟩

theorem wide_calls (n : Int) (w : World) : Calls Tryz.prog 121 #[.int .i64 n] w fun e w' => e = .returned (.int .i64 (clampI n)) ∧ w' = w := by
  go_enter Tryz.func121, Tryz.ntmps121
  go_wp2_with (go_at_call 45; refine (clamp_calls _ _).mono ?_; rintro e w' ⟨rfl, rfl⟩)
  go_ret
  exact ⟨rfl, rfl⟩

theorem add_calls (a b : Int) (w : World) : Calls Tryz.prog 133 #[.int .i64 a, .int .i64 b] w fun e w' => e = .returned (.int .i64 (addI a b)) ∧ w' = w := by
  have ha := clampI_bd a
  have hb := clampI_bd b
  go_enter Tryz.func133, Tryz.ntmps133
  go_wp2_with (first | (go_at_call 121; refine (wide_calls _ _).mono ?_; rintro e w' ⟨rfl, rfl⟩) | (go_at_call 60; refine (narrow_calls _ _).mono ?_; rintro e w' ⟨rfl, rfl⟩))
  go_ret
  exact ⟨rfl, rfl⟩

theorem sub_calls (a b : Int) (w : World) : Calls Tryz.prog 134 #[.int .i64 a, .int .i64 b] w fun e w' => e = .returned (.int .i64 (subI a b)) ∧ w' = w := by
  have ha := clampI_bd a
  have hb := clampI_bd b
  go_enter Tryz.func134, Tryz.ntmps134
  go_wp2_with (first | (go_at_call 121; refine (wide_calls _ _).mono ?_; rintro e w' ⟨rfl, rfl⟩) | (go_at_call 60; refine (narrow_calls _ _).mono ?_; rintro e w' ⟨rfl, rfl⟩))
  go_ret
  exact ⟨rfl, rfl⟩

theorem quo_pos (n d : Int) (w : World) (hn0 : 0 ≤ n) (hn1 : n ≤ 4611686018427387904) (hd0 : 0 < d) (hd1 : d ≤ 2147483648) :
    Calls Tryz.prog 120 #[.int .i64 n, .int .i64 d] w fun e w' => e = .returned (.int .i64 (rnd n d)) ∧ ∃ k, w' = w.drewN k := by
  have l := Int.emod_nonneg n (b := d) (by omega)
  have u := Int.emod_lt_of_pos n hd0
  have q0 : 0 ≤ n / d := Int.ediv_nonneg hn0 (by omega)
  have q1 : n / d ≤ n := Int.ediv_le_self _ hn0
  go_enter Tryz.func120, Tryz.ntmps120
  go_wp2
  go_region
  all_goals
    go_wp2
  all_goals
    go_ret
    refine ⟨ret_int (rnd_of rfl rfl ?_ ?_), 1, rfl⟩ <;> intro h <;> (try simp only [bne_iff_ne, bne_eq_false_iff_eq] at *) <;> omega

theorem quo_neg (n d : Int) (w : World) (hn0 : n < 0) (hn1 : -4611686018427387904 ≤ n) (hd0 : 0 < d) (hd1 : d ≤ 2147483648) :
    Calls Tryz.prog 120 #[.int .i64 n, .int .i64 d] w fun e w' => e = .returned (.int .i64 (rnd n d)) ∧ ∃ k, w' = w.drewN k := by
  have t := tmod_bd n d hd0
  have q0 := tdiv_bd n d 4611686018427387904 hn1 (by omega)
  by_cases hr : n.tmod d < 0
  · go_enter Tryz.func120, Tryz.ntmps120
    go_wp2
    go_region
    all_goals
      go_wp2
    all_goals
      go_ret
      have f := (floor_of (n := n) hd0).1 hr
      refine ⟨ret_int (rnd_of f.1 f.2 ?_ ?_), 1, rfl⟩ <;> intro h <;> (try simp only [bne_iff_ne, bne_eq_false_iff_eq, odd_tmod, ne_eq] at *) <;> omega
  · go_enter Tryz.func120, Tryz.ntmps120
    go_wp2
    go_region
    all_goals
      go_wp2
    all_goals
      go_ret
      have f := (floor_of (n := n) hd0).2 (by omega)
      refine ⟨ret_int (rnd_of f.1 f.2 ?_ ?_), 1, rfl⟩ <;> intro h <;> (try simp only [bne_iff_ne, bne_eq_false_iff_eq, odd_tmod, ne_eq] at *) <;> omega

theorem quo_dneg_pos (n d : Int) (w : World) (hn0 : n ≤ 0) (hn1 : -4611686018427387904 ≤ n) (hd0 : d < 0) (hd1 : -2147483648 ≤ d) :
    Calls Tryz.prog 120 #[.int .i64 n, .int .i64 d] w fun e w' => e = .returned (.int .i64 (rnd (-n) (-d))) ∧ ∃ k, w' = w.drewN k := by
  have t := tmod_dneg n d hd0
  have q0 := tdiv_bd n d 4611686018427387904 hn1 (by omega)
  have hs := (tmod_sign n d).1 hn0
  go_enter Tryz.func120, Tryz.ntmps120
  go_wp2
  go_region
  all_goals
    go_wp2
  all_goals
    go_ret
    have f := (floor_dneg (n := n) hd0).2 (by omega)
    refine ⟨ret_int (rnd_of f.1 f.2 ?_ ?_), 1, rfl⟩ <;> intro h <;> (try simp only [bne_iff_ne, bne_eq_false_iff_eq, odd_tmod, ne_eq] at *) <;> omega

theorem quo_dneg_neg (n d : Int) (w : World) (hn0 : 0 < n) (hn1 : n ≤ 4611686018427387904) (hd0 : d < 0) (hd1 : -2147483648 ≤ d) :
    Calls Tryz.prog 120 #[.int .i64 n, .int .i64 d] w fun e w' => e = .returned (.int .i64 (rnd (-n) (-d))) ∧ ∃ k, w' = w.drewN k := by
  have t := tmod_dneg n d hd0
  have q0 := tdiv_bd n d 4611686018427387904 (by omega) hn1
  have hs := ((tmod_sign n d).2 (by omega)).2
  have he := ((tmod_sign n d).2 (by omega)).1
  rw [he] at t hs
  clear he
  by_cases hr : -(n % d) < 0
  · go_enter Tryz.func120, Tryz.ntmps120
    go_wp2
    go_region
    all_goals
      go_wp2
    all_goals
      go_ret
      all_goals
      have f := (floor_dneg (n := n) hd0).1
      rw [((tmod_sign n d).2 (by omega)).1] at f
      have f := f (by omega)
      refine ⟨ret_int (rnd_of f.1 f.2 ?_ ?_), 1, rfl⟩ <;> intro h <;> (try simp only [bne_iff_ne, bne_eq_false_iff_eq, odd_tmod, ne_eq] at *) <;> omega
  · go_enter Tryz.func120, Tryz.ntmps120
    go_wp2
    go_region
    all_goals
      go_wp2
    all_goals
      go_ret
      all_goals
      have f := (floor_dneg (n := n) hd0).2
      rw [((tmod_sign n d).2 (by omega)).1] at f
      have f := f (by omega)
      refine ⟨ret_int (rnd_of f.1 f.2 ?_ ?_), 1, rfl⟩ <;> intro h <;> omega

theorem quo_calls (n d : Int) (w : World) (hn0 : -4611686018427387904 ≤ n) (hn1 : n ≤ 4611686018427387904) (hd : d ≠ 0) (hd0 : -2147483648 ≤ d) (hd1 : d ≤ 2147483648) :
    Calls Tryz.prog 120 #[.int .i64 n, .int .i64 d] w fun e w' => e = .returned (.int .i64 (quoI n d)) ∧ ∃ k, w' = w.drewN k := by
  unfold quoI
  by_cases c : d < 0
  · rw [if_pos c]
    by_cases c2 : n ≤ 0
    · exact quo_dneg_pos n d w c2 hn0 c hd0
    · exact quo_dneg_neg n d w (by omega) hn1 c hd0
  · rw [if_neg c]
    by_cases c2 : 0 ≤ n
    · exact quo_pos n d w c2 hn1 (by omega) hd1
    · exact quo_neg n d w (by omega) hn0 (by omega) hd1

theorem mul_calls (a b : Int) (w : World) : Calls Tryz.prog 97 #[.int .i64 a, .int .i64 b] w fun e w' => e = .returned (.int .i64 (mulI a b)) ∧ ∃ k, w' = w.drewN k := by
  have hp := prod_bd _ _ (clampI_bd a) (clampI_bd b)
  go_enter Tryz.func97, Tryz.ntmps97
  go_wp2_with (first | (go_at_call 121; refine (wide_calls _ _).mono ?_; rintro e w' ⟨rfl, rfl⟩) | (go_at_call 60; refine (narrow_calls _ _).mono ?_; rintro e w' ⟨rfl, rfl⟩) | (go_at_call 120; refine (quo_calls _ _ _ (by omega) (by omega) (by omega) (by omega) (by omega)).mono ?_; rintro e w' ⟨rfl, k, rfl⟩))
  go_ret
  exact ⟨rfl, _, rfl⟩

theorem div_none (a : Int) (w : World) : Calls Tryz.prog 91 #[.int .i64 a, .int .i64 0] w fun e w' => e = .returned (.tuple #[.int .i64 0, .int .i64 1]) ∧ w' = w := by
  go_enter Tryz.func91, Tryz.ntmps91
  go_wp2
  go_ret2
  exact ⟨rfl, rfl⟩

theorem div_zero (a b : Int) (hb : b = 0) (w : World) : Calls Tryz.prog 91 #[.int .i64 a, .int .i64 b] w fun e w' => e = .returned (.tuple #[.int .i64 0, .int .i64 1]) ∧ w' = w := by
  subst hb; exact div_none a w

theorem div_calls (a b : Int) (w : World) (hb : b ≠ 0) : Calls Tryz.prog 91 #[.int .i64 a, .int .i64 b] w fun e w' => e = .returned (.tuple #[.int .i64 (divI a b), .int .i64 0]) ∧ ∃ k, w' = w.drewN k := by
  have ha := clampI_bd a
  have hc := clampI_bd b
  have hz : (b == 0) = false := beq_eq_false_iff_ne.2 hb
  have hn := clampI_ne hb
  go_enter Tryz.func91, Tryz.ntmps91
  go_wp2_with (first | (go_at_call 121; refine (wide_calls _ _).mono ?_; rintro e w' ⟨rfl, rfl⟩) | (go_at_call 60; refine (narrow_calls _ _).mono ?_; rintro e w' ⟨rfl, rfl⟩) | (go_at_call 120; refine (quo_calls _ _ _ (by omega) (by omega) (by omega) (by omega) (by omega)).mono ?_; rintro e w' ⟨rfl, k, rfl⟩))
  go_ret2
  exact ⟨rfl, _, rfl⟩

end Go.Proofs.YtfcnnolpcnacoaaGreatDoor.Fx
