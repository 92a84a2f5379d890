/- What coachref's Config and Rate return. -/
import Derived.Test.YtnlcheebdkjpbabGreatJ13
namespace Go.Proofs.YtnlcheebdkjpbabGreat.Fx
open Go.RowKit

-- WALK
set_option maxHeartbeats 3200000 in
theorem rconfig_calls (c : Cfg) (w : World) : Calls Tryz.prog 5 #[c.val] w fun e w' => e = .returned (.int .i64 (cfgI c)) ∧ Below w.heap.size w w' := by
  have hal := (Below.refl w.heap.size w).alloc (Nat.le_refl _) (.cells c.cells 24)
  obtain ⟨i, h, o, seed, batch, steps, rate, decay, how, keep, clip⟩ := c
  simp only [Cfg.val, Cfg.cells] at *
  unfold cfgI cfgB
  dsimp only
  obtain ⟨x1, X1⟩ : ∃ x, Hid (inB i 1 4 = x) := ⟨_, rfl⟩
  obtain ⟨x2, X2⟩ : ∃ x, Hid (inB h 1 4 = x) := ⟨_, rfl⟩
  obtain ⟨x3, X3⟩ : ∃ x, Hid (inB o 1 4 = x) := ⟨_, rfl⟩
  obtain ⟨x4, X4⟩ : ∃ x, Hid (inB batch 1 8 = x) := ⟨_, rfl⟩
  obtain ⟨x5, X5⟩ : ∃ x, Hid (inB steps 1 40 = x) := ⟨_, rfl⟩
  obtain ⟨x6, X6⟩ : ∃ x, Hid (inB rate 0 2147483647 = x) := ⟨_, rfl⟩
  obtain ⟨x7, X7⟩ : ∃ x, Hid (inB decay 0 1 = x) := ⟨_, rfl⟩
  obtain ⟨x8, X8⟩ : ∃ x, Hid (inB how 0 1 = x) := ⟨_, rfl⟩
  obtain ⟨x9, X9⟩ : ∃ x, Hid (inB keep 0 65536 = x) := ⟨_, rfl⟩
  obtain ⟨x10, X10⟩ : ∃ x, Hid (inB clip 0 2147483647 = x) := ⟨_, rfl⟩
  rw [X1.out, X2.out, X3.out, X4.out, X5.out, X6.out, X7.out, X8.out, X9.out, X10.out]
  obtain ⟨E, HE⟩ : ∃ E : Int, Hid ((if (x1 && x2 && x3 && x4 && x5 && x6 && x7 && x8 && x9 && x10) = true then 0 else 1) = E) := ⟨_, rfl⟩
  rw [HE.out]
  go_enter Tryz.func5, Tryz.ntmps5
  go_wp2_with (go_at_call 9; refine (rin_calls _ _ _ _).mono ?_; rintro e w' ⟨rfl, hw'⟩; replace hw' := hw'.symm; subst hw'; first | rw [X1.out] | rw [X2.out] | rw [X3.out] | rw [X4.out] | rw [X5.out] | rw [X6.out] | rw [X7.out] | rw [X8.out] | rw [X9.out] | rw [X10.out])
  all_goals go_ret
  all_goals first | exact ⟨ret_int ((bad1 (by first | with_reducible assumption | exact not_t (by with_reducible assumption) | exact no_t (by with_reducible assumption))).trans HE.out), hal⟩ | exact ⟨ret_int ((bad2 (by first | with_reducible assumption | exact not_t (by with_reducible assumption) | exact no_t (by with_reducible assumption))).trans HE.out), hal⟩ | exact ⟨ret_int ((bad3 (by first | with_reducible assumption | exact not_t (by with_reducible assumption) | exact no_t (by with_reducible assumption))).trans HE.out), hal⟩ | exact ⟨ret_int ((bad4 (by first | with_reducible assumption | exact not_t (by with_reducible assumption) | exact no_t (by with_reducible assumption))).trans HE.out), hal⟩ | exact ⟨ret_int ((bad5 (by first | with_reducible assumption | exact not_t (by with_reducible assumption) | exact no_t (by with_reducible assumption))).trans HE.out), hal⟩ | exact ⟨ret_int ((bad6 (by first | with_reducible assumption | exact not_t (by with_reducible assumption) | exact no_t (by with_reducible assumption))).trans HE.out), hal⟩ | exact ⟨ret_int ((bad7 (by first | with_reducible assumption | exact not_t (by with_reducible assumption) | exact no_t (by with_reducible assumption))).trans HE.out), hal⟩ | exact ⟨ret_int ((bad8 (by first | with_reducible assumption | exact not_t (by with_reducible assumption) | exact no_t (by with_reducible assumption))).trans HE.out), hal⟩ | exact ⟨ret_int ((bad9 (by first | with_reducible assumption | exact not_t (by with_reducible assumption) | exact no_t (by with_reducible assumption))).trans HE.out), hal⟩ | exact ⟨ret_int ((bad10 (by first | with_reducible assumption | exact not_t (by with_reducible assumption) | exact no_t (by with_reducible assumption))).trans HE.out), hal⟩ | exact ⟨ret_int ((bad0 (by first | with_reducible assumption | exact not_f (by with_reducible assumption)) (by first | with_reducible assumption | exact not_f (by with_reducible assumption)) (by first | with_reducible assumption | exact not_f (by with_reducible assumption)) (by first | with_reducible assumption | exact not_f (by with_reducible assumption)) (by first | with_reducible assumption | exact not_f (by with_reducible assumption)) (by first | with_reducible assumption | exact not_f (by with_reducible assumption)) (by first | with_reducible assumption | exact not_f (by with_reducible assumption)) (by first | with_reducible assumption | exact not_f (by with_reducible assumption)) (by first | with_reducible assumption | exact not_f (by with_reducible assumption)) (by first | with_reducible assumption | exact not_f (by with_reducible assumption))).trans HE.out), hal⟩
-- END WALK

set_option maxHeartbeats 800000 in
theorem rrate_calls (c : Cfg) (step : Int) (w : World) (h0 : 1 ≤ c.steps) (h1 : c.steps ≤ 40) (h2 : 0 ≤ step) (h3 : step ≤ 40) :
    Calls Tryz.prog 33 #[c.val, .int .i64 step] w fun e w' => e = .returned (.int .i64 (rateV c step)) ∧ Below w.heap.size w w' := by
  have hal := (Below.refl w.heap.size w).alloc (Nat.le_refl _) (.cells c.cells 24)
  unfold rateV
  obtain ⟨i, h, o, seed, batch, steps, rate, decay, how, keep, clip⟩ := c
  simp only [Cfg.val, Cfg.cells] at *
  by_cases hd : decay = 1
  · have hd' : (decay == 1) = true := by simpa using hd
    rw [if_pos hd]
    clear hd
    have hw : IntKind.i64.wrap (steps - step) = steps - step := wrap_in _ (by omega) (by omega)
    go_enter Tryz.func33, Tryz.ntmps33
    go_wp2
    go_quiet ((first | (go_at_call 38; exact Calls.quiet_of_same (rdiv_calls _ _ _ (by omega))) | (go_at_call 57; exact Calls.quiet_of_same (rmul_calls _ _ _))))
    go_wp2
    go_ret
    exact ⟨rfl, below_drewN hal _⟩
  · have hd' : (decay == 1) = false := by simpa using hd
    rw [if_neg hd]
    clear hd
    go_enter Tryz.func33, Tryz.ntmps33
    go_wp2
    go_ret
    exact ⟨rfl, hal⟩

end Go.Proofs.YtnlcheebdkjpbabGreat.Fx
