/- What optim's within, isSide, Check and Rate return, whatever is handed in. -/
import Derived.Test.YtllgpjhbhndlhaeOpts
import Derived.Test.YtllgpjhbhndlhaeVecB
namespace Go.Proofs.Ytllgpjhbhndlhae.Fx
open Go.RowKit

theorem within_calls (n lo hi : Int) (w : World) : Calls Try.prog 40 #[.int .i64 n, .int .i64 lo, .int .i64 hi] w fun e w' => e = .returned (.bool (inB n lo hi)) ∧ w' = w := by
  unfold inB
  by_cases h1 : lo ≤ n
  · by_cases h2 : n ≤ hi
    · go_enter Try.func40, Try.ntmps40
      go_wp2
      go_ret
      exact ⟨ret_bool (by simp [h1, h2]), rfl⟩
    · go_enter Try.func40, Try.ntmps40
      go_wp2
      go_ret
      exact ⟨ret_bool (by simp; omega), rfl⟩
  · go_enter Try.func40, Try.ntmps40
    go_wp2
    go_ret
    exact ⟨ret_bool (by simp; omega), rfl⟩

theorem oside_calls (n : Int) (w : World) : Calls Try.prog 68 #[.int .i64 n] w fun e w' => e = .returned (.bool (inB n 1 4)) ∧ w' = w := by
  go_enter Try.func68, Try.ntmps68
  go_wp2_with (go_at_call 40; refine (within_calls _ _ _ _).mono ?_; rintro e w' ⟨rfl, hw'⟩; replace hw' := hw'.symm; subst hw')
  go_ret
  exact ⟨rfl, rfl⟩

-- LEMMAS
theorem bad1 {x1 x2 x3 x4 x5 x6 x7 x8 x9 x10 : Bool} (h : x1 = false) : (1 : Int) = if (x1 && x2 && x3 && x4 && x5 && x6 && x7 && x8 && x9 && x10) = true then 0 else 1 := by subst h; simp
theorem bad2 {x1 x2 x3 x4 x5 x6 x7 x8 x9 x10 : Bool} (h : x2 = false) : (1 : Int) = if (x1 && x2 && x3 && x4 && x5 && x6 && x7 && x8 && x9 && x10) = true then 0 else 1 := by subst h; simp
theorem bad3 {x1 x2 x3 x4 x5 x6 x7 x8 x9 x10 : Bool} (h : x3 = false) : (1 : Int) = if (x1 && x2 && x3 && x4 && x5 && x6 && x7 && x8 && x9 && x10) = true then 0 else 1 := by subst h; simp
theorem bad4 {x1 x2 x3 x4 x5 x6 x7 x8 x9 x10 : Bool} (h : x4 = false) : (1 : Int) = if (x1 && x2 && x3 && x4 && x5 && x6 && x7 && x8 && x9 && x10) = true then 0 else 1 := by subst h; simp
theorem bad5 {x1 x2 x3 x4 x5 x6 x7 x8 x9 x10 : Bool} (h : x5 = false) : (1 : Int) = if (x1 && x2 && x3 && x4 && x5 && x6 && x7 && x8 && x9 && x10) = true then 0 else 1 := by subst h; simp
theorem bad6 {x1 x2 x3 x4 x5 x6 x7 x8 x9 x10 : Bool} (h : x6 = false) : (1 : Int) = if (x1 && x2 && x3 && x4 && x5 && x6 && x7 && x8 && x9 && x10) = true then 0 else 1 := by subst h; simp
theorem bad7 {x1 x2 x3 x4 x5 x6 x7 x8 x9 x10 : Bool} (h : x7 = false) : (1 : Int) = if (x1 && x2 && x3 && x4 && x5 && x6 && x7 && x8 && x9 && x10) = true then 0 else 1 := by subst h; simp
theorem bad8 {x1 x2 x3 x4 x5 x6 x7 x8 x9 x10 : Bool} (h : x8 = false) : (1 : Int) = if (x1 && x2 && x3 && x4 && x5 && x6 && x7 && x8 && x9 && x10) = true then 0 else 1 := by subst h; simp
theorem bad9 {x1 x2 x3 x4 x5 x6 x7 x8 x9 x10 : Bool} (h : x9 = false) : (1 : Int) = if (x1 && x2 && x3 && x4 && x5 && x6 && x7 && x8 && x9 && x10) = true then 0 else 1 := by subst h; simp
theorem bad10 {x1 x2 x3 x4 x5 x6 x7 x8 x9 x10 : Bool} (h : x10 = false) : (1 : Int) = if (x1 && x2 && x3 && x4 && x5 && x6 && x7 && x8 && x9 && x10) = true then 0 else 1 := by subst h; simp
theorem bad0 {x1 x2 x3 x4 x5 x6 x7 x8 x9 x10 : Bool} (h1 : x1 = true) (h2 : x2 = true) (h3 : x3 = true) (h4 : x4 = true) (h5 : x5 = true) (h6 : x6 = true) (h7 : x7 = true) (h8 : x8 = true) (h9 : x9 = true) (h10 : x10 = true) : (0 : Int) = if (x1 && x2 && x3 && x4 && x5 && x6 && x7 && x8 && x9 && x10) = true then 0 else 1 := by subst h1 h2 h3 h4 h5 h6 h7 h8 h9 h10; rfl
theorem not_t {x : Bool} (h : (!x) = true) : x = false := by cases x with
  | false => rfl
  | true => cases h
theorem not_f {x : Bool} (h : (!x) = false) : x = true := by cases x with
  | false => cases h
  | true => rfl
theorem no_t {x : Bool} (h : ¬ x = true) : x = false := by cases x with
  | false => rfl
  | true => exact absurd rfl h
-- END LEMMAS

-- WALK
set_option maxHeartbeats 1600000 in
theorem check_calls (c : Cfg) (w : World) : Calls Try.prog 45 #[c.val] w fun e w' => e = .returned (.int .i64 (cfgI c)) ∧ Below w.heap.size w w' := by
  have hal := (Below.refl w.heap.size w).alloc (Nat.le_refl _) (.cells c.cells 49)
  obtain ⟨i, h, o, seed, batch, steps, rate, decay, how, keep, clip⟩ := c
  simp only [Cfg.val, Cfg.cells] at *
  unfold cfgI cfgB
  dsimp only
  obtain ⟨x1, X1⟩ : ∃ x, Hid (inB i 1 4 = x) := ⟨_, rfl⟩
  obtain ⟨x2, X2⟩ : ∃ x, Hid (inB h 1 4 = x) := ⟨_, rfl⟩
  obtain ⟨x3, X3⟩ : ∃ x, Hid (inB o 1 4 = x) := ⟨_, rfl⟩
  obtain ⟨x4, X4⟩ : ∃ x, Hid (inB batch 1 8 = x) := ⟨_, rfl⟩
  obtain ⟨x5, X5⟩ : ∃ x, Hid (inB steps 1 40 = x) := ⟨_, rfl⟩
  obtain ⟨x6, X6⟩ : ∃ x, Hid (inB rate 0 2147483647 = x) := ⟨_, rfl⟩
  obtain ⟨x7, X7⟩ : ∃ x, Hid (inB decay 0 1 = x) := ⟨_, rfl⟩
  obtain ⟨x8, X8⟩ : ∃ x, Hid (inB how 0 1 = x) := ⟨_, rfl⟩
  obtain ⟨x9, X9⟩ : ∃ x, Hid (inB keep 0 65536 = x) := ⟨_, rfl⟩
  obtain ⟨x10, X10⟩ : ∃ x, Hid (inB clip 0 2147483647 = x) := ⟨_, rfl⟩
  rw [X1.out, X2.out, X3.out, X4.out, X5.out, X6.out, X7.out, X8.out, X9.out, X10.out]
  obtain ⟨E, HE⟩ : ∃ E : Int, Hid ((if (x1 && x2 && x3 && x4 && x5 && x6 && x7 && x8 && x9 && x10) = true then 0 else 1) = E) := ⟨_, rfl⟩
  rw [HE.out]
  go_enter Try.func45, Try.ntmps45
  go_wp2_with (first | (go_at_call 68; refine (oside_calls _ _).mono ?_; rintro e w' ⟨rfl, hw'⟩; replace hw' := hw'.symm; subst hw'; first | rw [X1.out] | rw [X2.out] | rw [X3.out]) | (go_at_call 40; refine (within_calls _ _ _ _).mono ?_; rintro e w' ⟨rfl, hw'⟩; replace hw' := hw'.symm; subst hw'; first | rw [X4.out] | rw [X5.out] | rw [X6.out] | rw [X7.out] | rw [X8.out] | rw [X9.out] | rw [X10.out]))
  all_goals go_ret
  all_goals first | exact ⟨ret_int ((bad1 (by first | with_reducible assumption | exact not_t (by with_reducible assumption) | exact no_t (by with_reducible assumption))).trans HE.out), hal⟩ | exact ⟨ret_int ((bad2 (by first | with_reducible assumption | exact not_t (by with_reducible assumption) | exact no_t (by with_reducible assumption))).trans HE.out), hal⟩ | exact ⟨ret_int ((bad3 (by first | with_reducible assumption | exact not_t (by with_reducible assumption) | exact no_t (by with_reducible assumption))).trans HE.out), hal⟩ | exact ⟨ret_int ((bad4 (by first | with_reducible assumption | exact not_t (by with_reducible assumption) | exact no_t (by with_reducible assumption))).trans HE.out), hal⟩ | exact ⟨ret_int ((bad5 (by first | with_reducible assumption | exact not_t (by with_reducible assumption) | exact no_t (by with_reducible assumption))).trans HE.out), hal⟩ | exact ⟨ret_int ((bad6 (by first | with_reducible assumption | exact not_t (by with_reducible assumption) | exact no_t (by with_reducible assumption))).trans HE.out), hal⟩ | exact ⟨ret_int ((bad7 (by first | with_reducible assumption | exact not_t (by with_reducible assumption) | exact no_t (by with_reducible assumption))).trans HE.out), hal⟩ | exact ⟨ret_int ((bad8 (by first | with_reducible assumption | exact not_t (by with_reducible assumption) | exact no_t (by with_reducible assumption))).trans HE.out), hal⟩ | exact ⟨ret_int ((bad9 (by first | with_reducible assumption | exact not_t (by with_reducible assumption) | exact no_t (by with_reducible assumption))).trans HE.out), hal⟩ | exact ⟨ret_int ((bad10 (by first | with_reducible assumption | exact not_t (by with_reducible assumption) | exact no_t (by with_reducible assumption))).trans HE.out), hal⟩ | exact ⟨ret_int ((bad0 (by first | with_reducible assumption | exact not_f (by with_reducible assumption)) (by first | with_reducible assumption | exact not_f (by with_reducible assumption)) (by first | with_reducible assumption | exact not_f (by with_reducible assumption)) (by first | with_reducible assumption | exact not_f (by with_reducible assumption)) (by first | with_reducible assumption | exact not_f (by with_reducible assumption)) (by first | with_reducible assumption | exact not_f (by with_reducible assumption)) (by first | with_reducible assumption | exact not_f (by with_reducible assumption)) (by first | with_reducible assumption | exact not_f (by with_reducible assumption)) (by first | with_reducible assumption | exact not_f (by with_reducible assumption)) (by first | with_reducible assumption | exact not_f (by with_reducible assumption))).trans HE.out), hal⟩
-- END WALK

set_option maxHeartbeats 1600000 in
theorem rate_calls (c : Cfg) (step : Int) (w : World) : Calls Try.prog 24 #[c.val, .int .i64 step] w fun e w' => e = .returned (.tuple #[.int .i64 (rateI c step), .int .i64 (rateE c step)]) ∧ Below w.heap.size w w' := by
  have hal := (Below.refl w.heap.size w).alloc (Nat.le_refl _) (.cells c.cells 49)
  cases hc : cfgB c with
  | false =>
    have HI : Hid (cfgI c = 1) := cfgI_no hc
    have HR : Hid (rateI c step = 0) := if_neg (fun g => by rw [hc] at g; cases g.1)
    have HE : Hid (rateE c step = 1) := if_neg (fun g => by rw [hc] at g; cases g.1)
    rw [HR.out, HE.out]
    have K := check_calls c (w.alloc (.cells c.cells 49))
    rw [HI.out] at K
    have HK : Hid (Calls Try.prog 45 #[c.val] (w.alloc (.cells c.cells 49)) fun e w' => e = .returned (.int .i64 1) ∧ Below (w.alloc (.cells c.cells 49)).heap.size (w.alloc (.cells c.cells 49)) w') := K
    clear K hc HI HR HE
    obtain ⟨i, h, o, seed, batch, steps, rate, decay, how, keep, clip⟩ := c
    simp only [Cfg.val, Cfg.cells] at *
    go_enter Try.func24, Try.ntmps24
    go_wp2_with fail
    refine HK.out.mono ?_
    rintro e w1 ⟨rfl, hw1⟩
    go_wp2
    go_ret2
    exact ⟨rfl, hal.trans (hw1.mono hal.size)⟩
  | true =>
    obtain ⟨_, _, _, _, ⟨s1, s2⟩, ⟨r1, r2⟩, ⟨d1, d2⟩, _⟩ := cfgB_is hc
    have K := check_calls c (w.alloc (.cells c.cells 49))
    rw [cfgI_yes hc] at K
    obtain ⟨R, HR⟩ : ∃ R, Hid (rateI c step = R) := ⟨_, rfl⟩
    obtain ⟨E, HE⟩ : ∃ E, Hid (rateE c step = E) := ⟨_, rfl⟩
    rw [HR.out, HE.out]
    have HR' := HR.out
    have HE' := HE.out
    unfold rateI at HR'
    unfold rateE at HE'
    cases hs : inB step 0 (c.steps - 1) with
    | false =>
      rw [if_neg (fun g => by rw [hs] at g; cases g.2)] at HR' HE'
      subst HR' HE'
      have HS : Hid (inB step 0 (c.steps - 1) = false) := hs
      have HK : Hid (Calls Try.prog 45 #[c.val] (w.alloc (.cells c.cells 49)) fun e w' => e = .returned (.int .i64 0) ∧ Below (w.alloc (.cells c.cells 49)).heap.size (w.alloc (.cells c.cells 49)) w') := K
      clear K hs HR HE hc
      obtain ⟨i, h, o, seed, batch, steps, rate, decay, how, keep, clip⟩ := c
      simp only [Cfg.val, Cfg.cells] at *
      go_enter Try.func24, Try.ntmps24
      go_wp2_with fail
      refine HK.out.mono ?_
      rintro e w1 ⟨rfl, hw1⟩
      obtain ⟨c0, c1, c2, c3, c4, c5, c6, c7, c8, c9, c10⟩ := boxC (c := ⟨i, h, o, seed, batch, steps, rate, decay, how, keep, clip⟩) hw1 (by simp)
      go_wp2_with (go_at_call 40; refine (within_calls _ _ _ _).mono ?_; rintro e w' ⟨rfl, hw'⟩; replace hw' := hw'.symm; subst hw'; rw [HS.out])
      go_ret2
      exact ⟨rfl, hal.trans (hw1.mono hal.size)⟩
    | true =>
      rw [if_pos ⟨hc, hs⟩] at HR' HE'
      have HS : Hid (inB step 0 (c.steps - 1) = true) := hs
      have hst := in_is hs
      subst HE'
      have HV : Hid (rateV c step = R) := HR'
      have HK : Hid (Calls Try.prog 45 #[c.val] (w.alloc (.cells c.cells 49)) fun e w' => e = .returned (.int .i64 0) ∧ Below (w.alloc (.cells c.cells 49)).heap.size (w.alloc (.cells c.cells 49)) w') := K
      clear K hs HR HE HR' hc
      obtain ⟨i, h, o, seed, batch, steps, rate, decay, how, keep, clip⟩ := c
      simp only [Cfg.val, Cfg.cells] at *
      by_cases hd : decay = 0
      · have hd' : (decay == 0) = true := by simpa using hd
        have hv : rate = R := by
          have := HV.out
          unfold rateV at this
          dsimp only at this
          rw [if_neg (by omega)] at this
          exact this
        subst hv
        clear hd
        go_enter Try.func24, Try.ntmps24
        go_wp2_with fail
        refine HK.out.mono ?_
        rintro e w1 ⟨rfl, hw1⟩
        obtain ⟨c0, c1, c2, c3, c4, c5, c6, c7, c8, c9, c10⟩ := boxC (c := ⟨i, h, o, seed, batch, steps, rate, decay, how, keep, clip⟩) hw1 (by simp)
        go_wp2_with (go_at_call 40; refine (within_calls _ _ _ _).mono ?_; rintro e w' ⟨rfl, hw'⟩; replace hw' := hw'.symm; subst hw'; rw [HS.out])
        go_ret2
        exact ⟨rfl, hal.trans (hw1.mono hal.size)⟩
      · have hd' : (decay == 0) = false := by simpa using hd
        have hv : mulI rate (divI (steps - step) steps) = R := by
          have := HV.out
          unfold rateV at this
          dsimp only at this
          rw [if_pos (by omega)] at this
          exact this
        subst hv
        clear hd HV
        go_enter Try.func24, Try.ntmps24
        go_wp2_with fail
        refine HK.out.mono ?_
        rintro e w1 ⟨rfl, hw1⟩
        obtain ⟨c0, c1, c2, c3, c4, c5, c6, c7, c8, c9, c10⟩ := boxC (c := ⟨i, h, o, seed, batch, steps, rate, decay, how, keep, clip⟩) hw1 (by simp)
        dsimp only at c0 c1 c2 c3 c4 c5 c6 c7 c8 c9 c10
        go_wp2_with (first | (go_at_call 40; refine (within_calls _ _ _ _).mono ?_; rintro e w' ⟨rfl, hw'⟩; replace hw' := hw'.symm; subst hw'; rw [HS.out]) | (go_at_call 43; refine (div_calls _ _ _ (by omega)).mono ?_; rintro e w' ⟨rfl, k1, hw'⟩; subst hw') | (go_at_call 46; refine (mul_calls _ _ _).mono ?_; rintro e w' ⟨rfl, k2, hw'⟩; subst hw'))
        go_ret2
        exact ⟨rfl, below_drewN (hal.trans (hw1.mono hal.size)) _⟩

end Go.Proofs.Ytllgpjhbhndlhae.Fx
