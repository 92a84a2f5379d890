/- What optim's within, isSide, Check and Rate return, whatever is handed in. -/
import Derived.Test.YtnlcheebdkjpbabGreatJ00
import Derived.Test.YtnlcheebdkjpbabGreatJ03
namespace Go.Proofs.YtnlcheebdkjpbabGreat.Fx
open Go.RowKit

theorem within_calls (n lo hi : Int) (w : World) : Calls Tryz.prog 64 #[.int .i64 n, .int .i64 lo, .int .i64 hi] w fun e w' => e = .returned (.bool (inB n lo hi)) ∧ w' = w := by
  unfold inB
  by_cases h1 : lo ≤ n
  · by_cases h2 : n ≤ hi
    · go_enter Tryz.func64, Tryz.ntmps64
      go_wp2
      go_ret
      exact ⟨ret_bool (by simp [h1, h2]), rfl⟩
    · go_enter Tryz.func64, Tryz.ntmps64
      go_wp2
      go_ret
      exact ⟨ret_bool (by simp; omega), rfl⟩
  · go_enter Tryz.func64, Tryz.ntmps64
    go_wp2
    go_ret
    exact ⟨ret_bool (by simp; omega), rfl⟩

theorem oside_calls (n : Int) (w : World) : Calls Tryz.prog 63 #[.int .i64 n] w fun e w' => e = .returned (.bool (inB n 1 4)) ∧ w' = w := by
  go_enter Tryz.func63, Tryz.ntmps63
  go_wp2_with (go_at_call 64; refine (within_calls _ _ _ _).mono ?_; rintro e w' ⟨rfl, hw'⟩; replace hw' := hw'.symm; subst hw')
  go_ret
  exact ⟨rfl, rfl⟩

-- LEMMAS
theorem bad1 {x1 x2 x3 x4 x5 x6 x7 x8 x9 x10 : Bool} (h : x1 = false) : (1 : Int) = if (x1 && x2 && x3 && x4 && x5 && x6 && x7 && x8 && x9 && x10) = true then 0 else 1 := by subst h; simp
theorem bad2 {x1 x2 x3 x4 x5 x6 x7 x8 x9 x10 : Bool} (h : x2 = false) : (1 : Int) = if (x1 && x2 && x3 && x4 && x5 && x6 && x7 && x8 && x9 && x10) = true then 0 else 1 := by subst h; simp
theorem bad3 {x1 x2 x3 x4 x5 x6 x7 x8 x9 x10 : Bool} (h : x3 = false) : (1 : Int) = if (x1 && x2 && x3 && x4 && x5 && x6 && x7 && x8 && x9 && x10) = true then 0 else 1 := by subst h; simp
theorem bad4 {x1 x2 x3 x4 x5 x6 x7 x8 x9 x10 : Bool} (h : x4 = false) : (1 : Int) = if (x1 && x2 && x3 && x4 && x5 && x6 && x7 && x8 && x9 && x10) = true then 0 else 1 := by subst h; simp
theorem bad5 {x1 x2 x3 x4 x5 x6 x7 x8 x9 x10 : Bool} (h : x5 = false) : (1 : Int) = if (x1 && x2 && x3 && x4 && x5 && x6 && x7 && x8 && x9 && x10) = true then 0 else 1 := by subst h; simp
theorem bad6 {x1 x2 x3 x4 x5 x6 x7 x8 x9 x10 : Bool} (h : x6 = false) : (1 : Int) = if (x1 && x2 && x3 && x4 && x5 && x6 && x7 && x8 && x9 && x10) = true then 0 else 1 := by subst h; simp
theorem bad7 {x1 x2 x3 x4 x5 x6 x7 x8 x9 x10 : Bool} (h : x7 = false) : (1 : Int) = if (x1 && x2 && x3 && x4 && x5 && x6 && x7 && x8 && x9 && x10) = true then 0 else 1 := by subst h; simp
theorem bad8 {x1 x2 x3 x4 x5 x6 x7 x8 x9 x10 : Bool} (h : x8 = false) : (1 : Int) = if (x1 && x2 && x3 && x4 && x5 && x6 && x7 && x8 && x9 && x10) = true then 0 else 1 := by subst h; simp
theorem bad9 {x1 x2 x3 x4 x5 x6 x7 x8 x9 x10 : Bool} (h : x9 = false) : (1 : Int) = if (x1 && x2 && x3 && x4 && x5 && x6 && x7 && x8 && x9 && x10) = true then 0 else 1 := by subst h; simp
theorem bad10 {x1 x2 x3 x4 x5 x6 x7 x8 x9 x10 : Bool} (h : x10 = false) : (1 : Int) = if (x1 && x2 && x3 && x4 && x5 && x6 && x7 && x8 && x9 && x10) = true then 0 else 1 := by subst h; simp
theorem bad0 {x1 x2 x3 x4 x5 x6 x7 x8 x9 x10 : Bool} (h1 : x1 = true) (h2 : x2 = true) (h3 : x3 = true) (h4 : x4 = true) (h5 : x5 = true) (h6 : x6 = true) (h7 : x7 = true) (h8 : x8 = true) (h9 : x9 = true) (h10 : x10 = true) : (0 : Int) = if (x1 && x2 && x3 && x4 && x5 && x6 && x7 && x8 && x9 && x10) = true then 0 else 1 := by subst h1 h2 h3 h4 h5 h6 h7 h8 h9 h10; rfl
theorem not_t {x : Bool} (h : (!x) = true) : x = false := by cases x with
  | false => rfl
  | true => cases h
theorem not_f {x : Bool} (h : (!x) = false) : x = true := by cases x with
  | false => cases h
  | true => rfl
theorem no_t {x : Bool} (h : ¬ x = true) : x = false := by cases x with
  | false => rfl
  | true => exact absurd rfl h
-- END LEMMAS

-- WALK
set_option maxHeartbeats 1600000 in
theorem ocheck_calls (c : Cfg) (w : World) : Calls Tryz.prog 41 #[c.val] w fun e w' => e = .returned (.int .i64 (cfgI c)) ∧ Below w.heap.size w w' := by
  have hal := (Below.refl w.heap.size w).alloc (Nat.le_refl _) (.cells c.cells 24)
  obtain ⟨i, h, o, seed, batch, steps, rate, decay, how, keep, clip⟩ := c
  simp only [Cfg.val, Cfg.cells] at *
  unfold cfgI cfgB
  dsimp only
  obtain ⟨x1, X1⟩ : ∃ x, Hid (inB i 1 4 = x) := ⟨_, rfl⟩
  obtain ⟨x2, X2⟩ : ∃ x, Hid (inB h 1 4 = x) := ⟨_, rfl⟩
  obtain ⟨x3, X3⟩ : ∃ x, Hid (inB o 1 4 = x) := ⟨_, rfl⟩
  obtain ⟨x4, X4⟩ : ∃ x, Hid (inB batch 1 8 = x) := ⟨_, rfl⟩
  obtain ⟨x5, X5⟩ : ∃ x, Hid (inB steps 1 40 = x) := ⟨_, rfl⟩
  obtain ⟨x6, X6⟩ : ∃ x, Hid (inB rate 0 2147483647 = x) := ⟨_, rfl⟩
  obtain ⟨x7, X7⟩ : ∃ x, Hid (inB decay 0 1 = x) := ⟨_, rfl⟩
  obtain ⟨x8, X8⟩ : ∃ x, Hid (inB how 0 1 = x) := ⟨_, rfl⟩
  obtain ⟨x9, X9⟩ : ∃ x, Hid (inB keep 0 65536 = x) := ⟨_, rfl⟩
  obtain ⟨x10, X10⟩ : ∃ x, Hid (inB clip 0 2147483647 = x) := ⟨_, rfl⟩
  rw [X1.out, X2.out, X3.out, X4.out, X5.out, X6.out, X7.out, X8.out, X9.out, X10.out]
  obtain ⟨E, HE⟩ : ∃ E : Int, Hid ((if (x1 && x2 && x3 && x4 && x5 && x6 && x7 && x8 && x9 && x10) = true then 0 else 1) = E) := ⟨_, rfl⟩
  rw [HE.out]
  go_enter Tryz.func41, Tryz.ntmps41
  go_wp2_with (first | (go_at_call 63; refine (oside_calls _ _).mono ?_; rintro e w' ⟨rfl, hw'⟩; replace hw' := hw'.symm; subst hw'; first | rw [X1.out] | rw [X2.out] | rw [X3.out]) | (go_at_call 64; refine (within_calls _ _ _ _).mono ?_; rintro e w' ⟨rfl, hw'⟩; replace hw' := hw'.symm; subst hw'; first | rw [X4.out] | rw [X5.out] | rw [X6.out] | rw [X7.out] | rw [X8.out] | rw [X9.out] | rw [X10.out]))
  all_goals go_ret
  all_goals first | exact ⟨ret_int ((bad1 (by first | with_reducible assumption | exact not_t (by with_reducible assumption) | exact no_t (by with_reducible assumption))).trans HE.out), hal⟩ | exact ⟨ret_int ((bad2 (by first | with_reducible assumption | exact not_t (by with_reducible assumption) | exact no_t (by with_reducible assumption))).trans HE.out), hal⟩ | exact ⟨ret_int ((bad3 (by first | with_reducible assumption | exact not_t (by with_reducible assumption) | exact no_t (by with_reducible assumption))).trans HE.out), hal⟩ | exact ⟨ret_int ((bad4 (by first | with_reducible assumption | exact not_t (by with_reducible assumption) | exact no_t (by with_reducible assumption))).trans HE.out), hal⟩ | exact ⟨ret_int ((bad5 (by first | with_reducible assumption | exact not_t (by with_reducible assumption) | exact no_t (by with_reducible assumption))).trans HE.out), hal⟩ | exact ⟨ret_int ((bad6 (by first | with_reducible assumption | exact not_t (by with_reducible assumption) | exact no_t (by with_reducible assumption))).trans HE.out), hal⟩ | exact ⟨ret_int ((bad7 (by first | with_reducible assumption | exact not_t (by with_reducible assumption) | exact no_t (by with_reducible assumption))).trans HE.out), hal⟩ | exact ⟨ret_int ((bad8 (by first | with_reducible assumption | exact not_t (by with_reducible assumption) | exact no_t (by with_reducible assumption))).trans HE.out), hal⟩ | exact ⟨ret_int ((bad9 (by first | with_reducible assumption | exact not_t (by with_reducible assumption) | exact no_t (by with_reducible assumption))).trans HE.out), hal⟩ | exact ⟨ret_int ((bad10 (by first | with_reducible assumption | exact not_t (by with_reducible assumption) | exact no_t (by with_reducible assumption))).trans HE.out), hal⟩ | exact ⟨ret_int ((bad0 (by first | with_reducible assumption | exact not_f (by with_reducible assumption)) (by first | with_reducible assumption | exact not_f (by with_reducible assumption)) (by first | with_reducible assumption | exact not_f (by with_reducible assumption)) (by first | with_reducible assumption | exact not_f (by with_reducible assumption)) (by first | with_reducible assumption | exact not_f (by with_reducible assumption)) (by first | with_reducible assumption | exact not_f (by with_reducible assumption)) (by first | with_reducible assumption | exact not_f (by with_reducible assumption)) (by first | with_reducible assumption | exact not_f (by with_reducible assumption)) (by first | with_reducible assumption | exact not_f (by with_reducible assumption)) (by first | with_reducible assumption | exact not_f (by with_reducible assumption))).trans HE.out), hal⟩
-- END WALK

set_option maxHeartbeats 1600000 in
theorem rate_calls (c : Cfg) (step : Int) (w : World) : Calls Tryz.prog 70 #[c.val, .int .i64 step] w fun e w' => e = .returned (.tuple #[.int .i64 (rateI c step), .int .i64 (rateE c step)]) ∧ Below w.heap.size w w' := by
  have hal := (Below.refl w.heap.size w).alloc (Nat.le_refl _) (.cells c.cells 24)
  cases hc : cfgB c with
  | false =>
    have HI : Hid (cfgI c = 1) := cfgI_no hc
    have HR : Hid (rateI c step = 0) := if_neg (fun g => by rw [hc] at g; cases g.1)
    have HE : Hid (rateE c step = 1) := if_neg (fun g => by rw [hc] at g; cases g.1)
    rw [HR.out, HE.out]
    have K := ocheck_calls c (w.alloc (.cells c.cells 24))
    rw [HI.out] at K
    have HK : Hid (Calls Tryz.prog 41 #[c.val] (w.alloc (.cells c.cells 24)) fun e w' => e = .returned (.int .i64 1) ∧ Below (w.alloc (.cells c.cells 24)).heap.size (w.alloc (.cells c.cells 24)) w') := K
    clear K hc HI HR HE
    obtain ⟨i, h, o, seed, batch, steps, rate, decay, how, keep, clip⟩ := c
    simp only [Cfg.val, Cfg.cells] at *
    go_enter Tryz.func70, Tryz.ntmps70
    go_wp2_with fail
    refine HK.out.mono ?_
    rintro e w1 ⟨rfl, hw1⟩
    go_wp2
    go_ret2
    exact ⟨rfl, hal.trans (hw1.mono hal.size)⟩
  | true =>
    obtain ⟨_, _, _, _, ⟨s1, s2⟩, ⟨r1, r2⟩, ⟨d1, d2⟩, _⟩ := cfgB_is hc
    have K := ocheck_calls c (w.alloc (.cells c.cells 24))
    rw [cfgI_yes hc] at K
    obtain ⟨R, HR⟩ : ∃ R, Hid (rateI c step = R) := ⟨_, rfl⟩
    obtain ⟨E, HE⟩ : ∃ E, Hid (rateE c step = E) := ⟨_, rfl⟩
    rw [HR.out, HE.out]
    have HR' := HR.out
    have HE' := HE.out
    unfold rateI at HR'
    unfold rateE at HE'
    cases hs : inB step 0 (c.steps - 1) with
    | false =>
      rw [if_neg (fun g => by rw [hs] at g; cases g.2)] at HR' HE'
      subst HR' HE'
      have HS : Hid (inB step 0 (c.steps - 1) = false) := hs
      have HK : Hid (Calls Tryz.prog 41 #[c.val] (w.alloc (.cells c.cells 24)) fun e w' => e = .returned (.int .i64 0) ∧ Below (w.alloc (.cells c.cells 24)).heap.size (w.alloc (.cells c.cells 24)) w') := K
      clear K hs HR HE hc
      obtain ⟨i, h, o, seed, batch, steps, rate, decay, how, keep, clip⟩ := c
      simp only [Cfg.val, Cfg.cells] at *
      go_enter Tryz.func70, Tryz.ntmps70
      go_wp2_with fail
      refine HK.out.mono ?_
      rintro e w1 ⟨rfl, hw1⟩
      obtain ⟨c0, c1, c2, c3, c4, c5, c6, c7, c8, c9, c10⟩ := boxC (c := ⟨i, h, o, seed, batch, steps, rate, decay, how, keep, clip⟩) hw1 (by simp)
      go_wp2_with (go_at_call 64; refine (within_calls _ _ _ _).mono ?_; rintro e w' ⟨rfl, hw'⟩; replace hw' := hw'.symm; subst hw'; rw [HS.out])
      go_ret2
      exact ⟨rfl, hal.trans (hw1.mono hal.size)⟩
    | true =>
      rw [if_pos ⟨hc, hs⟩] at HR' HE'
      have HS : Hid (inB step 0 (c.steps - 1) = true) := hs
      have hst := in_is hs
      subst HE'
      have HV : Hid (rateV c step = R) := HR'
      have HK : Hid (Calls Tryz.prog 41 #[c.val] (w.alloc (.cells c.cells 24)) fun e w' => e = .returned (.int .i64 0) ∧ Below (w.alloc (.cells c.cells 24)).heap.size (w.alloc (.cells c.cells 24)) w') := K
      clear K hs HR HE HR' hc
      obtain ⟨i, h, o, seed, batch, steps, rate, decay, how, keep, clip⟩ := c
      simp only [Cfg.val, Cfg.cells] at *
      by_cases hd : decay = 0
      · have hd' : (decay == 0) = true := by simpa using hd
        have hv : rate = R := by
          have := HV.out
          unfold rateV at this
          dsimp only at this
          rw [if_neg (by omega)] at this
          exact this
        subst hv
        clear hd
        go_enter Tryz.func70, Tryz.ntmps70
        go_wp2_with fail
        refine HK.out.mono ?_
        rintro e w1 ⟨rfl, hw1⟩
        obtain ⟨c0, c1, c2, c3, c4, c5, c6, c7, c8, c9, c10⟩ := boxC (c := ⟨i, h, o, seed, batch, steps, rate, decay, how, keep, clip⟩) hw1 (by simp)
        go_wp2_with (go_at_call 64; refine (within_calls _ _ _ _).mono ?_; rintro e w' ⟨rfl, hw'⟩; replace hw' := hw'.symm; subst hw'; rw [HS.out])
        go_ret2
        exact ⟨rfl, hal.trans (hw1.mono hal.size)⟩
      · have hd' : (decay == 0) = false := by simpa using hd
        have hv : mulI rate (divI (steps - step) steps) = R := by
          have := HV.out
          unfold rateV at this
          dsimp only at this
          rw [if_pos (by omega)] at this
          exact this
        subst hv
        clear hd HV
        go_enter Tryz.func70, Tryz.ntmps70
        go_wp2_with fail
        refine HK.out.mono ?_
        rintro e w1 ⟨rfl, hw1⟩
        obtain ⟨c0, c1, c2, c3, c4, c5, c6, c7, c8, c9, c10⟩ := boxC (c := ⟨i, h, o, seed, batch, steps, rate, decay, how, keep, clip⟩) hw1 (by simp)
        dsimp only at c0 c1 c2 c3 c4 c5 c6 c7 c8 c9 c10
        go_wp2_with (first | (go_at_call 64; refine (within_calls _ _ _ _).mono ?_; rintro e w' ⟨rfl, hw'⟩; replace hw' := hw'.symm; subst hw'; rw [HS.out]) | (go_at_call 86; refine (div_calls _ _ _ (by omega)).mono ?_; rintro e w' ⟨rfl, k1, hw'⟩; subst hw') | (go_at_call 92; refine (mul_calls _ _ _).mono ?_; rintro e w' ⟨rfl, k2, hw'⟩; subst hw'))
        go_ret2
        exact ⟨rfl, below_drewN (hal.trans (hw1.mono hal.size)) _⟩

end Go.Proofs.YtnlcheebdkjpbabGreat.Fx

/- What the functions of package coachref that speak of fixed points return, called with whatever integers: the same plain numbers as those of package fix. -/
namespace Go.Proofs.YtnlcheebdkjpbabGreat.Fx
open Go.RowKit

theorem rclamp_calls (n : Int) (w : World) : Calls Tryz.prog 55 #[.int .i64 n] w fun e w' => e = .returned (.int .i64 (clampI n)) ∧ w' = w := by
  by_cases h1 : 2147483647 < n
  · go_enter Tryz.func55, Tryz.ntmps55
    go_wp2
    go_ret
    exact ⟨ret_int (by unfold clampI; rw [if_neg (by omega), if_pos (by omega)]), rfl⟩
  · by_cases h0 : n < -2147483647
    · go_enter Tryz.func55, Tryz.ntmps55
      go_wp2
      go_ret
      exact ⟨ret_int (by unfold clampI; rw [if_pos (by omega)]), rfl⟩
    · go_enter Tryz.func55, Tryz.ntmps55
      go_wp2
      go_ret
      exact ⟨ret_int (by unfold clampI; rw [if_neg (by omega), if_neg (by omega)]), rfl⟩

theorem radd_calls (a b : Int) (w : World) : Calls Tryz.prog 37 #[.int .i64 a, .int .i64 b] w fun e w' => e = .returned (.int .i64 (addI a b)) ∧ w' = w := by
  have ha := clampI_bd a
  have hb := clampI_bd b
  go_enter Tryz.func37, Tryz.ntmps37
  go_wp2_with (go_at_call 55; refine (rclamp_calls _ _).mono ?_; rintro e w' ⟨rfl, rfl⟩)
  go_ret
  exact ⟨rfl, rfl⟩

theorem sub_as_add (a b : Int) : addI a (-clampI b) = subI a b := by
  unfold addI subI; rw [clampI_neg, clampI_idem]; congr 1

theorem rsub_calls (a b : Int) (w : World) : Calls Tryz.prog 59 #[.int .i64 a, .int .i64 b] w fun e w' => e = .returned (.int .i64 (subI a b)) ∧ w' = w := by
  have hb := clampI_bd b
  go_enter Tryz.func59, Tryz.ntmps59
  go_wp2_with (first | (go_at_call 55; refine (rclamp_calls _ _).mono ?_; rintro e w' ⟨rfl, rfl⟩) | (go_at_call 37; refine (radd_calls _ _ _).mono ?_; rintro e w' ⟨rfl, rfl⟩))
  go_ret
  exact ⟨ret_int (sub_as_add a b), rfl⟩

theorem ediv_facts (n d : Int) (hn : 0 ≤ n) (hd : 0 < d) : 0 ≤ n / d ∧ n / d ≤ n ∧ n / d * d = n - n % d ∧ (n / d + 1) * d = n - n % d + d ∧ 0 ≤ n % d ∧ n % d < d := by
  have e := Int.mul_ediv_add_emod n d
  have c : n / d * d = d * (n / d) := Int.mul_comm _ _
  refine ⟨Int.ediv_nonneg hn (by omega), Int.ediv_le_self _ hn, by omega, ?_, Int.emod_nonneg n (by omega), Int.emod_lt_of_pos n hd⟩
  rw [Int.add_mul]; omega

theorem near_pos (n d : Int) (w : World) (hn0 : 0 ≤ n) (hn1 : n ≤ 4611686018427387904) (hd0 : 0 < d) (hd1 : d ≤ 2147483648) :
    Calls Tryz.prog 62 #[.int .i64 n, .int .i64 d] w fun e w' => e = .returned (.int .i64 (rnd n d)) ∧ w' = w := by
  obtain ⟨q0, q1, p1, p2, r0, r1⟩ := ediv_facts n d hn0 hd0
  have P1 : Hid (n / d * d = n - n % d) := p1
  have P2 : Hid ((n / d + 1) * d = n - n % d + d) := p2
  have b1 : 0 ≤ n / d * d ∧ n / d * d ≤ n := ⟨Int.mul_nonneg q0 (by omega), by omega⟩
  have b2 : n ≤ (n / d + 1) * d ∧ (n / d + 1) * d ≤ n + d := by omega
  clear p1 p2
  go_enter Tryz.func62, Tryz.ntmps62
  go_wp2
  all_goals
    have p1 := P1.out
    have p2 := P2.out
    go_ret
    refine ⟨ret_int (rnd_of rfl rfl ?_ ?_), rfl⟩ <;> intro h <;> (try simp only [beq_iff_eq, beq_eq_false_iff_ne, ne_eq] at *) <;> omega

theorem near_calls (n d : Int) (w : World) (hn0 : -4611686018427387904 ≤ n) (hn1 : n ≤ 4611686018427387904) (hd0 : 0 < d) (hd1 : d ≤ 2147483648) :
    Calls Tryz.prog 62 #[.int .i64 n, .int .i64 d] w fun e w' => e = .returned (.int .i64 (rnd n d)) ∧ w' = w := by
  by_cases c : 0 ≤ n
  · exact near_pos n d w c hn1 hd0 hd1
  · have hb := rnd_bd (-n) d hd0 4611686018427387904 (by omega) (by omega) (by omega)
    go_enter Tryz.func62, Tryz.ntmps62
    go_wp2_with (go_at_call 62; refine (near_pos _ _ _ (by omega) (by omega) (by omega) (by omega)).mono ?_; rintro e w' ⟨rfl, rfl⟩)
    go_ret
    exact ⟨ret_int (by rw [rnd_neg _ _ hd0]; omega), rfl⟩

theorem rmul_calls (a b : Int) (w : World) : Calls Tryz.prog 57 #[.int .i64 a, .int .i64 b] w fun e w' => e = .returned (.int .i64 (mulI a b)) ∧ w' = w := by
  have hp := prod_bd _ _ (clampI_bd a) (clampI_bd b)
  go_enter Tryz.func57, Tryz.ntmps57
  go_wp2_with (first | (go_at_call 55; refine (rclamp_calls _ _).mono ?_; rintro e w' ⟨rfl, rfl⟩) | (go_at_call 62; refine (near_calls _ _ _ (by omega) (by omega) (by omega) (by omega)).mono ?_; rintro e w' ⟨rfl, rfl⟩))
  go_ret
  exact ⟨rfl, rfl⟩

theorem rdiv_calls (a b : Int) (w : World) (hb : b ≠ 0) : Calls Tryz.prog 38 #[.int .i64 a, .int .i64 b] w fun e w' => e = .returned (.int .i64 (divI a b)) ∧ w' = w := by
  have ha := clampI_bd a
  have hc := clampI_bd b
  have hn := clampI_ne hb
  by_cases c : clampI b < 0
  · go_enter Tryz.func38, Tryz.ntmps38
    go_wp2_with (first | (go_at_call 55; refine (rclamp_calls _ _).mono ?_; rintro e w' ⟨rfl, rfl⟩) | (go_at_call 62; refine (near_calls _ _ _ (by omega) (by omega) (by omega) (by omega)).mono ?_; rintro e w' ⟨rfl, rfl⟩))
    go_ret
    exact ⟨ret_int (by unfold divI quoI; rw [if_pos c, Int.neg_mul]), rfl⟩
  · go_enter Tryz.func38, Tryz.ntmps38
    go_wp2_with (first | (go_at_call 55; refine (rclamp_calls _ _).mono ?_; rintro e w' ⟨rfl, rfl⟩) | (go_at_call 62; refine (near_calls _ _ _ (by omega) (by omega) (by omega) (by omega)).mono ?_; rintro e w' ⟨rfl, rfl⟩))
    go_ret
    exact ⟨ret_int (by unfold divI quoI; rw [if_neg (by omega)]), rfl⟩

end Go.Proofs.YtnlcheebdkjpbabGreat.Fx

/- What coachref's In and Right return, whatever is handed in. -/
namespace Go.Proofs.YtnlcheebdkjpbabGreat.Fx
open Go.RowKit

theorem rin_calls (n lo hi : Int) (w : World) : Calls Tryz.prog 9 #[.int .i64 n, .int .i64 lo, .int .i64 hi] w fun e w' => e = .returned (.bool (inB n lo hi)) ∧ w' = w := by
  unfold inB
  by_cases h1 : lo ≤ n
  · by_cases h2 : n ≤ hi
    · go_enter Tryz.func9, Tryz.ntmps9
      go_wp2
      go_ret
      exact ⟨ret_bool (by simp [h1, h2]), rfl⟩
    · go_enter Tryz.func9, Tryz.ntmps9
      go_wp2
      go_ret
      exact ⟨ret_bool (by simp; omega), rfl⟩
  · go_enter Tryz.func9, Tryz.ntmps9
    go_wp2
    go_ret
    exact ⟨ret_bool (by simp; omega), rfl⟩

/-- Whether the first k numbers are such as may be. -/
def okTo (xs : List Int) (k : Nat) (ok : Bool) : Prop := ok = true ↔ ∀ j, j < k → xs.getD j 0 = clampI (xs.getD j 0)
theorem okTo_zero (xs : List Int) : okTo xs 0 true := ⟨fun _ j hj => by omega, fun _ => rfl⟩
theorem okTo_yes {xs : List Int} {k : Nat} {x : Int} (h : okTo xs k true) (hx : xs.getD k 0 = x) (hc : clampI x = x) : okTo xs (k + 1) true :=
  ⟨fun _ j hj => by
    by_cases e : j = k
    · subst e; rw [hx, hc]
    · exact h.1 rfl j (by omega), fun _ => rfl⟩
theorem okTo_no {xs : List Int} {k : Nat} {x : Int} (hx : xs.getD k 0 = x) (hc : ¬ clampI x = x) : okTo xs (k + 1) false :=
  ⟨fun h => (by cases h), fun h => absurd (h k (by omega)) (by rw [hx]; exact fun e => hc e.symm)⟩
theorem okTo_false {xs : List Int} {k : Nat} (h : okTo xs k false) : okTo xs (k + 1) false :=
  ⟨fun h => (by cases h), fun g => h.2 (fun j hj => g j (by omega))⟩
theorem okTo_end {xs : List Int} {k : Nat} {ok : Bool} (h : okTo xs k ok) (hk : xs.length = k) : ok = rightB xs := by
  cases ok with
  | true => exact (rightB_true (fun j hj => h.1 rfl j (by omega))).symm
  | false =>
    cases e : rightB xs with
    | false => rfl
    | true => exact h.2 (fun j _ => rightB_get e j)

set_option maxHeartbeats 800000 in
theorem rright_calls (a : Option Addr) (la ca : Nat) (xs : List Int) (w : World) (ha : Lst w a la ca xs) (h63 : la ≤ 9223372036854775807) :
    Calls Tryz.prog 29 #[.slice a la ca] w fun e w' => e = .returned (.bool (rightB xs)) ∧ ∃ k, w' = w.drewN k := by
  go_enter Tryz.func29, Tryz.ntmps29
  go_wp2
  go_loopw [3, 4] (fun s i wr => ∃ (k n : Nat) (ok : Bool), k ≤ la ∧ i = .int .i64 k ∧ s = .bool ok ∧ okTo xs k ok ∧ wr = w.drewN n) (fun _ i _ => la - (intOf i).toNat)
  case atStart => exact ⟨0, 0, true, Nat.zero_le _, rfl, rfl, okTo_zero _, rfl⟩
  case round =>
    obtain ⟨k, n, ok, hk, rfl, rfl, hok, hw⟩ := hrel
    have ha' : Lst wr a la ca xs := hw ▸ ha.drewN n
    have HW : Hid (wr = w.drewN n) := hw
    have hlen := ha.len
    clear hw ha
    by_cases hlt : k < la
    · obtain ⟨b1, o1, x, rfl, _, c1, HX⟩ := ha'.at1 hlt
      cases ok with
      | true =>
        by_cases hx : clampI x = x
        · have hx' : (clampI x == x) = true := by simpa using hx
          have HC : Hid (clampI x = x) := hx
          clear hx
          go_wp2
          go_quiet ((go_at_call 55; exact Calls.quiet_of_same (rclamp_calls _ _)))
          go_wp2
          go_roundw
          case rel => exact ⟨k + 1, _, true, by omega, by go_num, rfl, okTo_yes hok HX.out HC.out, by rw [HW.out, World.drewN_drewN]⟩
          case measure => simp [intOf]; omega
        · have hx' : (clampI x == x) = false := by simpa using hx
          go_wp2
          go_quiet ((go_at_call 55; exact Calls.quiet_of_same (rclamp_calls _ _)))
          go_wp2
          go_roundw
          case rel => exact ⟨k + 1, _, false, by omega, by go_num, rfl, okTo_no HX.out hx, by rw [HW.out, World.drewN_drewN]⟩
          case measure => simp [intOf]; omega
      | false =>
        go_wp2
        go_quiet (fail)
        go_wp2
        go_roundw
        case rel => exact ⟨k + 1, _, false, by omega, by go_num, rfl, okTo_false hok, by rw [HW.out, World.drewN_drewN]⟩
        case measure => simp [intOf]; omega
    · go_wp2
      go_ret
      obtain rfl : k = la := by omega
      exact ⟨ret_bool (okTo_end hok hlen), _, HW.out⟩

end Go.Proofs.YtnlcheebdkjpbabGreat.Fx
