/- What the functions of package coachref that speak of fixed points return, called with whatever integers: the same plain numbers as those of package fix. -/
import Derived.Test.YtimciamfgpdjlaaGreatJ00
import Derived.Test.YtimciamfgpdjlaaGreatJ05
import Derived.Test.YtimciamfgpdjlaaGreatJ09
namespace Go.Proofs.YtimciamfgpdjlaaGreat.Fx
open Go.RowKit

theorem rclamp_calls (n : Int) (w : World) : Calls Tryz.prog 109 #[.int .i64 n] w fun e w' => e = .returned (.int .i64 (clampI n)) ∧ w' = w := by
  by_cases h1 : 2147483647 < n
  · go_enter Tryz.func109, Tryz.ntmps109
    go_wp2
    go_ret
    exact ⟨ret_int (by unfold clampI; rw [if_neg (by omega), if_pos (by omega)]), rfl⟩
  · by_cases h0 : n < -2147483647
    · go_enter Tryz.func109, Tryz.ntmps109
      go_wp2
      go_ret
      exact ⟨ret_int (by unfold clampI; rw [if_pos (by omega)]), rfl⟩
    · go_enter Tryz.func109, Tryz.ntmps109
      go_wp2
      go_ret
      exact ⟨ret_int (by unfold clampI; rw [if_neg (by omega), if_neg (by omega)]), rfl⟩

theorem radd_calls (a b : Int) (w : World) : Calls Tryz.prog 60 #[.int .i64 a, .int .i64 b] w fun e w' => e = .returned (.int .i64 (addI a b)) ∧ w' = w := by
  have ha := clampI_bd a
  have hb := clampI_bd b
  go_enter Tryz.func60, Tryz.ntmps60
  go_wp2_with (go_at_call 109; refine (rclamp_calls _ _).mono ?_; rintro e w' ⟨rfl, rfl⟩)
  go_ret
  exact ⟨rfl, rfl⟩

theorem sub_as_add (a b : Int) : addI a (-clampI b) = subI a b := by
  unfold addI subI; rw [clampI_neg, clampI_idem]; congr 1

theorem rsub_calls (a b : Int) (w : World) : Calls Tryz.prog 117 #[.int .i64 a, .int .i64 b] w fun e w' => e = .returned (.int .i64 (subI a b)) ∧ w' = w := by
  have hb := clampI_bd b
  go_enter Tryz.func117, Tryz.ntmps117
  go_wp2_with (first | (go_at_call 109; refine (rclamp_calls _ _).mono ?_; rintro e w' ⟨rfl, rfl⟩) | (go_at_call 60; refine (radd_calls _ _ _).mono ?_; rintro e w' ⟨rfl, rfl⟩))
  go_ret
  exact ⟨ret_int (sub_as_add a b), rfl⟩

theorem ediv_facts (n d : Int) (hn : 0 ≤ n) (hd : 0 < d) : 0 ≤ n / d ∧ n / d ≤ n ∧ n / d * d = n - n % d ∧ (n / d + 1) * d = n - n % d + d ∧ 0 ≤ n % d ∧ n % d < d := by
  have e := Int.mul_ediv_add_emod n d
  have c : n / d * d = d * (n / d) := Int.mul_comm _ _
  refine ⟨Int.ediv_nonneg hn (by omega), Int.ediv_le_self _ hn, by omega, ?_, Int.emod_nonneg n (by omega), Int.emod_lt_of_pos n hd⟩
  rw [Int.add_mul]; omega

theorem near_pos (n d : Int) (w : World) (hn0 : 0 ≤ n) (hn1 : n ≤ 4611686018427387904) (hd0 : 0 < d) (hd1 : d ≤ 2147483648) :
    Calls Tryz.prog 120 #[.int .i64 n, .int .i64 d] w fun e w' => e = .returned (.int .i64 (rnd n d)) ∧ w' = w := by
  obtain ⟨q0, q1, p1, p2, r0, r1⟩ := ediv_facts n d hn0 hd0
  have P1 : Hid (n / d * d = n - n % d) := p1
  have P2 : Hid ((n / d + 1) * d = n - n % d + d) := p2
  have b1 : 0 ≤ n / d * d ∧ n / d * d ≤ n := ⟨Int.mul_nonneg q0 (by omega), by omega⟩
  have b2 : n ≤ (n / d + 1) * d ∧ (n / d + 1) * d ≤ n + d := by omega
  clear p1 p2
  go_enter Tryz.func120, Tryz.ntmps120
  go_wp2
  all_goals
    have p1 := P1.out
    have p2 := P2.out
    go_ret
    refine ⟨ret_int (rnd_of rfl rfl ?_ ?_), rfl⟩ <;> intro h <;> (try simp only [beq_iff_eq, beq_eq_false_iff_ne, ne_eq] at *) <;> omega

theorem near_calls (n d : Int) (w : World) (hn0 : -4611686018427387904 ≤ n) (hn1 : n ≤ 4611686018427387904) (hd0 : 0 < d) (hd1 : d ≤ 2147483648) :
    Calls Tryz.prog 120 #[.int .i64 n, .int .i64 d] w fun e w' => e = .returned (.int .i64 (rnd n d)) ∧ w' = w := by
  by_cases c : 0 ≤ n
  · exact near_pos n d w c hn1 hd0 hd1
  · have hb := rnd_bd (-n) d hd0 4611686018427387904 (by omega) (by omega) (by omega)
    go_enter Tryz.func120, Tryz.ntmps120
    go_wp2_with (go_at_call 120; refine (near_pos _ _ _ (by omega) (by omega) (by omega) (by omega)).mono ?_; rintro e w' ⟨rfl, rfl⟩)
    go_ret
    exact ⟨ret_int (by rw [rnd_neg _ _ hd0]; omega), rfl⟩

theorem rmul_calls (a b : Int) (w : World) : Calls Tryz.prog 115 #[.int .i64 a, .int .i64 b] w fun e w' => e = .returned (.int .i64 (mulI a b)) ∧ w' = w := by
  have hp := prod_bd _ _ (clampI_bd a) (clampI_bd b)
  go_enter Tryz.func115, Tryz.ntmps115
  go_wp2_with (first | (go_at_call 109; refine (rclamp_calls _ _).mono ?_; rintro e w' ⟨rfl, rfl⟩) | (go_at_call 120; refine (near_calls _ _ _ (by omega) (by omega) (by omega) (by omega)).mono ?_; rintro e w' ⟨rfl, rfl⟩))
  go_ret
  exact ⟨rfl, rfl⟩

theorem rdiv_calls (a b : Int) (w : World) (hb : b ≠ 0) : Calls Tryz.prog 61 #[.int .i64 a, .int .i64 b] w fun e w' => e = .returned (.int .i64 (divI a b)) ∧ w' = w := by
  have ha := clampI_bd a
  have hc := clampI_bd b
  have hn := clampI_ne hb
  by_cases c : clampI b < 0
  · go_enter Tryz.func61, Tryz.ntmps61
    go_wp2_with (first | (go_at_call 109; refine (rclamp_calls _ _).mono ?_; rintro e w' ⟨rfl, rfl⟩) | (go_at_call 120; refine (near_calls _ _ _ (by omega) (by omega) (by omega) (by omega)).mono ?_; rintro e w' ⟨rfl, rfl⟩))
    go_ret
    exact ⟨ret_int (by unfold divI quoI; rw [if_pos c, Int.neg_mul]), rfl⟩
  · go_enter Tryz.func61, Tryz.ntmps61
    go_wp2_with (first | (go_at_call 109; refine (rclamp_calls _ _).mono ?_; rintro e w' ⟨rfl, rfl⟩) | (go_at_call 120; refine (near_calls _ _ _ (by omega) (by omega) (by omega) (by omega)).mono ?_; rintro e w' ⟨rfl, rfl⟩))
    go_ret
    exact ⟨ret_int (by unfold divI quoI; rw [if_neg (by omega)]), rfl⟩

end Go.Proofs.YtimciamfgpdjlaaGreat.Fx

/- What coachref's In and Right return, whatever is handed in. -/
namespace Go.Proofs.YtimciamfgpdjlaaGreat.Fx
open Go.RowKit

theorem rin_calls (n lo hi : Int) (w : World) : Calls Tryz.prog 10 #[.int .i64 n, .int .i64 lo, .int .i64 hi] w fun e w' => e = .returned (.bool (inB n lo hi)) ∧ w' = w := by
  unfold inB
  by_cases h1 : lo ≤ n
  · by_cases h2 : n ≤ hi
    · go_enter Tryz.func10, Tryz.ntmps10
      go_wp2
      go_ret
      exact ⟨ret_bool (by simp [h1, h2]), rfl⟩
    · go_enter Tryz.func10, Tryz.ntmps10
      go_wp2
      go_ret
      exact ⟨ret_bool (by simp; omega), rfl⟩
  · go_enter Tryz.func10, Tryz.ntmps10
    go_wp2
    go_ret
    exact ⟨ret_bool (by simp; omega), rfl⟩

/-- Whether the first k numbers are such as may be. -/
def okTo (xs : List Int) (k : Nat) (ok : Bool) : Prop := ok = true ↔ ∀ j, j < k → xs.getD j 0 = clampI (xs.getD j 0)
theorem okTo_zero (xs : List Int) : okTo xs 0 true := ⟨fun _ j hj => by omega, fun _ => rfl⟩
theorem okTo_yes {xs : List Int} {k : Nat} {x : Int} (h : okTo xs k true) (hx : xs.getD k 0 = x) (hc : clampI x = x) : okTo xs (k + 1) true :=
  ⟨fun _ j hj => by
    by_cases e : j = k
    · subst e; rw [hx, hc]
    · exact h.1 rfl j (by omega), fun _ => rfl⟩
theorem okTo_no {xs : List Int} {k : Nat} {x : Int} (hx : xs.getD k 0 = x) (hc : ¬ clampI x = x) : okTo xs (k + 1) false :=
  ⟨fun h => (by cases h), fun h => absurd (h k (by omega)) (by rw [hx]; exact fun e => hc e.symm)⟩
theorem okTo_false {xs : List Int} {k : Nat} (h : okTo xs k false) : okTo xs (k + 1) false :=
  ⟨fun h => (by cases h), fun g => h.2 (fun j hj => g j (by omega))⟩
theorem okTo_end {xs : List Int} {k : Nat} {ok : Bool} (h : okTo xs k ok) (hk : xs.length = k) : ok = rightB xs := by
  cases ok with
  | true => exact (rightB_true (fun j hj => h.1 rfl j (by omega))).symm
  | false =>
    cases e : rightB xs with
    | false => rfl
    | true => exact h.2 (fun j _ => rightB_get e j)

set_option maxHeartbeats 800000 in
theorem rright_calls (a : Option Addr) (la ca : Nat) (xs : List Int) (w : World) (ha : Lst w a la ca xs) (h63 : la ≤ 9223372036854775807) :
    Calls Tryz.prog 52 #[.slice a la ca] w fun e w' => e = .returned (.bool (rightB xs)) ∧ ∃ k, w' = w.drewN k := by
  go_enter Tryz.func52, Tryz.ntmps52
  go_wp2
  go_loopw [3, 4] (fun s i wr => ∃ (k n : Nat) (ok : Bool), k ≤ la ∧ i = .int .i64 k ∧ s = .bool ok ∧ okTo xs k ok ∧ wr = w.drewN n) (fun _ i _ => la - (intOf i).toNat)
  case atStart => exact ⟨0, 0, true, Nat.zero_le _, rfl, rfl, okTo_zero _, rfl⟩
  case round =>
    obtain ⟨k, n, ok, hk, rfl, rfl, hok, hw⟩ := hrel
    have ha' : Lst wr a la ca xs := hw ▸ ha.drewN n
    have HW : Hid (wr = w.drewN n) := hw
    have hlen := ha.len
    clear hw ha
    by_cases hlt : k < la
    · obtain ⟨b1, o1, x, rfl, _, c1, HX⟩ := ha'.at1 hlt
      cases ok with
      | true =>
        by_cases hx : clampI x = x
        · have hx' : (clampI x == x) = true := by simpa using hx
          have HC : Hid (clampI x = x) := hx
          clear hx
          go_wp2
          go_quiet ((go_at_call 109; exact Calls.quiet_of_same (rclamp_calls _ _)))
          go_wp2
          go_roundw
          case rel => exact ⟨k + 1, _, true, by omega, by go_num, rfl, okTo_yes hok HX.out HC.out, by rw [HW.out, World.drewN_drewN]⟩
          case measure => simp [intOf]; omega
        · have hx' : (clampI x == x) = false := by simpa using hx
          go_wp2
          go_quiet ((go_at_call 109; exact Calls.quiet_of_same (rclamp_calls _ _)))
          go_wp2
          go_roundw
          case rel => exact ⟨k + 1, _, false, by omega, by go_num, rfl, okTo_no HX.out hx, by rw [HW.out, World.drewN_drewN]⟩
          case measure => simp [intOf]; omega
      | false =>
        go_wp2
        go_quiet (fail)
        go_wp2
        go_roundw
        case rel => exact ⟨k + 1, _, false, by omega, by go_num, rfl, okTo_false hok, by rw [HW.out, World.drewN_drewN]⟩
        case measure => simp [intOf]; omega
    · go_wp2
      go_ret
      obtain rfl : k = la := by omega
      exact ⟨ret_bool (okTo_end hok hlen), _, HW.out⟩

end Go.Proofs.YtimciamfgpdjlaaGreat.Fx

/- What coachref's Config and Rate return. -/
namespace Go.Proofs.YtimciamfgpdjlaaGreat.Fx
open Go.RowKit

-- WALK
set_option maxHeartbeats 3200000 in
theorem rconfig_calls (c : Cfg) (w : World) : Calls Tryz.prog 51 #[c.val] w fun e w' => e = .returned (.int .i64 (cfgI c)) ∧ Below w.heap.size w w' := by
  have hal := (Below.refl w.heap.size w).alloc (Nat.le_refl _) (.cells c.cells 24)
  obtain ⟨i, h, o, seed, batch, steps, rate, decay, how, keep, clip⟩ := c
  simp only [Cfg.val, Cfg.cells] at *
  unfold cfgI cfgB
  dsimp only
  obtain ⟨x1, X1⟩ : ∃ x, Hid (inB i 1 4 = x) := ⟨_, rfl⟩
  obtain ⟨x2, X2⟩ : ∃ x, Hid (inB h 1 4 = x) := ⟨_, rfl⟩
  obtain ⟨x3, X3⟩ : ∃ x, Hid (inB o 1 4 = x) := ⟨_, rfl⟩
  obtain ⟨x4, X4⟩ : ∃ x, Hid (inB batch 1 8 = x) := ⟨_, rfl⟩
  obtain ⟨x5, X5⟩ : ∃ x, Hid (inB steps 1 40 = x) := ⟨_, rfl⟩
  obtain ⟨x6, X6⟩ : ∃ x, Hid (inB rate 0 2147483647 = x) := ⟨_, rfl⟩
  obtain ⟨x7, X7⟩ : ∃ x, Hid (inB decay 0 1 = x) := ⟨_, rfl⟩
  obtain ⟨x8, X8⟩ : ∃ x, Hid (inB how 0 1 = x) := ⟨_, rfl⟩
  obtain ⟨x9, X9⟩ : ∃ x, Hid (inB keep 0 65536 = x) := ⟨_, rfl⟩
  obtain ⟨x10, X10⟩ : ∃ x, Hid (inB clip 0 2147483647 = x) := ⟨_, rfl⟩
  rw [X1.out, X2.out, X3.out, X4.out, X5.out, X6.out, X7.out, X8.out, X9.out, X10.out]
  obtain ⟨E, HE⟩ : ∃ E : Int, Hid ((if (x1 && x2 && x3 && x4 && x5 && x6 && x7 && x8 && x9 && x10) = true then 0 else 1) = E) := ⟨_, rfl⟩
  rw [HE.out]
  go_enter Tryz.func51, Tryz.ntmps51
  go_wp2_with (go_at_call 10; refine (rin_calls _ _ _ _).mono ?_; rintro e w' ⟨rfl, hw'⟩; replace hw' := hw'.symm; subst hw'; first | rw [X1.out] | rw [X2.out] | rw [X3.out] | rw [X4.out] | rw [X5.out] | rw [X6.out] | rw [X7.out] | rw [X8.out] | rw [X9.out] | rw [X10.out])
  all_goals go_ret
  all_goals first | exact ⟨ret_int ((bad1 (by first | with_reducible assumption | exact not_t (by with_reducible assumption) | exact no_t (by with_reducible assumption))).trans HE.out), hal⟩ | exact ⟨ret_int ((bad2 (by first | with_reducible assumption | exact not_t (by with_reducible assumption) | exact no_t (by with_reducible assumption))).trans HE.out), hal⟩ | exact ⟨ret_int ((bad3 (by first | with_reducible assumption | exact not_t (by with_reducible assumption) | exact no_t (by with_reducible assumption))).trans HE.out), hal⟩ | exact ⟨ret_int ((bad4 (by first | with_reducible assumption | exact not_t (by with_reducible assumption) | exact no_t (by with_reducible assumption))).trans HE.out), hal⟩ | exact ⟨ret_int ((bad5 (by first | with_reducible assumption | exact not_t (by with_reducible assumption) | exact no_t (by with_reducible assumption))).trans HE.out), hal⟩ | exact ⟨ret_int ((bad6 (by first | with_reducible assumption | exact not_t (by with_reducible assumption) | exact no_t (by with_reducible assumption))).trans HE.out), hal⟩ | exact ⟨ret_int ((bad7 (by first | with_reducible assumption | exact not_t (by with_reducible assumption) | exact no_t (by with_reducible assumption))).trans HE.out), hal⟩ | exact ⟨ret_int ((bad8 (by first | with_reducible assumption | exact not_t (by with_reducible assumption) | exact no_t (by with_reducible assumption))).trans HE.out), hal⟩ | exact ⟨ret_int ((bad9 (by first | with_reducible assumption | exact not_t (by with_reducible assumption) | exact no_t (by with_reducible assumption))).trans HE.out), hal⟩ | exact ⟨ret_int ((bad10 (by first | with_reducible assumption | exact not_t (by with_reducible assumption) | exact no_t (by with_reducible assumption))).trans HE.out), hal⟩ | exact ⟨ret_int ((bad0 (by first | with_reducible assumption | exact not_f (by with_reducible assumption)) (by first | with_reducible assumption | exact not_f (by with_reducible assumption)) (by first | with_reducible assumption | exact not_f (by with_reducible assumption)) (by first | with_reducible assumption | exact not_f (by with_reducible assumption)) (by first | with_reducible assumption | exact not_f (by with_reducible assumption)) (by first | with_reducible assumption | exact not_f (by with_reducible assumption)) (by first | with_reducible assumption | exact not_f (by with_reducible assumption)) (by first | with_reducible assumption | exact not_f (by with_reducible assumption)) (by first | with_reducible assumption | exact not_f (by with_reducible assumption)) (by first | with_reducible assumption | exact not_f (by with_reducible assumption))).trans HE.out), hal⟩
-- END WALK

set_option maxHeartbeats 800000 in
theorem rrate_calls (c : Cfg) (step : Int) (w : World) (h0 : 1 ≤ c.steps) (h1 : c.steps ≤ 40) (h2 : 0 ≤ step) (h3 : step ≤ 40) :
    Calls Tryz.prog 57 #[c.val, .int .i64 step] w fun e w' => e = .returned (.int .i64 (rateV c step)) ∧ Below w.heap.size w w' := by
  have hal := (Below.refl w.heap.size w).alloc (Nat.le_refl _) (.cells c.cells 24)
  unfold rateV
  obtain ⟨i, h, o, seed, batch, steps, rate, decay, how, keep, clip⟩ := c
  simp only [Cfg.val, Cfg.cells] at *
  by_cases hd : decay = 1
  · have hd' : (decay == 1) = true := by simpa using hd
    rw [if_pos hd]
    clear hd
    have hw : IntKind.i64.wrap (steps - step) = steps - step := wrap_in _ (by omega) (by omega)
    go_enter Tryz.func57, Tryz.ntmps57
    go_wp2
    go_quiet ((first | (go_at_call 61; exact Calls.quiet_of_same (rdiv_calls _ _ _ (by omega))) | (go_at_call 115; exact Calls.quiet_of_same (rmul_calls _ _ _))))
    go_wp2
    go_ret
    exact ⟨rfl, below_drewN hal _⟩
  · have hd' : (decay == 1) = false := by simpa using hd
    rw [if_neg hd]
    clear hd
    go_enter Tryz.func57, Tryz.ntmps57
    go_wp2
    go_ret
    exact ⟨rfl, hal⟩

end Go.Proofs.YtimciamfgpdjlaaGreat.Fx

/- What coachref.Course returns, whatever config and examples are handed in. -/
namespace Go.Proofs.YtimciamfgpdjlaaGreat.Fx
open Go.RowKit

theorem course_bad {c : Cfg} {n : Nat} {X : Nat → Exm} {DI DO : Nat → List Int} (hc : cfgB c = true) (h0 : n ≠ 0) (h1 : n ≤ 16) {i : Nat} (hi : i < n) (h : exB c (X i) (DI i) (DO i) = false) : courseI c n X DI DO = 5 := by
  unfold courseI
  rw [if_pos hc, if_neg h0, if_neg (by omega), if_neg (by rw [allEx_no hi h]; decide)]

set_option maxRecDepth 100000 in
set_option maxHeartbeats 3200000 in
theorem rcourse_calls (c : Cfg) (a : Option Addr) (n cap : Nat) (X : Nat → Exm) (DI DO : Nat → List Int) (w : World) (hx : Exs w a n cap X DI DO) :
    Calls Tryz.prog 9 #[c.val, .slice a n cap] w fun e w' => e = .returned (.int .i64 (courseI c n X DI DO)) ∧ Below w.heap.size w w' := by
  have hal := low_alloc w (.cells c.cells 24)
  have HRC : Hid (∀ q, Calls Tryz.prog 51 #[c.val] q fun e w' => e = .returned (.int .i64 (cfgI c)) ∧ Below q.heap.size q w') := fun q => rconfig_calls c q
  cases hc : cfgB c with
  | false =>
    have hE : courseI c n X DI DO = 1 := by unfold courseI; rw [hc]; rfl
    rw [hE]
    rw [cfgI_no hc] at HRC
    clear hE hc hx
    obtain ⟨i, h, o, seed, batch, steps, rate, decay, how, keep, clip⟩ := c
    simp only [Cfg.val, Cfg.cells] at *
    go_enter Tryz.func9, Tryz.ntmps9
    go_wp2_with fail
    refine (HRC.out _).mono ?_
    rintro e w1 ⟨rfl, hw1⟩
    go_wp2
    go_ret
    exact ⟨rfl, hal.trans (hw1.mono hal.size)⟩
  | true =>
    rw [cfgI_yes hc] at HRC
    by_cases h0 : n = 0
    · have hE : courseI c n X DI DO = 1 := by unfold courseI; rw [hc, if_pos rfl, if_pos h0]
      rw [hE]
      have hn : ((n : Int) == 0) = true := by rw [beq_iff_eq]; omega
      clear hE hc hx h0
      obtain ⟨i, h, o, seed, batch, steps, rate, decay, how, keep, clip⟩ := c
      simp only [Cfg.val, Cfg.cells] at *
      go_enter Tryz.func9, Tryz.ntmps9
      go_wp2_with fail
      refine (HRC.out _).mono ?_
      rintro e w1 ⟨rfl, hw1⟩
      go_wp2
      go_ret
      exact ⟨rfl, hal.trans (hw1.mono hal.size)⟩
    · have hn : ((n : Int) == 0) = false := by rw [beq_eq_false_iff_ne]; omega
      by_cases h1 : 16 < n
      · have hE : courseI c n X DI DO = 2 := by unfold courseI; rw [hc, if_pos rfl, if_neg h0, if_pos h1]
        rw [hE]
        have h2 : (16 : Int) < (n : Int) := by omega
        clear hE hc hx h0
        obtain ⟨i, h, o, seed, batch, steps, rate, decay, how, keep, clip⟩ := c
        simp only [Cfg.val, Cfg.cells] at *
        go_enter Tryz.func9, Tryz.ntmps9
        go_wp2_with fail
        refine (HRC.out _).mono ?_
        rintro e w1 ⟨rfl, hw1⟩
        go_wp2
        go_ret
        exact ⟨rfl, hal.trans (hw1.mono hal.size)⟩
      · have h2 : ¬ (16 : Int) < (n : Int) := by omega
        have HBAD : Hid (∀ i, i < n → exB c (X i) (DI i) (DO i) = false → courseI c n X DI DO = 5) := fun i hi hb => course_bad hc h0 (by omega) hi hb
        have HOK : Hid ((∀ i, i < n → exB c (X i) (DI i) (DO i) = true) → courseI c n X DI DO = 0) := fun hb => by unfold courseI; rw [hc, if_pos rfl, if_neg h0, if_neg h1, if_pos (allEx_yes hb)]
        obtain ⟨E, hE⟩ : ∃ E, courseI c n X DI DO = E := ⟨_, rfl⟩
        rw [hE] at HBAD HOK ⊢
        have hside := cfgB_is hc
        have i4 := hside.1.2
        have o4 := hside.2.2.1.2
        have hx1 := hx.below hal (Nat.le_refl _)
        have KB : Hid (∀ q, Below (w.alloc (.cells c.cells 24)).heap.size (w.alloc (.cells c.cells 24)) q → BoxC q w.heap.size c) := fun q hq => boxC hq (by simp)
        clear hE hc hx hside h0
        obtain ⟨i, h, o, seed, batch, steps, rate, decay, how, keep, clip⟩ := c
        simp only [Cfg.val, Cfg.cells] at *
        go_enter Tryz.func9, Tryz.ntmps9
        go_wp2_with fail
        refine (HRC.out _).mono ?_
        rintro e w1 ⟨rfl, hw1⟩
        have hx2 := hx1.below hw1 (Nat.le_refl _)
        obtain ⟨c0, c1, c2, c3, c4, c5, c6, c7, c8, c9, c10⟩ := KB.out _ hw1
        have hb1 := hal.trans (hw1.mono hal.size)
        clear hx1 hw1 hal KB HRC c1 c3 c4 c5 c6 c7 c8 c9 c10
        dsimp only at c0 c2
        go_wp2_with fail
        go_loopw [6] (fun v wr => ∃ k nq : Nat, k ≤ n ∧ v = .int .i64 k ∧ Hid (∀ j, j < k → exB ⟨i, h, o, seed, batch, steps, rate, decay, how, keep, clip⟩ (X j) (DI j) (DO j) = true) ∧ wr = w1.drewN nq) (fun v _ => n - (intOf v).toNat)
        case atStart => exact ⟨0, 0, Nat.zero_le _, rfl, fun j hj => by omega, rfl⟩
        case round =>
          obtain ⟨k, nq0, hk, rfl, hg, hwq⟩ := hrel
          have hx3 : Exs wr a n cap X DI DO := by rw [hwq]; exact hx2.drewN _
          have d0 : wr.cell? ⟨w.heap.size, 0, none⟩ = some (.int .i64 i) := by rw [hwq]; exact c0
          have d2 : wr.cell? ⟨w.heap.size, 2, none⟩ = some (.int .i64 o) := by rw [hwq]; exact c2
          have HW : Hid (wr = w1.drewN nq0) := hwq
          clear hwq hx2 c0 c2
          by_cases hlt : k < n
          · obtain ⟨b, off, rfl, e1, e2, hin⟩ := hx3.at hlt
            have hbad := HBAD.out k hlt
            have hgood : exB ⟨i, h, o, seed, batch, steps, rate, decay, how, keep, clip⟩ (X k) (DI k) (DO k) = true → ∀ j, j < k + 1 → exB ⟨i, h, o, seed, batch, steps, rate, decay, how, keep, clip⟩ (X j) (DI j) (DO j) = true := fun g j hj => by
              by_cases e : j = k
              · subst e; exact g
              · exact hg.out j (by omega)
            obtain ⟨x, hxk⟩ : ∃ x, X k = x := ⟨_, rfl⟩
            rw [hxk] at e1 e2 hin hbad hgood
            obtain ⟨xa, xn, xk, xb, xm, xt⟩ := x
            obtain ⟨lI, lO⟩ := hin
            dsimp only at e1 e2 lI lO
            have HB : Hid (exB ⟨i, h, o, seed, batch, steps, rate, decay, how, keep, clip⟩ ⟨xa, xn, xk, xb, xm, xt⟩ (DI k) (DO k) = false → E = 5) := hbad
            have HG : Hid (exB ⟨i, h, o, seed, batch, steps, rate, decay, how, keep, clip⟩ ⟨xa, xn, xk, xb, xm, xt⟩ (DI k) (DO k) = true → ∀ j, j < k + 1 → exB ⟨i, h, o, seed, batch, steps, rate, decay, how, keep, clip⟩ (X j) (DI j) (DO j) = true) := hgood
            clear hbad hgood hxk hx3 HBAD HOK hg
            by_cases u1 : (xn : Int) = i
            · have v1 : ((xn : Int) != i) = false := by rw [bne_eq_false_iff_eq]; exact u1
              have x4 : xn ≤ 4 := by omega
              have U1 : Hid ((xn : Int) = i) := u1
              clear u1
              by_cases u2 : (xm : Int) = o
              · have v2 : ((xm : Int) != o) = false := by rw [bne_eq_false_iff_eq]; exact u2
                have y4 : xm ≤ 4 := by omega
                have U2 : Hid ((xm : Int) = o) := u2
                clear u2
                cases r1 : rightB (DI k) with
                | false =>
                  have R1 : Hid (rightB (DI k) = false) := r1
                  have HR1 : Hid (∀ q, Lst q xa xn xk (DI k) → Calls Tryz.prog 52 #[.slice xa xn xk] q fun e w' => e = .returned (.bool false) ∧ ∃ k, w' = q.drewN k) := fun q hq => by
                    have g := rright_calls xa xn xk (DI k) q hq (by omega)
                    rw [r1] at g
                    exact g
                  clear r1
                  go_wp2_with fail
                  go_quiet ((go_at_call_of 52 (Value.slice xa xn xk); exact Calls.quiet_of (HR1.out _ (lI.drewN _))))
                  go_wp2
                  go_ret
                  exact ⟨ret_int (HB.out (by simp [exB, R1.out])).symm, by rw [HW.out]; exact below_drewN (below_drewN hb1 _) _⟩
                | true =>
                  cases r2 : rightB (DO k) with
                  | false =>
                    have R1 : Hid (rightB (DI k) = true) := r1
                    have R2 : Hid (rightB (DO k) = false) := r2
                    have HR1 : Hid (∀ q, Lst q xa xn xk (DI k) → Calls Tryz.prog 52 #[.slice xa xn xk] q fun e w' => e = .returned (.bool true) ∧ ∃ k, w' = q.drewN k) := fun q hq => by
                      have g := rright_calls xa xn xk (DI k) q hq (by omega)
                      rw [r1] at g
                      exact g
                    have HR2 : Hid (∀ q, Lst q xb xm xt (DO k) → Calls Tryz.prog 52 #[.slice xb xm xt] q fun e w' => e = .returned (.bool false) ∧ ∃ k, w' = q.drewN k) := fun q hq => by
                      have g := rright_calls xb xm xt (DO k) q hq (by omega)
                      rw [r2] at g
                      exact g
                    go_wp2_with fail
                    go_quiet ((first | (go_at_call_of 52 (Value.slice xa xn xk); exact Calls.quiet_of (HR1.out _ (lI.drewN _))) | (go_at_call_of 52 (Value.slice xb xm xt); exact Calls.quiet_of (HR2.out _ (lO.drewN _)))))
                    go_wp2
                    go_ret
                    exact ⟨ret_int (HB.out (by simp [exB, R2.out])).symm, by rw [HW.out]; exact below_drewN (below_drewN hb1 _) _⟩
                  | true =>
                    have R1 : Hid (rightB (DI k) = true) := r1
                    have R2 : Hid (rightB (DO k) = true) := r2
                    have HR1 : Hid (∀ q, Lst q xa xn xk (DI k) → Calls Tryz.prog 52 #[.slice xa xn xk] q fun e w' => e = .returned (.bool true) ∧ ∃ k, w' = q.drewN k) := fun q hq => by
                      have g := rright_calls xa xn xk (DI k) q hq (by omega)
                      rw [r1] at g
                      exact g
                    have HR2 : Hid (∀ q, Lst q xb xm xt (DO k) → Calls Tryz.prog 52 #[.slice xb xm xt] q fun e w' => e = .returned (.bool true) ∧ ∃ k, w' = q.drewN k) := fun q hq => by
                      have g := rright_calls xb xm xt (DO k) q hq (by omega)
                      rw [r2] at g
                      exact g
                    clear r1 r2
                    go_wp2_with fail
                    go_quiet ((first | (go_at_call_of 52 (Value.slice xa xn xk); exact Calls.quiet_of (HR1.out _ (lI.drewN _))) | (go_at_call_of 52 (Value.slice xb xm xt); exact Calls.quiet_of (HR2.out _ (lO.drewN _)))))
                    go_wp2_with fail
                    go_roundw
                    case rel => exact ⟨k + 1, _, by omega, by go_num, HG.out (by simp [exB, R1.out, R2.out, U1.out, U2.out]), by rw [HW.out, World.drewN_drewN]⟩
                    case measure => simp [intOf]; omega
              · have v2 : ((xm : Int) != o) = true := by rw [bne_iff_ne]; exact u2
                have U2 : Hid (¬ (xm : Int) = o) := u2
                clear u2
                go_wp2_with fail
                go_quiet (fail)
                go_wp2
                go_ret
                exact ⟨ret_int (HB.out (by simp [exB, U2.out])).symm, by rw [HW.out]; exact below_drewN (below_drewN hb1 _) _⟩
            · have v1 : ((xn : Int) != i) = true := by rw [bne_iff_ne]; exact u1
              have U1 : Hid (¬ (xn : Int) = i) := u1
              clear u1
              go_wp2_with fail
              go_quiet (fail)
              go_wp2
              go_ret
              exact ⟨ret_int (HB.out (by simp [exB, U1.out])).symm, by rw [HW.out]; exact below_drewN (below_drewN hb1 _) _⟩
          · obtain rfl : k = n := by omega
            go_wp2
            go_ret
            exact ⟨ret_int (HOK.out hg.out).symm, by rw [HW.out]; exact below_drewN hb1 _⟩

end Go.Proofs.YtimciamfgpdjlaaGreat.Fx
