/- What optim's within, isSide, Check and Rate return, whatever is handed in. -/
import Derived.Test.YthmiojmlaclgaaaGreatDoorJ00
import Derived.Test.YthmiojmlaclgaaaGreatDoorJ01
namespace Go.Proofs.YthmiojmlaclgaaaGreatDoor.Fx
open Go.RowKit

theorem within_calls (n lo hi : Int) (w : World) : Calls Tryz.prog 89 #[.int .i64 n, .int .i64 lo, .int .i64 hi] w fun e w' => e = .returned (.bool (inB n lo hi)) ∧ w' = w := by
  unfold inB
  by_cases h1 : lo ≤ n
  · by_cases h2 : n ≤ hi
    · go_enter Tryz.func89, Tryz.ntmps89
      go_wp2
      go_ret
      exact ⟨ret_bool (by simp [h1, h2]), rfl⟩
    · go_enter Tryz.func89, Tryz.ntmps89
      go_wp2
      go_ret
      exact ⟨ret_bool (by simp; omega), rfl⟩
  · go_enter Tryz.func89, Tryz.ntmps89
    go_wp2
    go_ret
    exact ⟨ret_bool (by simp; omega), rfl⟩

theorem oside_calls (n : Int) (w : World) : Calls Tryz.prog 88 #[.int .i64 n] w fun e w' => e = .returned (.bool (inB n 1 4)) ∧ w' = w := by
  go_enter Tryz.func88, Tryz.ntmps88
  go_wp2_with (go_at_call 89; refine (within_calls _ _ _ _).mono ?_; rintro e w' ⟨rfl, hw'⟩; replace hw' := hw'.symm; subst hw')
  go_ret
  exact ⟨rfl, rfl⟩

-- LEMMAS
theorem bad1 {x1 x2 x3 x4 x5 x6 x7 x8 x9 x10 : Bool} (h : x1 = false) : (1 : Int) = if (x1 && x2 && x3 && x4 && x5 && x6 && x7 && x8 && x9 && x10) = true then 0 else 1 := by subst h; simp
theorem bad2 {x1 x2 x3 x4 x5 x6 x7 x8 x9 x10 : Bool} (h : x2 = false) : (1 : Int) = if (x1 && x2 && x3 && x4 && x5 && x6 && x7 && x8 && x9 && x10) = true then 0 else 1 := by subst h; simp
theorem bad3 {x1 x2 x3 x4 x5 x6 x7 x8 x9 x10 : Bool} (h : x3 = false) : (1 : Int) = if (x1 && x2 && x3 && x4 && x5 && x6 && x7 && x8 && x9 && x10) = true then 0 else 1 := by subst h; simp
theorem bad4 {x1 x2 x3 x4 x5 x6 x7 x8 x9 x10 : Bool} (h : x4 = false) : (1 : Int) = if (x1 && x2 && x3 && x4 && x5 && x6 && x7 && x8 && x9 && x10) = true then 0 else 1 := by subst h; simp
theorem bad5 {x1 x2 x3 x4 x5 x6 x7 x8 x9 x10 : Bool} (h : x5 = false) : (1 : Int) = if (x1 && x2 && x3 && x4 && x5 && x6 && x7 && x8 && x9 && x10) = true then 0 else 1 := by subst h; simp
theorem bad6 {x1 x2 x3 x4 x5 x6 x7 x8 x9 x10 : Bool} (h : x6 = false) : (1 : Int) = if (x1 && x2 && x3 && x4 && x5 && x6 && x7 && x8 && x9 && x10) = true then 0 else 1 := by subst h; simp
theorem bad7 {x1 x2 x3 x4 x5 x6 x7 x8 x9 x10 : Bool} (h : x7 = false) : (1 : Int) = if (x1 && x2 && x3 && x4 && x5 && x6 && x7 && x8 && x9 && x10) = true then 0 else 1 := by subst h; simp
theorem bad8 {x1 x2 x3 x4 x5 x6 x7 x8 x9 x10 : Bool} (h : x8 = false) : (1 : Int) = if (x1 && x2 && x3 && x4 && x5 && x6 && x7 && x8 && x9 && x10) = true then 0 else 1 := by subst h; simp
theorem bad9 {x1 x2 x3 x4 x5 x6 x7 x8 x9 x10 : Bool} (h : x9 = false) : (1 : Int) = if (x1 && x2 && x3 && x4 && x5 && x6 && x7 && x8 && x9 && x10) = true then 0 else 1 := by subst h; simp
theorem bad10 {x1 x2 x3 x4 x5 x6 x7 x8 x9 x10 : Bool} (h : x10 = false) : (1 : Int) = if (x1 && x2 && x3 && x4 && x5 && x6 && x7 && x8 && x9 && x10) = true then 0 else 1 := by subst h; simp
theorem bad0 {x1 x2 x3 x4 x5 x6 x7 x8 x9 x10 : Bool} (h1 : x1 = true) (h2 : x2 = true) (h3 : x3 = true) (h4 : x4 = true) (h5 : x5 = true) (h6 : x6 = true) (h7 : x7 = true) (h8 : x8 = true) (h9 : x9 = true) (h10 : x10 = true) : (0 : Int) = if (x1 && x2 && x3 && x4 && x5 && x6 && x7 && x8 && x9 && x10) = true then 0 else 1 := by subst h1 h2 h3 h4 h5 h6 h7 h8 h9 h10; rfl
theorem not_t {x : Bool} (h : (!x) = true) : x = false := by cases x with
  | false => rfl
  | true => cases h
theorem not_f {x : Bool} (h : (!x) = false) : x = true := by cases x with
  | false => cases h
  | true => rfl
theorem no_t {x : Bool} (h : ¬ x = true) : x = false := by cases x with
  | false => rfl
  | true => exact absurd rfl h
-- END LEMMAS

-- WALK
set_option maxHeartbeats 1600000 in
theorem ocheck_calls (c : Cfg) (w : World) : Calls Tryz.prog 55 #[c.val] w fun e w' => e = .returned (.int .i64 (cfgI c)) ∧ Below w.heap.size w w' := by
  have hal := (Below.refl w.heap.size w).alloc (Nat.le_refl _) (.cells c.cells 50)
  obtain ⟨i, h, o, seed, batch, steps, rate, decay, how, keep, clip⟩ := c
  simp only [Cfg.val, Cfg.cells] at *
  unfold cfgI cfgB
  dsimp only
  obtain ⟨x1, X1⟩ : ∃ x, Hid (inB i 1 4 = x) := ⟨_, rfl⟩
  obtain ⟨x2, X2⟩ : ∃ x, Hid (inB h 1 4 = x) := ⟨_, rfl⟩
  obtain ⟨x3, X3⟩ : ∃ x, Hid (inB o 1 4 = x) := ⟨_, rfl⟩
  obtain ⟨x4, X4⟩ : ∃ x, Hid (inB batch 1 8 = x) := ⟨_, rfl⟩
  obtain ⟨x5, X5⟩ : ∃ x, Hid (inB steps 1 40 = x) := ⟨_, rfl⟩
  obtain ⟨x6, X6⟩ : ∃ x, Hid (inB rate 0 2147483647 = x) := ⟨_, rfl⟩
  obtain ⟨x7, X7⟩ : ∃ x, Hid (inB decay 0 1 = x) := ⟨_, rfl⟩
  obtain ⟨x8, X8⟩ : ∃ x, Hid (inB how 0 1 = x) := ⟨_, rfl⟩
  obtain ⟨x9, X9⟩ : ∃ x, Hid (inB keep 0 65536 = x) := ⟨_, rfl⟩
  obtain ⟨x10, X10⟩ : ∃ x, Hid (inB clip 0 2147483647 = x) := ⟨_, rfl⟩
  rw [X1.out, X2.out, X3.out, X4.out, X5.out, X6.out, X7.out, X8.out, X9.out, X10.out]
  obtain ⟨E, HE⟩ : ∃ E : Int, Hid ((if (x1 && x2 && x3 && x4 && x5 && x6 && x7 && x8 && x9 && x10) = true then 0 else 1) = E) := ⟨_, rfl⟩
  rw [HE.out]
  go_enter Tryz.func55, Tryz.ntmps55
  go_wp2_with (first | (go_at_call 88; refine (oside_calls _ _).mono ?_; rintro e w' ⟨rfl, hw'⟩; replace hw' := hw'.symm; subst hw'; first | rw [X1.out] | rw [X2.out] | rw [X3.out]) | (go_at_call 89; refine (within_calls _ _ _ _).mono ?_; rintro e w' ⟨rfl, hw'⟩; replace hw' := hw'.symm; subst hw'; first | rw [X4.out] | rw [X5.out] | rw [X6.out] | rw [X7.out] | rw [X8.out] | rw [X9.out] | rw [X10.out]))
  all_goals go_ret
  all_goals first | exact ⟨ret_int ((bad1 (by first | with_reducible assumption | exact not_t (by with_reducible assumption) | exact no_t (by with_reducible assumption))).trans HE.out), hal⟩ | exact ⟨ret_int ((bad2 (by first | with_reducible assumption | exact not_t (by with_reducible assumption) | exact no_t (by with_reducible assumption))).trans HE.out), hal⟩ | exact ⟨ret_int ((bad3 (by first | with_reducible assumption | exact not_t (by with_reducible assumption) | exact no_t (by with_reducible assumption))).trans HE.out), hal⟩ | exact ⟨ret_int ((bad4 (by first | with_reducible assumption | exact not_t (by with_reducible assumption) | exact no_t (by with_reducible assumption))).trans HE.out), hal⟩ | exact ⟨ret_int ((bad5 (by first | with_reducible assumption | exact not_t (by with_reducible assumption) | exact no_t (by with_reducible assumption))).trans HE.out), hal⟩ | exact ⟨ret_int ((bad6 (by first | with_reducible assumption | exact not_t (by with_reducible assumption) | exact no_t (by with_reducible assumption))).trans HE.out), hal⟩ | exact ⟨ret_int ((bad7 (by first | with_reducible assumption | exact not_t (by with_reducible assumption) | exact no_t (by with_reducible assumption))).trans HE.out), hal⟩ | exact ⟨ret_int ((bad8 (by first | with_reducible assumption | exact not_t (by with_reducible assumption) | exact no_t (by with_reducible assumption))).trans HE.out), hal⟩ | exact ⟨ret_int ((bad9 (by first | with_reducible assumption | exact not_t (by with_reducible assumption) | exact no_t (by with_reducible assumption))).trans HE.out), hal⟩ | exact ⟨ret_int ((bad10 (by first | with_reducible assumption | exact not_t (by with_reducible assumption) | exact no_t (by with_reducible assumption))).trans HE.out), hal⟩ | exact ⟨ret_int ((bad0 (by first | with_reducible assumption | exact not_f (by with_reducible assumption)) (by first | with_reducible assumption | exact not_f (by with_reducible assumption)) (by first | with_reducible assumption | exact not_f (by with_reducible assumption)) (by first | with_reducible assumption | exact not_f (by with_reducible assumption)) (by first | with_reducible assumption | exact not_f (by with_reducible assumption)) (by first | with_reducible assumption | exact not_f (by with_reducible assumption)) (by first | with_reducible assumption | exact not_f (by with_reducible assumption)) (by first | with_reducible assumption | exact not_f (by with_reducible assumption)) (by first | with_reducible assumption | exact not_f (by with_reducible assumption)) (by first | with_reducible assumption | exact not_f (by with_reducible assumption))).trans HE.out), hal⟩
-- END WALK

set_option maxHeartbeats 1600000 in
theorem rate_calls (c : Cfg) (step : Int) (w : World) : Calls Tryz.prog 135 #[c.val, .int .i64 step] w fun e w' => e = .returned (.tuple #[.int .i64 (rateI c step), .int .i64 (rateE c step)]) ∧ Below w.heap.size w w' := by
  have hal := (Below.refl w.heap.size w).alloc (Nat.le_refl _) (.cells c.cells 50)
  cases hc : cfgB c with
  | false =>
    have HI : Hid (cfgI c = 1) := cfgI_no hc
    have HR : Hid (rateI c step = 0) := if_neg (fun g => by rw [hc] at g; cases g.1)
    have HE : Hid (rateE c step = 1) := if_neg (fun g => by rw [hc] at g; cases g.1)
    rw [HR.out, HE.out]
    have K := ocheck_calls c (w.alloc (.cells c.cells 50))
    rw [HI.out] at K
    have HK : Hid (Calls Tryz.prog 55 #[c.val] (w.alloc (.cells c.cells 50)) fun e w' => e = .returned (.int .i64 1) ∧ Below (w.alloc (.cells c.cells 50)).heap.size (w.alloc (.cells c.cells 50)) w') := K
    clear K hc HI HR HE
    obtain ⟨i, h, o, seed, batch, steps, rate, decay, how, keep, clip⟩ := c
    simp only [Cfg.val, Cfg.cells] at *
    go_enter Tryz.func135, Tryz.ntmps135
    go_wp2_with fail
    refine HK.out.mono ?_
    rintro e w1 ⟨rfl, hw1⟩
    go_wp2
    go_ret2
    exact ⟨rfl, hal.trans (hw1.mono hal.size)⟩
  | true =>
    obtain ⟨_, _, _, _, ⟨s1, s2⟩, ⟨r1, r2⟩, ⟨d1, d2⟩, _⟩ := cfgB_is hc
    have K := ocheck_calls c (w.alloc (.cells c.cells 50))
    rw [cfgI_yes hc] at K
    obtain ⟨R, HR⟩ : ∃ R, Hid (rateI c step = R) := ⟨_, rfl⟩
    obtain ⟨E, HE⟩ : ∃ E, Hid (rateE c step = E) := ⟨_, rfl⟩
    rw [HR.out, HE.out]
    have HR' := HR.out
    have HE' := HE.out
    unfold rateI at HR'
    unfold rateE at HE'
    cases hs : inB step 0 (c.steps - 1) with
    | false =>
      rw [if_neg (fun g => by rw [hs] at g; cases g.2)] at HR' HE'
      subst HR' HE'
      have HS : Hid (inB step 0 (c.steps - 1) = false) := hs
      have HK : Hid (Calls Tryz.prog 55 #[c.val] (w.alloc (.cells c.cells 50)) fun e w' => e = .returned (.int .i64 0) ∧ Below (w.alloc (.cells c.cells 50)).heap.size (w.alloc (.cells c.cells 50)) w') := K
      clear K hs HR HE hc
      obtain ⟨i, h, o, seed, batch, steps, rate, decay, how, keep, clip⟩ := c
      simp only [Cfg.val, Cfg.cells] at *
      go_enter Tryz.func135, Tryz.ntmps135
      go_wp2_with fail
      refine HK.out.mono ?_
      rintro e w1 ⟨rfl, hw1⟩
      obtain ⟨c0, c1, c2, c3, c4, c5, c6, c7, c8, c9, c10⟩ := boxC (c := ⟨i, h, o, seed, batch, steps, rate, decay, how, keep, clip⟩) hw1 (by simp)
      go_wp2_with (go_at_call 89; refine (within_calls _ _ _ _).mono ?_; rintro e w' ⟨rfl, hw'⟩; replace hw' := hw'.symm; subst hw'; rw [HS.out])
      go_ret2
      exact ⟨rfl, hal.trans (hw1.mono hal.size)⟩
    | true =>
      rw [if_pos ⟨hc, hs⟩] at HR' HE'
      have HS : Hid (inB step 0 (c.steps - 1) = true) := hs
      have hst := in_is hs
      subst HE'
      have HV : Hid (rateV c step = R) := HR'
      have HK : Hid (Calls Tryz.prog 55 #[c.val] (w.alloc (.cells c.cells 50)) fun e w' => e = .returned (.int .i64 0) ∧ Below (w.alloc (.cells c.cells 50)).heap.size (w.alloc (.cells c.cells 50)) w') := K
      clear K hs HR HE HR' hc
      obtain ⟨i, h, o, seed, batch, steps, rate, decay, how, keep, clip⟩ := c
      simp only [Cfg.val, Cfg.cells] at *
      by_cases hd : decay = 0
      · have hd' : (decay == 0) = true := by simpa using hd
        have hv : rate = R := by
          have := HV.out
          unfold rateV at this
          dsimp only at this
          rw [if_neg (by omega)] at this
          exact this
        subst hv
        clear hd
        go_enter Tryz.func135, Tryz.ntmps135
        go_wp2_with fail
        refine HK.out.mono ?_
        rintro e w1 ⟨rfl, hw1⟩
        obtain ⟨c0, c1, c2, c3, c4, c5, c6, c7, c8, c9, c10⟩ := boxC (c := ⟨i, h, o, seed, batch, steps, rate, decay, how, keep, clip⟩) hw1 (by simp)
        go_wp2_with (go_at_call 89; refine (within_calls _ _ _ _).mono ?_; rintro e w' ⟨rfl, hw'⟩; replace hw' := hw'.symm; subst hw'; rw [HS.out])
        go_ret2
        exact ⟨rfl, hal.trans (hw1.mono hal.size)⟩
      · have hd' : (decay == 0) = false := by simpa using hd
        have hv : mulI rate (divI (steps - step) steps) = R := by
          have := HV.out
          unfold rateV at this
          dsimp only at this
          rw [if_pos (by omega)] at this
          exact this
        subst hv
        clear hd HV
        go_enter Tryz.func135, Tryz.ntmps135
        go_wp2_with fail
        refine HK.out.mono ?_
        rintro e w1 ⟨rfl, hw1⟩
        obtain ⟨c0, c1, c2, c3, c4, c5, c6, c7, c8, c9, c10⟩ := boxC (c := ⟨i, h, o, seed, batch, steps, rate, decay, how, keep, clip⟩) hw1 (by simp)
        dsimp only at c0 c1 c2 c3 c4 c5 c6 c7 c8 c9 c10
        go_wp2_with (first | (go_at_call 89; refine (within_calls _ _ _ _).mono ?_; rintro e w' ⟨rfl, hw'⟩; replace hw' := hw'.symm; subst hw'; rw [HS.out]) | (go_at_call 185; refine (div_calls _ _ _ (by omega)).mono ?_; rintro e w' ⟨rfl, k1, hw'⟩; subst hw') | (go_at_call 190; refine (mul_calls _ _ _).mono ?_; rintro e w' ⟨rfl, k2, hw'⟩; subst hw'))
        go_ret2
        exact ⟨rfl, below_drewN (hal.trans (hw1.mono hal.size)) _⟩

end Go.Proofs.YthmiojmlaclgaaaGreatDoor.Fx

/- What vec.Sum and vec.Times return: whatever lists lie there. -/
namespace Go.Proofs.YthmiojmlaclgaaaGreatDoor.Fx
open Go.RowKit

def sumG (xs ys : List Int) (i : Nat) : Int := addI (xs.getD i 0) (ys.getD i 0)
def oneI (la : Nat) : Int := if 200 < la then 2 else 0
def timesG (xs : List Int) (n : Int) (i : Nat) : Int := mulI (xs.getD i 0) n
def timesL (xs : List Int) (n : Int) (la : Nat) : List Int := if 200 < la then [] else (List.range la).map (timesG xs n)

set_option maxHeartbeats 1600000 in
theorem vTimes_calls (a : Option Addr) (la ca : Nat) (xs : List Int) (m : Int) (w : World) (ha : Lst w a la ca xs) :
    Calls Tryz.prog 186 #[.slice a la ca, .int .i64 m] w fun e w' => ∃ a' n, e = .returned (.tuple #[.slice a' n n, .int .i64 (oneI la)]) ∧ n ≤ 200 ∧ Lst w' a' n n (timesL xs m la) ∧ Below w.heap.size w w' := by
  unfold timesL oneI
  have hal := (Below.refl w.heap.size w).alloc (Nat.le_refl _) (.cells #[.slice a la ca] 66)
  by_cases hl : 200 < la
  · rw [if_pos hl, if_pos hl]
    have hd : decide (200 < la) = true := decide_eq_true hl
    clear ha
    go_enter Tryz.func186, Tryz.ntmps186
    go_wp2_with (go_at_call 199; refine (long1 _ _ _ _ _ rfl).mono ?_; rintro e w' ⟨rfl, rfl⟩; rw [hd])
    go_ret2
    exact ⟨_, _, rfl, Nat.zero_le _, Lst.nil _ _ _, hal⟩
  · rw [if_neg hl, if_neg hl]
    have hd : decide (200 < la) = false := decide_eq_false hl
    have hmk := run_make_row' (P := Tryz.prog) 66 3 (.int .i64 0) 8 Tryz.underlying66 info3 rfl .i64 .i64 la (by omega) (by omega)
    go_enter Tryz.func186, Tryz.ntmps186
    go_wp2_with (go_at_call 199; refine (long1 _ _ _ _ _ rfl).mono ?_; rintro e w' ⟨rfl, rfl⟩; rw [hd])
    go_loopw [16] (fun i wr => ∃ k : Nat, k ≤ la ∧ i = .int .i64 k ∧ wr.rowIs (w.heap.size + 1) 3 la (rowTo (timesG xs m) k) ∧ Below w.heap.size w wr) (fun i _ => la - (intOf i).toNat)
    case atStart => exact ⟨0, Nat.zero_le _, rfl, rowTo_made (by have h := World.rowIs_made (w.alloc (.cells #[.slice a la ca] 66)) (.int .i64 0) la 3; simpa using h), hal.alloc hal.size _⟩
    case round =>
      obtain ⟨k, hk, rfl, hrow, hbel⟩ := hrel
      have ha' := ha.below hbel (Nat.le_refl _)
      clear ha hal hmk
      by_cases hlt : k < la
      · obtain ⟨b1, o1, x, rfl, _, c1, HX⟩ := ha'.at1 hlt
        have c3 := rowTo_cell hrow hlt
        have f3 := hrow.frozen k
        go_wp2_with (go_at_call 190; refine (mul_calls _ _ _).mono ?_; rintro e w' ⟨rfl, nd, rfl⟩)
        go_roundw
        case rel =>
          have st := rowTo_step (g := timesG xs m) hrow
          simp only [timesG, HX.out] at st
          exact ⟨k + 1, by omega, by go_num, rowIs_drewN st _, below_drewN (hbel.setCell (by simp) _) _⟩
        case measure => simp [intOf]; omega
      · go_wp2
        go_ret2
        obtain rfl : k = la := by omega
        exact ⟨_, _, rfl, by omega, rowTo_lst hrow, hbel⟩

end Go.Proofs.YthmiojmlaclgaaaGreatDoor.Fx

/- What optim's clamped, greatest and Clip return, whatever list lies there. -/
namespace Go.Proofs.YthmiojmlaclgaaaGreatDoor.Fx
open Go.RowKit

def clampL (xs : List Int) (la : Nat) : List Int := (List.range la).map (clampG xs)
theorem clampL_get {xs : List Int} {la i : Nat} (hi : i < la) : (clampL xs la).getD i 0 = clampG xs i := by
  unfold clampL
  simp [hi]

set_option maxHeartbeats 800000 in
theorem clamped_calls (a : Option Addr) (la ca : Nat) (xs : List Int) (w : World) (ha : Lst w a la ca xs) (hl : la ≤ 200) :
    Calls Tryz.prog 183 #[.slice a la ca] w fun e w' => ∃ a', e = .returned (.slice a' la la) ∧ Lst w' a' la la (clampL xs la) ∧ Below w.heap.size w w' := by
  have hmk := run_make_row' (P := Tryz.prog) 66 3 (.int .i64 0) 8 Tryz.underlying66 info3 rfl .i64 .i64 la (by omega) (by omega)
  go_enter Tryz.func183, Tryz.ntmps183
  go_wp2
  go_loopw [11] (fun i wr => ∃ k : Nat, k ≤ la ∧ i = .int .i64 k ∧ wr.rowIs w.heap.size 3 la (rowTo (clampG xs) k) ∧ Below w.heap.size w wr) (fun i _ => la - (intOf i).toNat)
  case atStart => exact ⟨0, Nat.zero_le _, rfl, rowTo_made (World.rowIs_made _ _ _ _), (Below.refl _ _).alloc (Nat.le_refl _) _⟩
  case round =>
    obtain ⟨k, hk, rfl, hrow, hbel⟩ := hrel
    have ha' := ha.below hbel (Nat.le_refl _)
    clear ha hmk
    by_cases hlt : k < la
    · obtain ⟨b1, o1, x, rfl, _, c1, HX⟩ := ha'.at1 hlt
      have c3 := rowTo_cell hrow hlt
      have f3 := hrow.frozen k
      go_wp2_with (go_at_call 137; refine (clamp_calls _ _).mono ?_; rintro e w' ⟨rfl, hw'⟩; replace hw' := hw'.symm; subst hw')
      go_roundw
      case rel =>
        have st := rowTo_step (g := clampG xs) hrow
        simp only [clampG, HX.out] at st
        exact ⟨k + 1, by omega, by go_num, st, hbel.setCell (Nat.le_refl _) _⟩
      case measure => simp [intOf]; omega
    · obtain rfl : k = la := by omega
      go_wp2
      go_ret
      exact ⟨_, rfl, rowTo_lst hrow, hbel⟩

theorem top_step {t n : Int} (h0 : 0 ≤ t) : (if (if t < n then n else t) < -n then -n else (if t < n then n else t)) = if t < absI n then absI n else t := by
  unfold absI
  (repeat' split) <;> omega

set_option maxHeartbeats 800000 in
theorem greatest_calls (a : Option Addr) (la ca : Nat) (xs : List Int) (g : Nat → Int) (w : World) (ha : Lst w a la ca xs) (hl : la ≤ 200) (hg : ∀ i, i < la → xs.getD i 0 = g i) (hb : ∀ i, i < la → -2147483647 ≤ g i ∧ g i ≤ 2147483647) :
    Calls Tryz.prog 184 #[.slice a la ca] w fun e w' => e = .returned (.int .i64 (topTo g la)) ∧ w' = w := by
  have HG : Hid (∀ i, i < la → xs.getD i 0 = g i) := hg
  have HB : Hid (∀ i, i < la → -2147483647 ≤ g i ∧ g i ≤ 2147483647) := hb
  clear hg hb
  go_enter Tryz.func184, Tryz.ntmps184
  go_wp2
  go_loopw [3, 8] (fun t i wr => ∃ k : Nat, k ≤ la ∧ i = .int .i64 k ∧ t = .int .i64 (topTo g k) ∧ wr = w) (fun _ i _ => la - (intOf i).toNat)
  case atStart => exact ⟨0, Nat.zero_le _, rfl, rfl, rfl⟩
  case round =>
    obtain ⟨k, hk, rfl, rfl, hw⟩ := hrel
    replace hw := hw.symm
    subst hw
    by_cases hlt : k < la
    · obtain ⟨b1, o1, x, rfl, _, c1, HX⟩ := ha.at1 hlt
      have hx : g k = x := by rw [← HG.out k hlt]; exact HX.out
      have hbx := HB.out k hlt
      rw [hx] at hbx
      have htb := topTo_bd (g := g) (n := k) (fun i hi => HB.out i (by omega))
      obtain ⟨t, ht⟩ : ∃ t, topTo g k = t := ⟨_, rfl⟩
      have HN : Hid (topTo g (k + 1) = if t < absI x then absI x else t) := by
        show topTo g (k + 1) = _
        rw [← ht, ← hx]
        rfl
      rw [ht] at htb ⊢
      obtain ⟨u, hu⟩ : ∃ u, (if x > t then x else t) = u := ⟨_, rfl⟩
      obtain ⟨v, hv⟩ : ∃ v, (if -x > u then -x else u) = v := ⟨_, rfl⟩
      have hub : 0 ≤ u ∧ u ≤ 2147483647 := by rw [← hu]; split <;> omega
      have HV : Hid (topTo g (k + 1) = v) := by
        show _ = _
        rw [HN.out, ← top_step htb.1]; exact (show (if -x > (if x > t then x else t) then -x else (if x > t then x else t)) = v by rw [hu, hv])
      have hm : ∀ wz, (Builtin.max_ #[3, 3, 3] 3 #[.int .i64 t, .int .i64 x, .int .i64 (-x)]).run Tryz.prog wz = .ok (.int .i64 v) wz := fun wz => by
        simp only [Builtin.max_]
        rw [← hv, ← hu]
        rfl
      clear ht hx hu hv
      go_wp2
      go_roundw
      case rel => exact ⟨k + 1, by omega, by go_num, by rw [HV.out], by trivial⟩
      case measure => simp [intOf]; omega
    · obtain rfl : k = la := by omega
      go_wp2
      go_ret
      exact ⟨rfl, rfl⟩

theorem clipL_small {xs : List Int} {most : Int} {la : Nat} (hE : clipE la most = 0) (h : ¬ (most ≠ 0 ∧ most < topL xs la)) : clipL xs most la = clampL xs la := by
  unfold clipL clampL
  rw [if_pos hE]
  refine List.map_congr_left (fun i _ => ?_)
  unfold clipG clampG
  rw [if_neg h]
theorem clipL_great {xs : List Int} {most : Int} {la : Nat} (hE : clipE la most = 0) (hl : la ≤ 200) (h : most ≠ 0 ∧ most < topL xs la) : timesL (clampL xs la) (divI most (topL xs la)) la = clipL xs most la := by
  unfold clipL timesL
  rw [if_pos hE, if_neg (by omega)]
  refine List.map_congr_left (fun i hi => ?_)
  unfold timesG clipG
  rw [if_pos h, clampL_get (List.mem_range.1 hi)]
  unfold clampG
  rw [mulI_clamp]

set_option maxHeartbeats 800000 in
theorem clip_calls (a : Option Addr) (la ca : Nat) (xs : List Int) (most : Int) (w : World) (ha : Lst w a la ca xs) :
    Calls Tryz.prog 133 #[.slice a la ca, .int .i64 most] w fun e w' => ∃ a' n, e = .returned (.tuple #[.slice a' n n, .int .i64 (clipE la most)]) ∧ n ≤ 200 ∧ Lst w' a' n n (clipL xs most la) ∧ Below w.heap.size w w' := by
  by_cases hl : 200 < la
  · have hE : clipE la most = 2 := by unfold clipE; rw [if_pos hl]
    have hX : clipL xs most la = [] := by unfold clipL; rw [hE]; rfl
    rw [hE, hX]
    clear hE hX ha
    have hl' : (200 : Int) < (la : Int) := by omega
    go_enter Tryz.func133, Tryz.ntmps133
    go_wp2
    go_ret2
    exact ⟨none, 0, rfl, by omega, Lst.nil _ _ _, Below.refl _ _⟩
  · have hl' : ¬ (200 : Int) < (la : Int) := by omega
    cases hm : inB most 0 2147483647 with
    | false =>
      have hE : clipE la most = 1 := by unfold clipE; rw [if_neg hl, hm]; rfl
      have hX : clipL xs most la = [] := by unfold clipL; rw [hE]; rfl
      rw [hE, hX]
      have HM : Hid (inB most 0 2147483647 = false) := hm
      clear hE hX ha hm
      go_enter Tryz.func133, Tryz.ntmps133
      go_wp2_with (go_at_call 89; refine (within_calls _ _ _ _).mono ?_; rintro e w' ⟨rfl, hw'⟩; replace hw' := hw'.symm; subst hw'; rw [HM.out])
      go_ret2
      exact ⟨none, 0, rfl, by omega, Lst.nil _ _ _, Below.refl _ _⟩
    | true =>
      have hE : clipE la most = 0 := by unfold clipE; rw [if_neg hl, hm]; rfl
      have HM : Hid (inB most 0 2147483647 = true) := hm
      have hmb := in_is hm
      have htb := topL_bd xs la
      have SM := clipL_small (xs := xs) hE
      have GR := clipL_great (xs := xs) hE (by omega)
      have HGT : Hid (∀ (a' : Option Addr) (q : World), Lst q a' la la (clampL xs la) → Calls Tryz.prog 184 #[.slice a' la la] q fun e w' => e = .returned (.int .i64 (topL xs la)) ∧ w' = q) :=
        fun a' q hq => greatest_calls a' la la _ (clampG xs) q hq (by omega) (fun i hi => clampL_get hi) (fun i _ => clampG_bd xs i)
      rw [hE]
      generalize topL xs la = t at *
      by_cases h : most ≠ 0 ∧ most < t
      · have GR := GR h
        have b1 : (most == 0) = false := by simpa using h.1
        have h2 := h.2
        rw [← GR]
        clear hE hm SM h GR
        go_enter Tryz.func133, Tryz.ntmps133
        go_wp2_with (go_at_call 89; refine (within_calls _ _ _ _).mono ?_; rintro e w' ⟨rfl, hw'⟩; replace hw' := hw'.symm; subst hw'; rw [HM.out])
        refine (clamped_calls _ _ _ _ _ ha (by omega)).mono ?_
        rintro e w1 ⟨a1, rfl, h1, hw1⟩
        go_wp2_with (first | (go_at_call 184; refine (HGT.out _ _ h1).mono ?_; rintro e w' ⟨rfl, hw'⟩; replace hw' := hw'.symm; subst hw') | (go_at_call 185; refine (div_calls _ _ _ (by omega)).mono ?_; rintro e w' ⟨rfl, k1, hw'⟩; subst hw') | (go_at_call 186; refine (vTimes_calls _ _ _ _ _ _ (h1.drewN _)).mono ?_; rintro e w2 ⟨a2, n2, rfl, hn2, h2, hw2⟩; rw [show oneI la = 0 from if_neg (by omega)]))
        go_ret2
        exact ⟨_, _, rfl, hn2, h2, hw1.trans ((below_drewN (Below.refl _ _) _).trans (hw2.mono (by simpa using hw1.size)))⟩
      · have SM := SM h
        rw [SM]
        have HH : Hid (¬ (most ≠ 0 ∧ most < t)) := h
        clear hE hm SM GR h
        by_cases h0 : most = 0
        · have b1 : (most == 0) = true := by simpa using h0
          clear h0
          go_enter Tryz.func133, Tryz.ntmps133
          go_wp2_with (go_at_call 89; refine (within_calls _ _ _ _).mono ?_; rintro e w' ⟨rfl, hw'⟩; replace hw' := hw'.symm; subst hw'; rw [HM.out])
          refine (clamped_calls _ _ _ _ _ ha (by omega)).mono ?_
          rintro e w1 ⟨a1, rfl, h1, hw1⟩
          go_wp2_with (go_at_call 184; refine (HGT.out _ _ h1).mono ?_; rintro e w' ⟨rfl, hw'⟩; replace hw' := hw'.symm; subst hw')
          go_ret2
          exact ⟨_, _, rfl, by omega, h1, hw1⟩
        · have b1 : (most == 0) = false := by simpa using h0
          have b2 : t ≤ most := by
            have := HH.out
            omega
          clear h0
          go_enter Tryz.func133, Tryz.ntmps133
          go_wp2_with (go_at_call 89; refine (within_calls _ _ _ _).mono ?_; rintro e w' ⟨rfl, hw'⟩; replace hw' := hw'.symm; subst hw'; rw [HM.out])
          refine (clamped_calls _ _ _ _ _ ha (by omega)).mono ?_
          rintro e w1 ⟨a1, rfl, h1, hw1⟩
          go_wp2_with (go_at_call 184; refine (HGT.out _ _ h1).mono ?_; rintro e w' ⟨rfl, hw'⟩; replace hw' := hw'.symm; subst hw')
          go_ret2
          exact ⟨_, _, rfl, by omega, h1, hw1⟩

end Go.Proofs.YthmiojmlaclgaaaGreatDoor.Fx
