/- What vec.Dot, Sum and Times return: whatever lists lie there. -/
import Derived.Test.YtknmnailimkliaaVecA
import Derived.BigRegion
import Derived.Deep.RegionWith
namespace Go.Proofs.Ytknmnailimkliaa.Fx
open Go.RowKit

theorem info3 : (Try.prog.info? 3).map (fun i => (i.zero, i.size, i.bytes)) = some (some (.int .i64 0), 1, 8) := by kernel_rfl

theorem twoI_cases (la lb : Nat) : (twoI la lb = 0 ∧ la = lb ∧ la ≤ 200) ∨ (twoI la lb ≠ 0 ∧ (twoI la lb != 0) = true) := by
  unfold twoI
  by_cases h : 200 < la ∨ 200 < lb
  · rw [if_pos h]; exact .inr ⟨by decide, by decide⟩
  · rw [if_neg h]
    by_cases e : la = lb
    · rw [if_pos e]; exact .inl ⟨rfl, e, by omega⟩
    · rw [if_neg e]; exact .inr ⟨by decide, by decide⟩

theorem vDot_calls (a b : Option Addr) (la ca lb cb : Nat) (xs ys : List Int) (w : World) (ha : Lst w a la ca xs) (hb : Lst w b lb cb ys) :
    Calls Try.prog 17 #[.slice a la ca, .slice b lb cb] w fun e w' => e = .returned (.tuple #[.int .i64 (if twoI la lb = 0 then dotTo xs ys la else 0), .int .i64 (twoI la lb)]) ∧ Below w.heap.size w w' := by
  rcases twoI_cases la lb with ⟨h0, rfl, hl⟩ | ⟨h0, h1⟩
  · rw [if_pos h0]
    have H0 : Hid (twoI la la = 0) := h0
    clear h0
    go_enter Try.func17, Try.ntmps17
    go_wp2_with (first | (go_at_call 33; refine (two_calls _ _ _ _ _ _ _).mono ?_; rintro e w' ⟨rfl, hw⟩; rw [H0.out]) | (go_at_call 34; refine (dot_calls _ _ _ _ _ xs ys _ (ha.below hw (Nat.le_refl _)) (hb.below hw (Nat.le_refl _)) (by omega)).mono ?_; rintro e w' ⟨rfl, k, rfl⟩))
    go_ret2
    exact ⟨by rw [H0.out]; rfl, below_drewN hw _⟩
  · rw [if_neg h0]
    clear ha hb h0
    go_enter Try.func17, Try.ntmps17
    go_wp2_with (go_at_call 33; refine (two_calls _ _ _ _ _ _ _).mono ?_; rintro e w' ⟨rfl, hw⟩)
    go_ret2
    exact ⟨rfl, hw⟩

def sumG (xs ys : List Int) (i : Nat) : Int := addI (xs.getD i 0) (ys.getD i 0)
def sumL (xs ys : List Int) (la lb : Nat) : List Int := if twoI la lb = 0 then (List.range la).map (sumG xs ys) else []

set_option maxHeartbeats 1600000 in
theorem vSum_calls (a b : Option Addr) (la ca lb cb : Nat) (xs ys : List Int) (w : World) (ha : Lst w a la ca xs) (hb : Lst w b lb cb ys) :
    Calls Try.prog 18 #[.slice a la ca, .slice b lb cb] w fun e w' => ∃ a' n, e = .returned (.tuple #[.slice a' n n, .int .i64 (twoI la lb)]) ∧ n ≤ 200 ∧ Lst w' a' n n (sumL xs ys la lb) ∧ Below w.heap.size w w' := by
  unfold sumL
  rcases twoI_cases la lb with ⟨h0, rfl, hl⟩ | ⟨h0, h1⟩
  · rw [if_pos h0]
    have H0 : Hid (twoI la la = 0) := h0
    clear h0
    have hmk := run_make_row' (P := Try.prog) 28 3 (.int .i64 0) 8 Try.underlying28 info3 rfl .i64 .i64 la (by omega) (by omega)
    go_enter Try.func18, Try.ntmps18
    go_wp2_with (go_at_call 33; refine (two_calls _ _ _ _ _ _ _).mono ?_; rintro e w1 ⟨rfl, hw⟩; rw [H0.out])
    go_loopw [20] (fun i wr => ∃ k : Nat, k ≤ la ∧ i = .int .i64 k ∧ wr.rowIs w1.heap.size 3 la (rowTo (sumG xs ys) k) ∧ Below w.heap.size w wr) (fun i _ => la - (intOf i).toNat)
    case atStart => exact ⟨0, Nat.zero_le _, rfl, rowTo_made (World.rowIs_made _ _ _ _), hw.alloc hw.size _⟩
    case round =>
      obtain ⟨k, hk, rfl, hrow, hbel⟩ := hrel
      have ha' := ha.below hbel (Nat.le_refl _)
      have hb' := hb.below hbel (Nat.le_refl _)
      have hsz := hw.size
      clear ha hb hw hmk
      by_cases hlt : k < la
      · obtain ⟨b1, o1, x, rfl, _, c1, HX⟩ := ha'.at1 hlt
        obtain ⟨b2, o2, y, rfl, _, c2, HY⟩ := hb'.at1 hlt
        have c3 := rowTo_cell hrow hlt
        have f3 := hrow.frozen k
        go_wp2
        go_region_with ((go_at_call 10; refine (add_calls _ _ _).mono ?_; rintro e w' ⟨rfl, rfl⟩))
        all_goals go_wp2
        all_goals
          go_roundw
          case rel =>
            have st := rowTo_step (g := sumG xs ys) hrow
            simp only [sumG, HX.out, HY.out] at st
            exact ⟨k + 1, by omega, by go_num, st, (hbel.setCell (by omega) _).drew⟩
          case measure => simp [intOf]; omega
      · go_wp2
        go_ret2
        obtain rfl : k = la := by omega
        exact ⟨_, _, by rw [H0.out]; rfl, hl, rowTo_lst hrow, hbel⟩
  · rw [if_neg h0]
    clear ha hb h0
    go_enter Try.func18, Try.ntmps18
    go_wp2_with (go_at_call 33; refine (two_calls _ _ _ _ _ _ _).mono ?_; rintro e w' ⟨rfl, hw⟩)
    go_ret2
    exact ⟨_, _, rfl, Nat.zero_le _, Lst.nil _ _ _, hw⟩

def oneI (la : Nat) : Int := if 200 < la then 2 else 0
def timesG (xs : List Int) (n : Int) (i : Nat) : Int := mulI (xs.getD i 0) n
def timesL (xs : List Int) (n : Int) (la : Nat) : List Int := if 200 < la then [] else (List.range la).map (timesG xs n)

set_option maxHeartbeats 1600000 in
theorem vTimes_calls (a : Option Addr) (la ca : Nat) (xs : List Int) (m : Int) (w : World) (ha : Lst w a la ca xs) :
    Calls Try.prog 19 #[.slice a la ca, .int .i64 m] w fun e w' => ∃ a' n, e = .returned (.tuple #[.slice a' n n, .int .i64 (oneI la)]) ∧ n ≤ 200 ∧ Lst w' a' n n (timesL xs m la) ∧ Below w.heap.size w w' := by
  unfold timesL oneI
  have hal := (Below.refl w.heap.size w).alloc (Nat.le_refl _) (.cells #[.slice a la ca] 28)
  by_cases hl : 200 < la
  · rw [if_pos hl, if_pos hl]
    have hd : decide (200 < la) = true := decide_eq_true hl
    clear ha
    go_enter Try.func19, Try.ntmps19
    go_wp2_with (go_at_call 35; refine (long1 _ _ _ _ _ rfl).mono ?_; rintro e w' ⟨rfl, rfl⟩; rw [hd])
    go_ret2
    exact ⟨_, _, rfl, Nat.zero_le _, Lst.nil _ _ _, hal⟩
  · rw [if_neg hl, if_neg hl]
    have hd : decide (200 < la) = false := decide_eq_false hl
    have hmk := run_make_row' (P := Try.prog) 28 3 (.int .i64 0) 8 Try.underlying28 info3 rfl .i64 .i64 la (by omega) (by omega)
    go_enter Try.func19, Try.ntmps19
    go_wp2_with (go_at_call 35; refine (long1 _ _ _ _ _ rfl).mono ?_; rintro e w' ⟨rfl, rfl⟩; rw [hd])
    go_loopw [16] (fun i wr => ∃ k : Nat, k ≤ la ∧ i = .int .i64 k ∧ wr.rowIs (w.heap.size + 1) 3 la (rowTo (timesG xs m) k) ∧ Below w.heap.size w wr) (fun i _ => la - (intOf i).toNat)
    case atStart => exact ⟨0, Nat.zero_le _, rfl, rowTo_made (by have h := World.rowIs_made (w.alloc (.cells #[.slice a la ca] 28)) (.int .i64 0) la 3; simpa using h), hal.alloc hal.size _⟩
    case round =>
      obtain ⟨k, hk, rfl, hrow, hbel⟩ := hrel
      have ha' := ha.below hbel (Nat.le_refl _)
      clear ha hal hmk
      by_cases hlt : k < la
      · obtain ⟨b1, o1, x, rfl, _, c1, HX⟩ := ha'.at1 hlt
        have c3 := rowTo_cell hrow hlt
        have f3 := hrow.frozen k
        go_wp2_with (go_at_call 14; refine (mul_calls _ _ _).mono ?_; rintro e w' ⟨rfl, nd, rfl⟩)
        go_roundw
        case rel =>
          have st := rowTo_step (g := timesG xs m) hrow
          simp only [timesG, HX.out] at st
          exact ⟨k + 1, by omega, by go_num, rowIs_drewN st _, below_drewN (hbel.setCell (by simp) _) _⟩
        case measure => simp [intOf]; omega
      · go_wp2
        go_ret2
        obtain rfl : k = la := by omega
        exact ⟨_, _, rfl, by omega, rowTo_lst hrow, hbel⟩

end Go.Proofs.Ytknmnailimkliaa.Fx
