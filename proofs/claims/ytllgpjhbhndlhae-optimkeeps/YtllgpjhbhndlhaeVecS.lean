/- What vec.Sum and vec.Times return: whatever lists lie there. -/
import Derived.Test.YtllgpjhbhndlhaeVecB
namespace Go.Proofs.Ytllgpjhbhndlhae.Fx
open Go.RowKit

def sumG (xs ys : List Int) (i : Nat) : Int := addI (xs.getD i 0) (ys.getD i 0)
def sumL (xs ys : List Int) (la lb : Nat) : List Int := if twoI la lb = 0 then (List.range la).map (sumG xs ys) else []

def oneI (la : Nat) : Int := if 200 < la then 2 else 0
def timesG (xs : List Int) (n : Int) (i : Nat) : Int := mulI (xs.getD i 0) n
def timesL (xs : List Int) (n : Int) (la : Nat) : List Int := if 200 < la then [] else (List.range la).map (timesG xs n)

set_option maxHeartbeats 1600000 in
theorem vTimes_calls (a : Option Addr) (la ca : Nat) (xs : List Int) (m : Int) (w : World) (ha : Lst w a la ca xs) :
    Calls Try.prog 44 #[.slice a la ca, .int .i64 m] w fun e w' => ∃ a' n, e = .returned (.tuple #[.slice a' n n, .int .i64 (oneI la)]) ∧ n ≤ 200 ∧ Lst w' a' n n (timesL xs m la) ∧ Below w.heap.size w w' := by
  unfold timesL oneI
  have hal := (Below.refl w.heap.size w).alloc (Nat.le_refl _) (.cells #[.slice a la ca] 22)
  by_cases hl : 200 < la
  · rw [if_pos hl, if_pos hl]
    have hd : decide (200 < la) = true := decide_eq_true hl
    clear ha
    go_enter Try.func44, Try.ntmps44
    go_wp2_with (go_at_call 67; refine (long1 _ _ _ _ _ rfl).mono ?_; rintro e w' ⟨rfl, rfl⟩; rw [hd])
    go_ret2
    exact ⟨_, _, rfl, Nat.zero_le _, Lst.nil _ _ _, hal⟩
  · rw [if_neg hl, if_neg hl]
    have hd : decide (200 < la) = false := decide_eq_false hl
    have hmk := run_make_row' (P := Try.prog) 22 3 (.int .i64 0) 8 Try.underlying22 info3 rfl .i64 .i64 la (by omega) (by omega)
    go_enter Try.func44, Try.ntmps44
    go_wp2_with (go_at_call 67; refine (long1 _ _ _ _ _ rfl).mono ?_; rintro e w' ⟨rfl, rfl⟩; rw [hd])
    go_loopw [16] (fun i wr => ∃ k : Nat, k ≤ la ∧ i = .int .i64 k ∧ wr.rowIs (w.heap.size + 1) 3 la (rowTo (timesG xs m) k) ∧ Below w.heap.size w wr) (fun i _ => la - (intOf i).toNat)
    case atStart => exact ⟨0, Nat.zero_le _, rfl, rowTo_made (by have h := World.rowIs_made (w.alloc (.cells #[.slice a la ca] 22)) (.int .i64 0) la 3; simpa using h), hal.alloc hal.size _⟩
    case round =>
      obtain ⟨k, hk, rfl, hrow, hbel⟩ := hrel
      have ha' := ha.below hbel (Nat.le_refl _)
      clear ha hal hmk
      by_cases hlt : k < la
      · obtain ⟨b1, o1, x, rfl, _, c1, HX⟩ := ha'.at1 hlt
        have c3 := rowTo_cell hrow hlt
        have f3 := hrow.frozen k
        go_wp2_with (go_at_call 46; refine (mul_calls _ _ _).mono ?_; rintro e w' ⟨rfl, nd, rfl⟩)
        go_roundw
        case rel =>
          have st := rowTo_step (g := timesG xs m) hrow
          simp only [timesG, HX.out] at st
          exact ⟨k + 1, by omega, by go_num, rowIs_drewN st _, below_drewN (hbel.setCell (by simp) _) _⟩
        case measure => simp [intOf]; omega
      · go_wp2
        go_ret2
        obtain rfl : k = la := by omega
        exact ⟨_, _, rfl, by omega, rowTo_lst hrow, hbel⟩

end Go.Proofs.Ytllgpjhbhndlhae.Fx
