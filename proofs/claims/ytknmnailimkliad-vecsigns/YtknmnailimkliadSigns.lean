/- Signs come out: what becomes of products of lists, and of matrices with lists, when a list's signs are turned; no program is spoken of. -/
import Derived.Test.YtknmnailimkliadMats
namespace Go.Proofs.Ytknmnailimkliad.Fx
open Go.RowKit

/-- Each number of a list, clamped, with the other sign. -/
def negL (xs : List Int) : List Int := xs.map fun n => -clampI n

theorem negL_len (xs : List Int) : (negL xs).length = xs.length := by simp [negL]
theorem negL_get (xs : List Int) (k : Nat) : (negL xs).getD k 0 = -clampI (xs.getD k 0) := by
  unfold negL
  rcases Nat.lt_or_ge k xs.length with h | h
  · simp [h]
  · simp [List.getElem?_eq_none h]; rfl
theorem mulI_clampL (a b : Int) : mulI (clampI a) b = mulI a b := by unfold mulI; rw [clampI_idem]
theorem addI_neg (a b : Int) : addI (-a) (-b) = -addI a b := by
  unfold addI
  rw [clampI_neg a, clampI_neg b, show -clampI a + -clampI b = -(clampI a + clampI b) from by omega, clampI_neg]
theorem dotTo_comm (xs ys : List Int) (n : Nat) : dotTo xs ys n = dotTo ys xs n := by
  induction n with
  | zero => rfl
  | succ n ih => rw [dotTo, dotTo, ih, mulI_comm]
theorem dotTo_negL (xs ys : List Int) (n : Nat) : dotTo (negL xs) ys n = -dotTo xs ys n := by
  induction n with
  | zero => rfl
  | succ n ih => rw [dotTo, dotTo, ih, negL_get, mulI_neg, mulI_clampL, addI_neg]
theorem dotTo_negR (xs ys : List Int) (n : Nat) : dotTo xs (negL ys) n = -dotTo xs ys n := by
  rw [dotTo_comm, dotTo_negL, dotTo_comm]
theorem dotTo_bd (xs ys : List Int) (n : Nat) : -2147483647 ≤ dotTo xs ys n ∧ dotTo xs ys n ≤ 2147483647 := by
  cases n with
  | zero => exact ⟨show (-2147483647 : Int) ≤ 0 by omega, show (0 : Int) ≤ 2147483647 by omega⟩
  | succ n => exact addI_bd _ _
theorem negL_range (g h : Nat → Int) (n : Nat) (e : ∀ i, h i = -clampI (g i)) : negL ((List.range n).map g) = (List.range n).map h := by
  unfold negL; rw [List.map_map]; congr 1; funext i; exact (e i).symm
theorem negL_mul (r c : Int) (len : Nat) (xs : List Int) (lv : Nat) (ys : List Int) : negL (mulL r c len xs lv ys) = mulL r c len xs lv (negL ys) := by
  unfold mulL
  by_cases h : bothI r c len xs lv c = 0
  · rw [if_pos h, if_pos h]
    refine negL_range _ _ _ (fun i => ?_)
    unfold mulG
    rw [dotTo_negR, clampI_in (dotTo_bd _ _ _).1 (dotTo_bd _ _ _).2]
  · rw [if_neg h, if_neg h]; rfl
theorem negL_back (r c : Int) (len : Nat) (xs : List Int) (lv : Nat) (ys : List Int) : negL (backL r c len xs lv ys) = backL r c len xs lv (negL ys) := by
  unfold backL
  by_cases h : bothI r c len xs lv r = 0
  · rw [if_pos h, if_pos h]
    refine negL_range _ _ _ (fun i => ?_)
    unfold backG
    rw [dotTo_negR, clampI_in (dotTo_bd _ _ _).1 (dotTo_bd _ _ _).2]
  · rw [if_neg h, if_neg h]; rfl
theorem dot_small : dotTo [65536, 131072] [3, 4] 2 = 11 := by decide
end Go.Proofs.Ytknmnailimkliad.Fx
