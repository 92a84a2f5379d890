/- Losses are never below nothing; where what comes out is as it should be there is none, and nothing to learn; no function of the program is spoken of. -/
import Derived.Test.YtmoeogecafjcmadPupH
namespace Go.Proofs.Ytmoeogecafjcmad.Fx
open Go.RowKit

theorem rnd_zero : rnd 0 65536 = 0 := by decide
theorem clampI_nonneg {n : Int} (h : 0 ≤ n) : 0 ≤ clampI n := by unfold clampI; (repeat' split) <;> omega
theorem subI_self (a : Int) : subI a a = 0 := by unfold subI; rw [Int.sub_self]; rfl
theorem mulI_zeroL (b : Int) : mulI 0 b = 0 := by
  unfold mulI
  rw [show clampI 0 = 0 from rfl, Int.zero_mul, rnd_zero]; rfl
theorem mulI_zeroR (b : Int) : mulI b 0 = 0 := by rw [mulI_comm]; exact mulI_zeroL b
theorem mulI_sq (a : Int) : 0 ≤ mulI a a := by
  unfold mulI
  refine clampI_nonneg ?_
  have h : (0 : Int) ≤ clampI a * clampI a := by
    rcases Int.le_total 0 (clampI a) with h | h
    · exact Int.mul_nonneg h h
    · exact Int.mul_nonneg_of_nonpos_of_nonpos h h
  have := rnd_mono (a := 0) (b := clampI a * clampI a) (d := 65536) (by omega) h
  rw [rnd_zero] at this
  exact this
theorem addI_nonneg {a b : Int} (ha : 0 ≤ a) (hb : 0 ≤ b) : 0 ≤ addI a b := by
  unfold addI
  have h1 := clampI_nonneg ha
  have h2 := clampI_nonneg hb
  exact clampI_nonneg (by omega)
theorem dotTo_sq (xs : List Int) (n : Nat) : 0 ≤ dotTo xs xs n := by
  induction n with
  | zero => exact Int.le_refl 0
  | succ n ih => exact addI_nonneg ih (mulI_sq _)
theorem lossI_nonneg (d : PD) (xs ys : List Int) (I H O : Nat) : 0 ≤ lossI d xs ys I H O := dotTo_sq _ _

def zeroL (l : List Int) : Prop := ∀ j, l.getD j 0 = 0
theorem zeroL_map (g : Nat → Int) (n : Nat) (h : ∀ i, i < n → g i = 0) : zeroL ((List.range n).map g) := by
  intro j
  rcases Nat.lt_or_ge j n with hj | hj
  · rw [map_range_get _ _ _ hj, h j hj]
  · rw [List.getD_eq_getElem?_getD, List.getElem?_eq_none (by simpa using hj)]; rfl
theorem zeroL_append {xs ys : List Int} (h1 : zeroL xs) (h2 : zeroL ys) : zeroL (xs ++ ys) := by
  intro j
  rcases Nat.lt_or_ge j xs.length with hj | hj
  · have := h1 j
    rw [List.getD_eq_getElem?_getD] at this ⊢
    rw [List.getElem?_append_left hj]; exact this
  · have := h2 (j - xs.length)
    rw [List.getD_eq_getElem?_getD] at this ⊢
    rw [List.getElem?_append_right hj]; exact this
theorem zeroL_right {l : List Int} (h : zeroL l) : rightB l = true := rightB_true (fun j _ => by rw [h j]; rfl)
theorem dotTo_zeroL {xs : List Int} (h : zeroL xs) (ys : List Int) (n : Nat) : dotTo xs ys n = 0 := by
  induction n with
  | zero => rfl
  | succ n ih => rw [dotTo, ih, h n, mulI_zeroL]; rfl
theorem dotTo_zeroR {ys : List Int} (h : zeroL ys) (xs : List Int) (n : Nat) : dotTo xs ys n = 0 := by
  induction n with
  | zero => rfl
  | succ n ih => rw [dotTo, ih, h n, mulI_zeroR]; rfl

theorem difL_still (d : PD) (xs : List Int) (I H O : Nat) : zeroL (difL d xs (outYL d xs I H O) I H O) := zeroL_map _ _ (fun _ _ => subI_self _)
theorem lossI_still (d : PD) (xs : List Int) (I H O : Nat) : lossI d xs (outYL d xs I H O) I H O = 0 := dotTo_zeroL (difL_still d xs I H O) _ _
theorem graL_still (d : PD) (xs : List Int) (I H O : Nat) : zeroL (graL d xs (outYL d xs I H O) I H O) := by
  refine zeroL_map _ _ (fun i _ => ?_)
  unfold graG
  by_cases h : (hidL d xs I H).getD i 0 = 0
  · rw [if_pos h]
  · rw [if_neg h]; exact dotTo_zeroR (difL_still d xs I H O) _ _
theorem graD_still (d : PD) (xs : List Int) (I H O : Nat) : zeroL (flatD (graD d xs (outYL d xs I H O) I H O)) ∧ RightD (graD d xs (outYL d xs I H O) I H O) := by
  have h1 : zeroL (graD d xs (outYL d xs I H O) I H O).X1 := zeroL_map _ _ (fun i _ => by unfold outerG; rw [graL_still, mulI_zeroL])
  have h2 : zeroL (graD d xs (outYL d xs I H O) I H O).X2 := zeroL_map _ _ (fun i _ => by unfold outerG; rw [difL_still, mulI_zeroL])
  have h3 : zeroL (graD d xs (outYL d xs I H O) I H O).B1 := graL_still d xs I H O
  have h4 : zeroL (graD d xs (outYL d xs I H O) I H O).B2 := difL_still d xs I H O
  exact ⟨zeroL_append h1 (zeroL_append h3 (zeroL_append h2 h4)), zeroL_right h1, zeroL_right h2, zeroL_right h3, zeroL_right h4⟩
theorem hidL_nonneg (d : PD) (xs : List Int) (I H j : Nat) (h : j < H) : 0 ≤ (hidL d xs I H).getD j 0 := by
  unfold hidL
  rw [map_range_get _ _ _ h]
  show 0 ≤ pos0 _
  unfold pos0
  split <;> omega
theorem one_loss : lossI ⟨[65536], [65536], [0], [0]⟩ [65536] [196608] 1 1 1 = 262144 := by decide +kernel
theorem one_grad : (graD ⟨[65536], [65536], [0], [0]⟩ [65536] [196608] 1 1 1).B1 = [-131072] ∧ (graD ⟨[65536], [65536], [0], [0]⟩ [65536] [196608] 1 1 1).B2 = [-131072] := by decide +kernel
end Go.Proofs.Ytmoeogecafjcmad.Fx
