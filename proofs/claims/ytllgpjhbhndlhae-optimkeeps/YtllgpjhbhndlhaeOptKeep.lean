/- What OptimKeeps asks, in plain numbers: rates are not above the config's, what is clipped keeps signs and order and turns with signs, a step with rate 0 leaves weights. -/
import Derived.Test.YtllgpjhbhndlhaeOpts
namespace Go.Proofs.Ytllgpjhbhndlhae.Fx
open Go.RowKit

theorem mulI_zero (b : Int) : mulI 0 b = 0 := by
  unfold mulI
  rw [show clampI 0 = 0 from by decide, Int.zero_mul]
  decide
theorem mulI_nonneg {a b : Int} (ha : 0 ≤ a) (hb : 0 ≤ b) : 0 ≤ mulI a b := by
  have := mulI_mono hb ha
  rw [mulI_zero] at this
  exact this
theorem mulI_nonpos {a b : Int} (ha : a ≤ 0) (hb : 0 ≤ b) : mulI a b ≤ 0 := by
  have := mulI_mono hb ha
  rw [mulI_zero] at this
  exact this
theorem divI_part {a b : Int} (ha : 0 ≤ a) (hb : 0 < b) (hm : b ≤ 2147483647) (hab : a ≤ b) : 0 ≤ divI a b ∧ divI a b ≤ 65536 := by
  unfold divI quoI
  rw [clampI_in (n := a) (by omega) (by omega), clampI_in (n := b) (by omega) (by omega), if_neg (by omega)]
  have h0 := rnd_mono (a := 0 * b) (b := a * 65536) hb (by omega)
  have h1 := rnd_mono (a := a * 65536) (b := 65536 * b) hb (by omega)
  rw [rnd_whole _ _ hb] at h0 h1
  have c0 := clampI_mono h0
  have c1 := clampI_mono h1
  rw [show clampI 0 = 0 from by decide] at c0
  rw [show clampI 65536 = 65536 from by decide] at c1
  exact ⟨c0, c1⟩
theorem rateV_bd {c : Cfg} {step : Int} (h : cfgB c = true) (hs : inB step 0 (c.steps - 1) = true) : 0 ≤ rateV c step ∧ rateV c step ≤ c.rate := by
  obtain ⟨_, _, _, _, ⟨s1, s2⟩, ⟨r1, r2⟩, _⟩ := cfgB_is h
  have s := in_is hs
  unfold rateV
  split
  · have d := divI_part (a := c.steps - step) (b := c.steps) (by omega) (by omega) (by omega) (by omega)
    refine ⟨mulI_nonneg r1 d.1, ?_⟩
    have m := mulI_mono (c := c.rate) r1 d.2
    rw [mulI_comm 65536, mulI_one _ (by omega) r2, mulI_comm] at m
    exact m
  · omega

/-- The factor that Clip takes. -/
theorem part_nonneg {xs : List Int} {la : Nat} {most : Int} (h0 : 0 ≤ most) (hm : most < topL xs la) : 0 ≤ divI most (topL xs la) := by
  have := topL_bd xs la
  exact (divI_part h0 (by omega) (by omega) (by omega)).1
theorem clipG_mono {xs : List Int} {most : Int} {la i j : Nat} (h0 : 0 ≤ most) (h : clampI (xs.getD i 0) ≤ clampI (xs.getD j 0)) : clipG xs most la i ≤ clipG xs most la j := by
  unfold clipG
  by_cases c : most ≠ 0 ∧ most < topL xs la
  · rw [if_pos c, if_pos c]
    have := mulI_mono (part_nonneg h0 c.2) h
    rw [mulI_clamp, mulI_clamp] at this
    exact this
  · rw [if_neg c, if_neg c]; exact h
theorem clipG_pos {xs : List Int} {most : Int} {la i : Nat} (h0 : 0 ≤ most) (h : 0 ≤ clampI (xs.getD i 0)) : 0 ≤ clipG xs most la i := by
  unfold clipG
  by_cases c : most ≠ 0 ∧ most < topL xs la
  · rw [if_pos c]
    have := mulI_nonneg h (part_nonneg h0 c.2)
    rw [mulI_clamp] at this
    exact this
  · rw [if_neg c]; exact h
theorem clipG_neg {xs : List Int} {most : Int} {la i : Nat} (h0 : 0 ≤ most) (h : clampI (xs.getD i 0) ≤ 0) : clipG xs most la i ≤ 0 := by
  unfold clipG
  by_cases c : most ≠ 0 ∧ most < topL xs la
  · rw [if_pos c]
    have := mulI_nonpos h (part_nonneg h0 c.2)
    rw [mulI_clamp] at this
    exact this
  · rw [if_neg c]; exact h
theorem clipG_bd (xs : List Int) (most : Int) (la i : Nat) : -2147483647 ≤ clipG xs most la i ∧ clipG xs most la i ≤ 2147483647 := by
  unfold clipG
  split
  · exact mulI_bd _ _
  · exact clampI_bd _
def minusG (xs : List Int) (i : Nat) : Int := -clampI (xs.getD i 0)
def minusL (xs : List Int) (la : Nat) : List Int := (List.range la).map (minusG xs)
theorem minusL_get {xs : List Int} {la i : Nat} (hi : i < la) : (minusL xs la).getD i 0 = -clampI (xs.getD i 0) := by
  unfold minusL minusG
  simp [hi]
theorem minus_top (xs : List Int) (la : Nat) : topL (minusL xs la) la = topL xs la :=
  topTo_neg fun i hi => by
    unfold clampG
    rw [minusL_get hi, clampI_neg, clampI_idem]
theorem minus_clip {xs : List Int} {most : Int} {la i : Nat} (hi : i < la) : clipG (minusL xs la) most la i = -clipG xs most la i := by
  unfold clipG
  rw [minus_top, minusL_get hi]
  by_cases c : most ≠ 0 ∧ most < topL xs la
  · rw [if_pos c, if_pos c, mulI_neg, mulI_clamp]
  · rw [if_neg c, if_neg c, clampI_neg, clampI_idem]

theorem gone_still {c : Cfg} {ws ms gs : List Int} (h : rightB ws = true) (i : Nat) : goneG c ws ms gs 0 i = ws.getD i 0 := by
  unfold goneG subI
  rw [mulI_zero, show clampI 0 = 0 from by decide, Int.sub_zero, clampI_idem]
  exact (rightB_get h i).symm
theorem stepW_still {c : Cfg} {ws ms gs : List Int} {nw nm ng : Nat} (hl : ws.length = nw) (hc : cfgB c = true) (h : stepF c ws ms nw nm ng = true) : (List.range ng).map (goneG c ws ms gs 0) = ws := by
  simp only [stepF, Bool.and_eq_true, decide_eq_true_eq] at h
  obtain ⟨⟨h1, _⟩, rfl⟩ := h
  have f := fit_len hc h1
  refine List.ext_getElem (by simp [hl]) (fun i a b => ?_)
  simp only [List.getElem_map, List.getElem_range]
  rw [gone_still f.2.2.2, List.getD_eq_getElem?_getD, List.getElem?_eq_getElem b]
  rfl
end Go.Proofs.Ytllgpjhbhndlhae.Fx
