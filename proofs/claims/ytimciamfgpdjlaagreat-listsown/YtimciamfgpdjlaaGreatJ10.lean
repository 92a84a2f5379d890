/- What OptimKeeps asks, in plain numbers: rates are not above the config's, what is clipped keeps signs and order and turns with signs, a step with rate 0 leaves weights. -/
import Derived.Test.YtimciamfgpdjlaaGreatJ04
import Derived.Test.YtimciamfgpdjlaaGreatJ09
import Derived.Test.YtimciamfgpdjlaaGreatJ02
namespace Go.Proofs.YtimciamfgpdjlaaGreat.Fx
open Go.RowKit

theorem mulI_zero (b : Int) : mulI 0 b = 0 := by
  unfold mulI
  rw [show clampI 0 = 0 from by decide, Int.zero_mul]
  decide
theorem mulI_nonneg {a b : Int} (ha : 0 ≤ a) (hb : 0 ≤ b) : 0 ≤ mulI a b := by
  have := mulI_mono hb ha
  rw [mulI_zero] at this
  exact this
theorem mulI_nonpos {a b : Int} (ha : a ≤ 0) (hb : 0 ≤ b) : mulI a b ≤ 0 := by
  have := mulI_mono hb ha
  rw [mulI_zero] at this
  exact this
theorem divI_part {a b : Int} (ha : 0 ≤ a) (hb : 0 < b) (hm : b ≤ 2147483647) (hab : a ≤ b) : 0 ≤ divI a b ∧ divI a b ≤ 65536 := by
  unfold divI quoI
  rw [clampI_in (n := a) (by omega) (by omega), clampI_in (n := b) (by omega) (by omega), if_neg (by omega)]
  have h0 := rnd_mono (a := 0 * b) (b := a * 65536) hb (by omega)
  have h1 := rnd_mono (a := a * 65536) (b := 65536 * b) hb (by omega)
  rw [rnd_whole _ _ hb] at h0 h1
  have c0 := clampI_mono h0
  have c1 := clampI_mono h1
  rw [show clampI 0 = 0 from by decide] at c0
  rw [show clampI 65536 = 65536 from by decide] at c1
  exact ⟨c0, c1⟩
theorem rateV_bd {c : Cfg} {step : Int} (h : cfgB c = true) (hs : inB step 0 (c.steps - 1) = true) : 0 ≤ rateV c step ∧ rateV c step ≤ c.rate := by
  obtain ⟨_, _, _, _, ⟨s1, s2⟩, ⟨r1, r2⟩, _⟩ := cfgB_is h
  have s := in_is hs
  unfold rateV
  split
  · have d := divI_part (a := c.steps - step) (b := c.steps) (by omega) (by omega) (by omega) (by omega)
    refine ⟨mulI_nonneg r1 d.1, ?_⟩
    have m := mulI_mono (c := c.rate) r1 d.2
    rw [mulI_comm 65536, mulI_one _ (by omega) r2, mulI_comm] at m
    exact m
  · omega

/-- The factor that Clip takes. -/
theorem part_nonneg {xs : List Int} {la : Nat} {most : Int} (h0 : 0 ≤ most) (hm : most < topL xs la) : 0 ≤ divI most (topL xs la) := by
  have := topL_bd xs la
  exact (divI_part h0 (by omega) (by omega) (by omega)).1
theorem clipG_mono {xs : List Int} {most : Int} {la i j : Nat} (h0 : 0 ≤ most) (h : clampI (xs.getD i 0) ≤ clampI (xs.getD j 0)) : clipG xs most la i ≤ clipG xs most la j := by
  unfold clipG
  by_cases c : most ≠ 0 ∧ most < topL xs la
  · rw [if_pos c, if_pos c]
    have := mulI_mono (part_nonneg h0 c.2) h
    rw [mulI_clamp, mulI_clamp] at this
    exact this
  · rw [if_neg c, if_neg c]; exact h
theorem clipG_pos {xs : List Int} {most : Int} {la i : Nat} (h0 : 0 ≤ most) (h : 0 ≤ clampI (xs.getD i 0)) : 0 ≤ clipG xs most la i := by
  unfold clipG
  by_cases c : most ≠ 0 ∧ most < topL xs la
  · rw [if_pos c]
    have := mulI_nonneg h (part_nonneg h0 c.2)
    rw [mulI_clamp] at this
    exact this
  · rw [if_neg c]; exact h
theorem clipG_neg {xs : List Int} {most : Int} {la i : Nat} (h0 : 0 ≤ most) (h : clampI (xs.getD i 0) ≤ 0) : clipG xs most la i ≤ 0 := by
  unfold clipG
  by_cases c : most ≠ 0 ∧ most < topL xs la
  · rw [if_pos c]
    have := mulI_nonpos h (part_nonneg h0 c.2)
    rw [mulI_clamp] at this
    exact this
  · rw [if_neg c]; exact h
theorem clipG_bd (xs : List Int) (most : Int) (la i : Nat) : -2147483647 ≤ clipG xs most la i ∧ clipG xs most la i ≤ 2147483647 := by
  unfold clipG
  split
  · exact mulI_bd _ _
  · exact clampI_bd _
def minusG (xs : List Int) (i : Nat) : Int := -clampI (xs.getD i 0)
def minusL (xs : List Int) (la : Nat) : List Int := (List.range la).map (minusG xs)
theorem minusL_get {xs : List Int} {la i : Nat} (hi : i < la) : (minusL xs la).getD i 0 = -clampI (xs.getD i 0) := by
  unfold minusL minusG
  simp [hi]
theorem minus_top (xs : List Int) (la : Nat) : topL (minusL xs la) la = topL xs la :=
  topTo_neg fun i hi => by
    unfold clampG
    rw [minusL_get hi, clampI_neg, clampI_idem]
theorem minus_clip {xs : List Int} {most : Int} {la i : Nat} (hi : i < la) : clipG (minusL xs la) most la i = -clipG xs most la i := by
  unfold clipG
  rw [minus_top, minusL_get hi]
  by_cases c : most ≠ 0 ∧ most < topL xs la
  · rw [if_pos c, if_pos c, mulI_neg, mulI_clamp]
  · rw [if_neg c, if_neg c, clampI_neg, clampI_idem]

theorem gone_still {c : Cfg} {ws ms gs : List Int} (h : rightB ws = true) (i : Nat) : goneG c ws ms gs 0 i = ws.getD i 0 := by
  unfold goneG subI
  rw [mulI_zero, show clampI 0 = 0 from by decide, Int.sub_zero, clampI_idem]
  exact (rightB_get h i).symm
theorem stepW_still {c : Cfg} {ws ms gs : List Int} {nw nm ng : Nat} (hl : ws.length = nw) (hc : cfgB c = true) (h : stepF c ws ms nw nm ng = true) : (List.range ng).map (goneG c ws ms gs 0) = ws := by
  simp only [stepF, Bool.and_eq_true, decide_eq_true_eq] at h
  obtain ⟨⟨h1, _⟩, rfl⟩ := h
  have f := fit_len hc h1
  refine List.ext_getElem (by simp [hl]) (fun i a b => ?_)
  simp only [List.getElem_map, List.getElem_range]
  rw [gone_still f.2.2.2, List.getD_eq_getElem?_getD, List.getElem?_eq_getElem b]
  rfl
end Go.Proofs.YtimciamfgpdjlaaGreat.Fx

/- A course's states in plain numbers, one after another, and that their numbers are such as may be; no function of the program is spoken of. -/
namespace Go.Proofs.YtimciamfgpdjlaaGreat.Fx
open Go.RowKit

theorem right_map {g : Nat → Int} {n : Nat} (h : ∀ i, i < n → clampI (g i) = g i) : rightB ((List.range n).map g) = true := by
  refine rightB_true (fun j hj => ?_)
  have hj' : j < n := by simpa using hj
  rw [getD_range g hj', h j hj']
theorem dotTo_in (xs ys : List Int) (n : Nat) : clampI (dotTo xs ys n) = dotTo xs ys n := by
  cases n with
  | zero => rfl
  | succ k => exact clampI_idem _
theorem difL_right (d : PD) (xs ys : List Int) (I H O : Nat) : rightB (difL d xs ys I H O) = true := right_map fun _ _ => clampI_idem _
theorem graL_right (d : PD) (xs ys : List Int) (I H O : Nat) : rightB (graL d xs ys I H O) = true := by
  refine right_map fun i _ => ?_
  unfold graG
  by_cases h : (hidL d xs I H).getD i 0 = 0
  · rw [if_pos h]; rfl
  · rw [if_neg h]; exact dotTo_in _ _ _
theorem graD_right (d : PD) (xs ys : List Int) (I H O : Nat) : RightD (graD d xs ys I H O) :=
  ⟨right_map fun _ _ => clampI_idem _, right_map fun _ _ => clampI_idem _, graL_right d xs ys I H O, difL_right d xs ys I H O⟩
theorem rightB_app {xs ys : List Int} (h : rightB (xs ++ ys) = true) : rightB xs = true ∧ rightB ys = true := by
  unfold rightB at h ⊢
  rw [List.all_append, Bool.and_eq_true] at h
  exact h
theorem cutD_right {I H O : Nat} {xs : List Int} (hl : xs.length = H * I + H + O * H + O) (h : rightB xs = true) : RightD (cutD I H O xs) := by
  rw [← cutD_flat hl] at h
  unfold flatD at h
  have h1 := rightB_app h
  have h2 := rightB_app h1.2
  have h3 := rightB_app h2.2
  exact ⟨h1.1, h3.1, h2.1, h3.2⟩
theorem graD_len (d : PD) (xs ys : List Int) (I H O : Nat) : (flatD (graD d xs ys I H O)).length = H * I + H + O * H + O := by
  unfold flatD graD graL difL
  simp
  omega

/-- What Next makes of a state. -/
def nextW (c : Cfg) (n : Nat) (ws ms : List Int) (DI DO : Nat → List Int) (step : Int) (N : Nat) : List Int := (List.range N).map (goneG c ws ms (pushL c n ws DI DO step N) (rateV c step))
def nextM (c : Cfg) (n : Nat) (ws ms : List Int) (DI DO : Nat → List Int) (step : Int) (N : Nat) : List Int := (List.range N).map (keptG c ms (pushL c n ws DI DO step N))
/-- The states of a course: weights and moves. -/
def stateP (c : Cfg) (n : Nat) (DI DO : Nat → List Int) (N : Nat) : Nat → List Int × List Int
  | 0 => ((List.range N).map (startG c.seed), (List.range N).map zeroG)
  | k + 1 => (nextW c n (stateP c n DI DO N k).1 (stateP c n DI DO N k).2 DI DO (k : Int) N, nextM c n (stateP c n DI DO N k).1 (stateP c n DI DO N k).2 DI DO (k : Int) N)
theorem nextW_right (c : Cfg) (n : Nat) (ws ms : List Int) (DI DO : Nat → List Int) (step : Int) (N : Nat) : rightB (nextW c n ws ms DI DO step N) = true := right_map fun _ _ => clampI_idem _
theorem nextM_right {c : Cfg} {n : Nat} {ws ms : List Int} {DI DO : Nat → List Int} {step : Int} {N : Nat} (h : rightB ms = true) : rightB (nextM c n ws ms DI DO step N) = true := by
  refine right_map fun i _ => ?_
  unfold keptG
  by_cases e : c.how = 1
  · rw [if_pos e]; unfold moveG; rw [if_pos e]; exact clampI_idem _
  · rw [if_neg e]; exact (rightB_get h i).symm
theorem start_right (seed : Int) (N : Nat) : rightB ((List.range N).map (startG seed)) = true := by
  refine right_map fun i _ => ?_
  have := startG_bd seed i
  exact clampI_in (by omega) (by omega)
theorem zero_right (N : Nat) : rightB ((List.range N).map zeroG) = true := right_map fun _ _ => rfl
theorem stateP_right (c : Cfg) (n : Nat) (DI DO : Nat → List Int) (N k : Nat) : rightB (stateP c n DI DO N k).1 = true ∧ rightB (stateP c n DI DO N k).2 = true := by
  induction k with
  | zero => exact ⟨start_right _ _, zero_right _⟩
  | succ k ih => exact ⟨nextW_right _ _ _ _ _ _ _ _, nextM_right ih.2⟩
theorem stateP_len (c : Cfg) (n : Nat) (DI DO : Nat → List Int) (N k : Nat) : (stateP c n DI DO N k).1.length = N ∧ (stateP c n DI DO N k).2.length = N := by
  cases k with
  | zero => exact ⟨by simp [stateP], by simp [stateP]⟩
  | succ k => exact ⟨by simp [stateP, nextW], by simp [stateP, nextM]⟩
theorem rateV_in {c : Cfg} (h : cfgB c = true) (step : Int) (h0 : 0 ≤ step) (h1 : step ≤ c.steps - 1) : inB (rateV c step) 0 2147483647 = true := by
  have b := rateV_bd h (in_yes ⟨h0, h1⟩)
  obtain ⟨_, _, _, _, _, ⟨r1, r2⟩, _⟩ := cfgB_is h
  exact in_yes ⟨b.1, by omega⟩
theorem push_len (c : Cfg) (hc : cfgB c = true) (n : Nat) (ws : List Int) (DI DO : Nat → List Int) (step : Int) (N : Nat) (hN : N ≤ 200) : pushL c n ws DI DO step N = (List.range N).map (clipG ((List.range N).map (meanG (gradG c n ws DI DO step) c.batch)) c.clip N) ∧ (pushL c n ws DI DO step N).length = N := by
  obtain ⟨_, _, _, _, _, _, _, _, _, q1, q2⟩ := cfgB_is hc
  have hE : clipE N c.clip = 0 := by
    unfold clipE
    rw [if_neg (by omega), if_pos (by unfold inB; simp [q1, q2])]
  unfold pushL clipL
  rw [if_pos hE]
  exact ⟨rfl, by simp⟩

theorem batch_in (seed : Int) (B n s : Nat) (h1 : 1 ≤ n) {k : Nat} (hk : k < B) : ∃ j : Nat, j < n ∧ (batchP seed B n s).getD k 0 = (j : Int) := by
  have e : (batchP seed B n s).getD k 0 = shufF seed ((s + k) / n) n ((s + k) % n) := by
    unfold batchP
    rw [getD_range _ hk]
    rfl
  have hm : shufF seed ((s + k) / n) n ((s + k) % n) ∈ (List.range n).map (shufF seed ((s + k) / n) n) := List.mem_map.2 ⟨_, List.mem_range.2 (Nat.mod_lt _ (by omega)), rfl⟩
  have hp := (shufP_perm seed ((s + k) / n) n h1).mem_iff.1 hm
  obtain ⟨j, hj, hj2⟩ := List.mem_map.1 hp
  exact ⟨j, List.mem_range.1 hj, by rw [e, ← hj2]; rfl⟩

def fn5 (v0 v1 v2 v3 v4 : Value) (i : Nat) : Value := if i = 0 then v0 else if i = 1 then v1 else if i = 2 then v2 else if i = 3 then v3 else v4
theorem lt5 {i : Nat} (h : i < 5) : i = 0 ∨ i = 1 ∨ i = 2 ∨ i = 3 ∨ i = 4 := by omega
theorem fn5_alloc (w : World) (v0 v1 v2 v3 v4 : Value) (t : TypeId) : (w.alloc (.cells #[v0, v1, v2, v3, v4] t)).rowIs w.heap.size t 5 (fn5 v0 v1 v2 v3 v4) :=
  World.rowIs_alloc w #[v0, v1, v2, v3, v4] t (fn5 v0 v1 v2 v3 v4) (by
    intro i hi
    rcases lt5 hi with rfl | rfl | rfl | rfl | rfl <;> rfl)
structure Box5 (w : World) (b : Nat) (v0 v1 v2 v3 v4 : Value) : Prop where
  c0 : w.cell? ⟨b, 0, none⟩ = some v0
  c1 : w.cell? ⟨b, 1, none⟩ = some v1
  c2 : w.cell? ⟨b, 2, none⟩ = some v2
  c3 : w.cell? ⟨b, 3, none⟩ = some v3
  c4 : w.cell? ⟨b, 4, none⟩ = some v4
theorem fn5_box {w : World} {b t : Nat} {v0 v1 v2 v3 v4 : Value} (h : w.rowIs b t 5 (fn5 v0 v1 v2 v3 v4)) : Box5 w b v0 v1 v2 v3 v4 :=
  ⟨h.cell (i := 0) (by omega), h.cell (i := 1) (by omega), h.cell (i := 2) (by omega), h.cell (i := 3) (by omega), h.cell (i := 4) (by omega)⟩
theorem fn5_set {w : World} {b t : Nat} {f : Nat → Value} (h : w.rowIs b t 5 f) (v0 v1 v2 v3 v4 : Value) :
    (((((w.setCell ⟨b, 0, none⟩ v0).setCell ⟨b, 1, none⟩ v1).setCell ⟨b, 2, none⟩ v2).setCell ⟨b, 3, none⟩ v3).setCell ⟨b, 4, none⟩ v4).rowIs b t 5 (fn5 v0 v1 v2 v3 v4) := by
  refine (((((h.set 0 v0).set 1 v1).set 2 v2).set 3 v3).set 4 v4).congr (fun i hi => ?_)
  rcases lt5 hi with rfl | rfl | rfl | rfl | rfl <;> rfl

theorem below_set5 {Bd : Nat} {W q : World} {b : Nat} (h : Below Bd W q) (hb : Bd ≤ b) (v0 v1 v2 v3 v4 : Value) :
    Below Bd W (((((q.setCell ⟨b, 0, none⟩ v0).setCell ⟨b, 1, none⟩ v1).setCell ⟨b, 2, none⟩ v2).setCell ⟨b, 3, none⟩ v3).setCell ⟨b, 4, none⟩ v4) :=
  ((((h.setCell hb v0).setCell hb v1).setCell hb v2).setCell hb v3).setCell hb v4
theorem below_set2 {Bd : Nat} {W q : World} {b : Nat} (h : Below Bd W q) (hb : Bd ≤ b) (v0 v1 : Value) : Below Bd W ((q.setCell ⟨b, 0, none⟩ v0).setCell ⟨b, 1, none⟩ v1) := (h.setCell hb v0).setCell hb v1
end Go.Proofs.YtimciamfgpdjlaaGreat.Fx
