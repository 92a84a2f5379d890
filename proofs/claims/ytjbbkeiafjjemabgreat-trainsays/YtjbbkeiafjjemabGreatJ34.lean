/- The walk of TrainSays: it returns true, whatever config, examples, state and numbers are handed in, and nothing that was there is written. -/
import Derived.Test.YtjbbkeiafjjemabGreatJ32
import Derived.Test.YtjbbkeiafjjemabGreatJ33
import Derived.Deep.DeepCutAuto
import Derived.Deep.CutBlock
import Derived.Deep.RegionHeld3
namespace Go.Proofs.YtjbbkeiafjjemabGreat.Fx
open Go.RowKit

theorem nx_bad {c : Cfg} {n : Nat} {X : Nat → Exm} {DI DO : Nat → List Int} {n1 : Nat} {ws : List Int} {n2 : Nat} {ms : List Int} {step E : Int} (h : nextE c n X DI DO n1 ws n2 ms step = E) (hE : E ≠ 0) : nxW c n X DI DO n1 ws n2 ms step = [] ∧ nxM c n X DI DO n1 ws n2 ms step = [] ∧ nxB c n X DI DO n1 ws n2 ms step = [] ∧ nxR c n X DI DO n1 ws n2 ms step = 0 := by
  unfold nxW nxM nxB nxR
  rw [h, if_neg hE, if_neg hE, if_neg hE, if_neg hE]
  exact ⟨rfl, rfl, rfl, rfl⟩
theorem run_bad {c : Cfg} {n : Nat} {X : Nat → Exm} {DI DO : Nat → List Int} {m E : Int} (h : runE c n X DI DO m = E) (hE : E ≠ 0) : runN c n X DI DO m = 0 := by
  unfold runN
  rw [h, if_neg hE]
theorem run_len (c : Cfg) (n : Nat) (X : Nat → Exm) (DI DO : Nat → List Int) (m : Int) : runN c n X DI DO m ≤ 1000 ∧ ∀ j, j < runN c n X DI DO m → (stW c n DI DO j).length ≤ 200 ∧ (stM c n DI DO j).length ≤ 200 := by
  by_cases h : runE c n X DI DO m = 0
  · have hco : courseI c n X DI DO = 0 := by
      by_cases g : courseI c n X DI DO = 0
      · exact g
      · unfold runE at h; rw [if_neg g] at h; exact h
    have hc := (course_ok hco).1
    have hm : inB m 0 c.steps = true := by
      cases e : inB m 0 c.steps with
      | true => rfl
      | false => unfold runE at h; rw [if_pos hco, e] at h; cases h
    obtain ⟨_, _, _, _, ⟨s1, s2⟩, _⟩ := cfgB_is hc
    have hz := sizeN_bd hc
    have hlow := in_is hm
    refine ⟨by unfold runN; rw [if_pos h]; omega, fun j _ => ?_⟩
    have := stateP_len c n DI DO (sizeN c).toNat j
    unfold stW stM
    omega
  · unfold runN
    rw [if_neg h]
    exact ⟨by omega, fun j hj => by omega⟩

set_option maxRecDepth 100000 in
set_option maxHeartbeats 6400000 in
theorem trainSays_core (c : Cfg) (hs : okW c.seed) (a : Option Addr) (n cap : Nat) (X : Nat → Exm) (DI DO : Nat → List Int) (a1 : Option Addr) (n1 k1 : Nat) (ws : List Int) (a2 : Option Addr) (n2 k2 : Nat) (ms : List Int) (step m : Int) (w : World)
    (hx : Exs w a n cap X DI DO) (l1 : Lst w a1 n1 k1 ws) (l2 : Lst w a2 n2 k2 ms) :
    Calls Tryz.prog 3 #[c.val, .slice a n cap, .agg #[.slice a1 n1 k1, .slice a2 n2 k2], .int .i64 step, .int .i64 m] w fun e w' => e = .returned (.bool true) ∧ Below w.heap.size w w' := by
  have lb0 := LawBox.start w c (.slice a1 n1 k1) (.slice a2 n2 k2)
  have HRC : Hid (∀ q, Calls Tryz.prog 4 #[c.val] q fun e w' => e = .returned (.int .i64 (cfgI c)) ∧ Below q.heap.size q w') := fun q => rconfig_calls c q
  have HRK : Hid (∀ q, Below w.heap.size w q → Calls Tryz.prog 5 #[c.val, .slice a n cap] q fun e w' => e = .returned (.int .i64 (courseI c n X DI DO)) ∧ Below q.heap.size q w') := fun q hq => rcourse_calls c a n cap X DI DO q (hx.below hq (Nat.le_refl _))
  have HRS : Hid (cfgB c = true → ∀ q, Calls Tryz.prog 6 #[c.val] q fun e w' => ∃ ga M d1 gb d2, e = .returned (.agg #[.slice (some ⟨ga, 0, none⟩) M d1, .slice (some ⟨gb, 0, none⟩) M d2]) ∧ q.heap.size ≤ ga ∧ q.heap.size ≤ gb ∧ Lst w' (some ⟨ga, 0, none⟩) M d1 (startL c) ∧ Lst w' (some ⟨gb, 0, none⟩) M d2 (zeroL0 c) ∧ Below q.heap.size q w') := fun hc q => by
    have hz := sizeN_bd hc
    obtain ⟨N, hN⟩ := Int.eq_ofNat_of_zero_le (show 0 ≤ sizeN c by omega)
    have hNt : (sizeN c).toNat = N := by rw [hN]; rfl
    unfold startL zeroL0
    rw [if_pos hc, if_pos hc, hNt]
    refine (rstart_calls c hc hs N hN.symm q).mono ?_
    rintro e w' ⟨ga, d1, gb, d2, he, r⟩
    exact ⟨ga, N, d1, gb, d2, he, r⟩
  have HRF : Hid (cfgB c = true → ∀ q, Below w.heap.size w q → Calls Tryz.prog 7 #[c.val, .agg #[.slice a1 n1 k1, .slice a2 n2 k2]] q fun e w' => e = .returned (.bool (fitB c n1 ws && fitB c n2 ms)) ∧ Below q.heap.size q w') := fun hc q hq => rstfits_calls c hc a1 n1 k1 a2 n2 k2 ws ms q (l1.below hq (Nat.le_refl _)) (l2.below hq (Nat.le_refl _))
  have HRN : Hid (courseI c n X DI DO = 0 → (fitB c n1 ws && fitB c n2 ms) = true → inB step 0 (c.steps - 1) = true → ∀ q, Below w.heap.size w q → Calls Tryz.prog 9 #[c.val, .slice a n cap, .agg #[.slice a1 n1 k1, .slice a2 n2 k2], .int .i64 step] q fun e w' => ∃ ga M d1 gb d2 a3 m3 k3 Z, e = .returned (.tuple #[.agg #[.slice (some ⟨ga, 0, none⟩) M d1, .slice (some ⟨gb, 0, none⟩) M d2], .agg #[.int .i64 step, .slice a3 m3 k3, .int .i64 (nxR c n X DI DO n1 ws n2 ms step), .int .u64 Z, .int .u64 0]]) ∧ q.heap.size ≤ ga ∧ q.heap.size ≤ gb ∧ Lst w' (some ⟨ga, 0, none⟩) M d1 (nxW c n X DI DO n1 ws n2 ms step) ∧ Lst w' (some ⟨gb, 0, none⟩) M d2 (nxM c n X DI DO n1 ws n2 ms step) ∧ Lst w' a3 m3 k3 (nxB c n X DI DO n1 ws n2 ms step) ∧ (∀ bg o, a3 = some ⟨bg, o, none⟩ → q.heap.size ≤ bg) ∧ Below q.heap.size q w') := fun hF hFB hst q hq => by
    obtain ⟨hc, hn1, hn2, hex⟩ := course_ok hF
    have hz : nextE c n X DI DO n1 ws n2 ms step = 0 := by unfold nextE; rw [if_pos hF, if_pos hFB, if_pos hst]
    rw [Bool.and_eq_true] at hFB
    have g1 := fit_len hc hFB.1
    have g2 := fit_len hc hFB.2
    have hn : n2 = n1 := by have := g1.1; have := g2.1; omega
    subst hn
    unfold nxR nxW nxM nxB
    rw [hz, if_pos rfl, if_pos rfl, if_pos rfl, if_pos rfl]
    have hlow := in_is hst
    obtain ⟨T, hT⟩ := Int.eq_ofNat_of_zero_le hlow.1
    obtain ⟨⟨i1, i2⟩, ⟨h1, h2⟩, ⟨o1, o2⟩, ⟨b1, b2⟩, _⟩ := cfgB_is hc
    have L1 := l1.below hq (Nat.le_refl _)
    have L2 := l2.below hq (Nat.le_refl _)
    have HX := hx.below hq (Nat.le_refl _)
    obtain ⟨x1, y1, rfl, _, _⟩ := L1.at (by omega)
    obtain ⟨x2, y2, rfl, _, _⟩ := L2.at (by omega)
    clear lb0 HRC HRK HRS HRF
    obtain ⟨i, h, o, seed, batch, steps, crate, decay, how, keep, clip⟩ := c
    dsimp only at i1 i2 h1 h2 o1 o2 b1 b2 hs hlow ⊢
    obtain ⟨I, rfl⟩ := Int.eq_ofNat_of_zero_le (show 0 ≤ i by omega)
    obtain ⟨H, rfl⟩ := Int.eq_ofNat_of_zero_le (show 0 ≤ h by omega)
    obtain ⟨O, rfl⟩ := Int.eq_ofNat_of_zero_le (show 0 ≤ o by omega)
    obtain ⟨B, rfl⟩ := Int.eq_ofNat_of_zero_le (show 0 ≤ batch by omega)
    subst hT
    have hN : n2 = H * I + H + O * H + O := by have := g1.1; unfold sizeN at this; dsimp only at this; exact_mod_cast this
    refine (rnext_calls I H O B T seed crate decay how keep clip hs steps hc n2 hN a n cap X DI DO x1 y1 k1 ws x2 y2 k2 ms q HX hn1 hn2 hex L1 L2 (by omega) _ _ _ rfl rfl rfl).mono ?_
    rintro e w' ⟨ga, d1, gb, d2, a3, k3, he, hga, hgb, lw, lm, lb, hnew, hb⟩
    exact ⟨ga, n2, d1, gb, d2, a3, B, k3, _, he, hga, hgb, lw, lm, lb, hnew, hb⟩
  have HRT : Hid (courseI c n X DI DO = 0 → inB m 0 c.steps = true → ∀ q, Below w.heap.size w q → Calls Tryz.prog 10 #[c.val, .slice a n cap, .int .i64 m] q fun e w' => ∃ b k Y, e = .returned (.slice b (runN c n X DI DO m) k) ∧ Exs w' b (runN c n X DI DO m) k Y (stW c n DI DO) (stM c n DI DO) ∧ Below q.heap.size q w') := fun hF hm q hq => by
    obtain ⟨hc, hn1, hn2, hex⟩ := course_ok hF
    have hz : runE c n X DI DO m = 0 := by unfold runE; rw [if_pos hF, if_pos hm]
    have hlow := in_is hm
    obtain ⟨M, hM⟩ := Int.eq_ofNat_of_zero_le hlow.1
    have hRN : runN c n X DI DO m = M + 1 := by unfold runN; rw [if_pos hz, hM]; rfl
    rw [hRN]
    obtain ⟨⟨i1, i2⟩, ⟨h1, h2⟩, ⟨o1, o2⟩, ⟨b1, b2⟩, _⟩ := cfgB_is hc
    have hzn := sizeN_bd hc
    obtain ⟨N, hNz⟩ := Int.eq_ofNat_of_zero_le (show 0 ≤ sizeN c by omega)
    have hNt : (sizeN c).toNat = N := by rw [hNz]; rfl
    unfold stW stM
    rw [hNt]
    have HX := hx.below hq (Nat.le_refl _)
    clear hRN hz hm lb0 HRC HRK HRS HRF HRN
    subst hM
    obtain ⟨i, h, o, seed, batch, steps, crate, decay, how, keep, clip⟩ := c
    dsimp only at i1 i2 h1 h2 o1 o2 b1 b2 hs hlow
    obtain ⟨I, rfl⟩ := Int.eq_ofNat_of_zero_le (show 0 ≤ i by omega)
    obtain ⟨H, rfl⟩ := Int.eq_ofNat_of_zero_le (show 0 ≤ h by omega)
    obtain ⟨O, rfl⟩ := Int.eq_ofNat_of_zero_le (show 0 ≤ o by omega)
    obtain ⟨B, rfl⟩ := Int.eq_ofNat_of_zero_le (show 0 ≤ batch by omega)
    have hN : N = H * I + H + O * H + O := by have := hNz.symm; unfold sizeN at this; dsimp only at this; exact_mod_cast this
    exact rstates_calls I H O B seed crate decay how keep clip hs steps hc N hN a n cap X DI DO M q HX hn1 hn2 hex (by omega)
  have HTS : Hid (∀ q, Calls Tryz.prog 11 #[c.val] q fun e w' => ∃ b1 m1 d1 b2 m2 d2, e = .returned (.tuple #[.agg #[.slice b1 m1 d1, .slice b2 m2 d2], .int .i64 (cfgI c)]) ∧ m1 ≤ 200 ∧ m2 ≤ 200 ∧ Lst w' b1 m1 d1 (startL c) ∧ Lst w' b2 m2 d2 (zeroL0 c) ∧ Below q.heap.size q w') := fun q => tStart_calls c hs q
  have HTN : Hid (∀ q, Below w.heap.size w q → Calls Tryz.prog 12 #[c.val, .slice a n cap, .agg #[.slice a1 n1 k1, .slice a2 n2 k2], .int .i64 step] q fun e w' => ∃ b1 m1 d1 b2 m2 d2 a3 m3 d3, e = .returned (.tuple #[.agg #[.slice b1 m1 d1, .slice b2 m2 d2], .slice a3 m3 d3, .int .i64 (nxR c n X DI DO n1 ws n2 ms step), .int .i64 (nextE c n X DI DO n1 ws n2 ms step)]) ∧ m1 ≤ 200 ∧ m2 ≤ 200 ∧ m3 ≤ 200 ∧ Lst w' b1 m1 d1 (nxW c n X DI DO n1 ws n2 ms step) ∧ Lst w' b2 m2 d2 (nxM c n X DI DO n1 ws n2 ms step) ∧ Lst w' a3 m3 d3 (nxB c n X DI DO n1 ws n2 ms step) ∧ Below q.heap.size q w') := fun q hq => tNext_calls c hs a n cap X DI DO a1 n1 k1 ws a2 n2 k2 ms step q (hx.below hq (Nat.le_refl _)) (l1.below hq (Nat.le_refl _)) (l2.below hq (Nat.le_refl _))
  have HTR : Hid (∀ q, Below w.heap.size w q → Calls Tryz.prog 13 #[c.val, .slice a n cap, .int .i64 m] q fun e w' => ∃ b k Y, e = .returned (.tuple #[.slice b (runN c n X DI DO m) k, .int .i64 (runE c n X DI DO m)]) ∧ Exs w' b (runN c n X DI DO m) k Y (stW c n DI DO) (stM c n DI DO) ∧ Below q.heap.size q w') := fun q hq => tRun_calls c hs a n cap X DI DO m q (hx.below hq (Nat.le_refl _))
  have HTC : Hid (∀ q, Below w.heap.size w q → Calls Tryz.prog 14 #[c.val, .slice a n cap] q fun e w' => e = .returned (.int .i64 (courseI c n X DI DO)) ∧ Below q.heap.size q w') := fun q hq => tcheck_calls c a n cap X DI DO q (hx.below hq (Nat.le_refl _))
  -- what each way comes to
  have HA : Hid (cfgB c = false → cfgI c = 1 ∧ courseI c n X DI DO ≠ 0 ∧ startL c = [] ∧ zeroL0 c = []) := fun hc => by
    refine ⟨cfgI_no hc, fun g => ?_, by unfold startL; rw [hc]; rfl, by unfold zeroL0; rw [hc]; rfl⟩
    have := (course_ok g).1
    rw [hc] at this
    cases this
  have HE : Hid (cfgB c = true → cfgI c = 0) := fun hc => cfgI_yes hc
  have HCB : Hid (courseI c n X DI DO = 0 → cfgB c = true) := fun g => (course_ok g).1
  have HN0 : Hid (courseI c n X DI DO ≠ 0 → nextE c n X DI DO n1 ws n2 ms step = courseI c n X DI DO ∧ nxW c n X DI DO n1 ws n2 ms step = [] ∧ nxM c n X DI DO n1 ws n2 ms step = [] ∧ nxB c n X DI DO n1 ws n2 ms step = [] ∧ nxR c n X DI DO n1 ws n2 ms step = 0 ∧ runE c n X DI DO m = courseI c n X DI DO ∧ runN c n X DI DO m = 0) := fun g => by
    have e1 : nextE c n X DI DO n1 ws n2 ms step = courseI c n X DI DO := by unfold nextE; rw [if_neg g]
    have e2 : runE c n X DI DO m = courseI c n X DI DO := by unfold runE; rw [if_neg g]
    obtain ⟨r1, r2, r3, r4⟩ := nx_bad e1 g
    exact ⟨e1, r1, r2, r3, r4, e2, run_bad e2 g⟩
  have HN1 : Hid (courseI c n X DI DO = 0 → (fitB c n1 ws && fitB c n2 ms) = false → nextE c n X DI DO n1 ws n2 ms step = 5 ∧ nxW c n X DI DO n1 ws n2 ms step = [] ∧ nxM c n X DI DO n1 ws n2 ms step = [] ∧ nxB c n X DI DO n1 ws n2 ms step = [] ∧ nxR c n X DI DO n1 ws n2 ms step = 0) := fun g hf => by
    have e1 : nextE c n X DI DO n1 ws n2 ms step = 5 := by unfold nextE; rw [if_pos g, hf]; rfl
    exact ⟨e1, nx_bad e1 (by decide)⟩
  have HN2 : Hid (courseI c n X DI DO = 0 → (fitB c n1 ws && fitB c n2 ms) = true → inB step 0 (c.steps - 1) = false → nextE c n X DI DO n1 ws n2 ms step = 1 ∧ nxW c n X DI DO n1 ws n2 ms step = [] ∧ nxM c n X DI DO n1 ws n2 ms step = [] ∧ nxB c n X DI DO n1 ws n2 ms step = [] ∧ nxR c n X DI DO n1 ws n2 ms step = 0) := fun g hf hi => by
    have e1 : nextE c n X DI DO n1 ws n2 ms step = 1 := by unfold nextE; rw [if_pos g, hf, hi]; rfl
    exact ⟨e1, nx_bad e1 (by decide)⟩
  have HN3 : Hid (courseI c n X DI DO = 0 → (fitB c n1 ws && fitB c n2 ms) = true → inB step 0 (c.steps - 1) = true → nextE c n X DI DO n1 ws n2 ms step = 0) := fun g hf hi => by unfold nextE; rw [if_pos g, hf, hi]; rfl
  have HM0 : Hid (courseI c n X DI DO = 0 → inB m 0 c.steps = false → runE c n X DI DO m = 1 ∧ runN c n X DI DO m = 0) := fun g hi => by
    have e1 : runE c n X DI DO m = 1 := by unfold runE; rw [if_pos g, hi]; rfl
    exact ⟨e1, run_bad e1 (by decide)⟩
  have HM1 : Hid (courseI c n X DI DO = 0 → inB m 0 c.steps = true → runE c n X DI DO m = 0) := fun g hi => by unfold runE; rw [if_pos g, hi]; rfl
  have HLN := run_len c n X DI DO m
  have hsteps : cfgB c = true → 1 ≤ c.steps ∧ c.steps ≤ 40 := fun hc => by
    obtain ⟨_, _, _, _, p, _⟩ := cfgB_is hc
    exact p
  have HST : Hid (cfgB c = true → 1 ≤ c.steps ∧ c.steps ≤ 40) := hsteps
  clear l1 l2 hx hsteps hs
  generalize nextE c n X DI DO n1 ws n2 ms step = G at *
  generalize nxW c n X DI DO n1 ws n2 ms step = NW at *
  generalize nxM c n X DI DO n1 ws n2 ms step = NM at *
  generalize nxB c n X DI DO n1 ws n2 ms step = NB at *
  generalize nxR c n X DI DO n1 ws n2 ms step = NR at *
  generalize runE c n X DI DO m = HH at *
  generalize runN c n X DI DO m = RN at *
  generalize stW c n DI DO = DW at *
  generalize stM c n DI DO = DM at *
  generalize courseI c n X DI DO = F at *
  generalize startL c = SW at *
  generalize zeroL0 c = SM at *
  generalize (fitB c n1 ws && fitB c n2 ms) = FB at *
  generalize hCB : cfgB c = CB at *
  clear hCB
  generalize cfgI c = E at *
  obtain ⟨RN1000, hlen⟩ := HLN
  have HLEN : Hid (∀ j, j < RN → (DW j).length ≤ 200 ∧ (DM j).length ≤ 200) := hlen
  clear hlen
  obtain ⟨IS, HIS⟩ : ∃ b, Hid (inB step 0 (c.steps - 1) = b) := ⟨_, rfl⟩
  obtain ⟨IM, HIM⟩ : ∃ b, Hid (inB m 0 c.steps = b) := ⟨_, rfl⟩
  rw [HIS.out] at HRN HN2 HN3
  rw [HIM.out] at HRT HM0 HM1
  obtain ⟨W0, HW0⟩ : ∃ q, Hid (q = ((w.alloc (.cells c.cells 24)).alloc (.cells #[.slice a1 n1 k1, .slice a2 n2 k2] 28))) := ⟨_, rfl⟩
  have lbW : LawBox w c (.slice a1 n1 k1) (.slice a2 n2 k2) W0 := by rw [HW0.out]; exact lb0
  clear lb0
  obtain ⟨i, h, o, seed, batch, steps, crate, decay, how, keep, clip⟩ := c
  simp only [Cfg.val, Cfg.cells] at *
  have KS : Hid (∀ q, Below W0.heap.size W0 q → q.cell? ⟨w.heap.size, 0, none⟩ = some (.int .i64 i) ∧ q.cell? ⟨w.heap.size, 1, none⟩ = some (.int .i64 h) ∧ q.cell? ⟨w.heap.size, 2, none⟩ = some (.int .i64 o) ∧ q.cell? ⟨w.heap.size, 3, none⟩ = some (.int .u64 seed) ∧ q.cell? ⟨w.heap.size, 4, none⟩ = some (.int .i64 batch) ∧ q.cell? ⟨w.heap.size, 5, none⟩ = some (.int .i64 steps) ∧ q.cell? ⟨w.heap.size, 6, none⟩ = some (.int .i64 crate) ∧ q.cell? ⟨w.heap.size, 7, none⟩ = some (.int .i64 decay) ∧ q.cell? ⟨w.heap.size, 8, none⟩ = some (.int .i64 how) ∧ q.cell? ⟨w.heap.size, 9, none⟩ = some (.int .i64 keep) ∧ q.cell? ⟨w.heap.size, 10, none⟩ = some (.int .i64 clip)) := fun q hq => by
    obtain ⟨x0, x1, x2, x3, x4, x5, x6, x7, x8, x9, x10⟩ := (lbW.below hq).cfg
    exact ⟨x0, x1, x2, x3, x4, x5, x6, x7, x8, x9, x10⟩
  have Td : Below W0.heap.size W0 W0.drew := Below.drew (Below.refl _ _)
  have S0 := KS.out _ Td
  go_enter Tryz.func3, Tryz.ntmps3
  go_wp2_with fail
  rw [← HW0.out]
  clear HW0
  go_region_held3 (fun q => q.cell? ⟨w.heap.size, 0, none⟩ = some (.int .i64 i) ∧ q.cell? ⟨w.heap.size, 1, none⟩ = some (.int .i64 h) ∧ q.cell? ⟨w.heap.size, 2, none⟩ = some (.int .i64 o) ∧ q.cell? ⟨w.heap.size, 3, none⟩ = some (.int .u64 seed) ∧ q.cell? ⟨w.heap.size, 4, none⟩ = some (.int .i64 batch) ∧ q.cell? ⟨w.heap.size, 5, none⟩ = some (.int .i64 steps) ∧ q.cell? ⟨w.heap.size, 6, none⟩ = some (.int .i64 crate) ∧ q.cell? ⟨w.heap.size, 7, none⟩ = some (.int .i64 decay) ∧ q.cell? ⟨w.heap.size, 8, none⟩ = some (.int .i64 how) ∧ q.cell? ⟨w.heap.size, 9, none⟩ = some (.int .i64 keep) ∧ q.cell? ⟨w.heap.size, 10, none⟩ = some (.int .i64 clip)) (first | with_reducible exact S0 | with_reducible exact S2 | with_reducible exact S1)
    (first | (go_at_call 4; refine (HRC.out _).mono ?_; rintro e u1 ⟨rfl, hu1⟩; have V1 := Td.trans (hu1.mono Td.size); have S1 := KS.out _ V1) | (go_at_call 5; refine (HRK.out _ (lbW.below V1).bel).mono ?_; rintro e w1 ⟨rfl, hw1⟩; have V2 := V1.trans (hw1.mono V1.size); have S2 := KS.out _ V2))
  have lb1 := lbW.below V2
  clear S0 S1 S2 V1 V2 hu1 hw1 Td KS lbW HRC HRK
  have cm0 := Cut1M.start w1
  obtain ⟨W, HW⟩ : ∃ q, Hid (q = (((w1.alloc (.cells #[.slice none 0 0, .slice none 0 0] 28)).alloc (.cells #[.slice none 0 0, .slice none 0 0] 28)).alloc (.cells #[.int .i64 0, .slice none 0 0, .int .i64 0, .int .u64 0, .int .u64 0] 33))) := ⟨_, rfl⟩
  have cmW : Cut1M w1 [] [] zeroX W := by rw [HW.out]; exact cm0
  clear cm0
  go_upto_if 35 with fail
  rw [← HW.out]
  clear HW
  go_cut [18] (fun s q => s = .slice none 0 0 ∧ ∃ x0, Cut1M w1 SW SM x0 q)
  case first =>
    clear HRF HRN HRT HTS HTN HTR HTC HCB HN0 HN1 HN2 HN3 HM0 HM1 HIS HIM HST HLEN
    cases CB with
    | false =>
      obtain ⟨hE, _, hW, hM⟩ := HA.out (by trivial)
      subst hE hW hM
      clear HA HE HRS
      go_wp2_with fail
      go_meet
      case rel => exact ⟨rfl, zeroX, cmW⟩
    | true =>
      have hE := HE.out (by trivial)
      subst hE
      have RS := HRS.out (by trivial)
      have HRS2 : Hid (∀ q, Calls Tryz.prog 6 #[.agg #[.int .i64 i, .int .i64 h, .int .i64 o, .int .u64 seed, .int .i64 batch, .int .i64 steps, .int .i64 crate, .int .i64 decay, .int .i64 how, .int .i64 keep, .int .i64 clip]] q fun e w' => ∃ ga M d1 gb d2, e = .returned (.agg #[.slice (some ⟨ga, 0, none⟩) M d1, .slice (some ⟨gb, 0, none⟩) M d2]) ∧ q.heap.size ≤ ga ∧ q.heap.size ≤ gb ∧ Lst w' (some ⟨ga, 0, none⟩) M d1 SW ∧ Lst w' (some ⟨gb, 0, none⟩) M d2 SM ∧ Below q.heap.size q w') := RS
      have lb2 := lb1.below cmW.bel
      have ⟨⟨c0, c1, c2, c3, c4, c5, c6, c7, c8, c9, c10⟩, hsr, hb⟩ := lb2
      dsimp only at c0 c1 c2 c3 c4 c5 c6 c7 c8 c9 c10
      obtain ⟨s0, s1⟩ := fn2_cells hsr
      clear RS HRS HA HE
      go_wp2_with fail
      refine (HRS2.out _).mono ?_
      rintro e u1 ⟨ga, M, d1, gb, d2, rfl, hga, hgb, q1, q2, hu1⟩
      clear c0 c1 c2 c3 c4 c5 c6 c7 c8 c9 c10 hsr hb s0 s1
      have hl2 := cmW.r2.lt
      have cm := cmW.below hu1
      obtain ⟨z0, z1⟩ := fn2_cells cm.r0
      have y0 := cm.r0.frozen 0
      have y1 := cm.r0.frozen 1
      simp only [zeroX] at z0 z1
      go_wp2_with fail
      go_meet
      case rel => exact ⟨rfl, ⟨some ⟨ga, 0, none⟩, M, d1, some ⟨gb, 0, none⟩, M, d2⟩, cm.first (x0 := ⟨some ⟨ga, 0, none⟩, M, d1, some ⟨gb, 0, none⟩, M, d2⟩) ⟨q1, q2⟩ (FarB.some (by omega)) (FarB.some (by omega))⟩
  case rest =>
    obtain ⟨rfl, x0, cm⟩ := hcut
    clear cmW
    generalize hwc : wc = q1 at *
    clear hwc HRS HA HE
    go_upto_if 39 with fail
    go_cut [13, 14, 18] (fun g h s q => g = .int .i64 G ∧ h = .int .i64 HH ∧ ∃ x1 v0 a3 m3 d3 v3 v4 sb sk Y, s = .slice sb RN sk ∧ SwM w1 SW SM NW NM NB NR x0 x1 v0 a3 m3 d3 v3 v4 q ∧ Exs q sb RN sk Y DW DM)
    case first =>
      clear HTS HTN HTR HTC HLEN
      by_cases hF : F = 0
      · have hCB := HCB.out hF
        have hst := HST.out hCB
        have lb2 := lb1.below cm.bel
        subst hF
        subst hCB
        have ⟨⟨c0, c1, c2, c3, c4, c5, c6, c7, c8, c9, c10⟩, hsr, hb⟩ := lb2
        dsimp only at c0 c1 c2 c3 c4 c5 c6 c7 c8 c9 c10
        obtain ⟨s0, s1⟩ := fn2_cells hsr
        go_wp2_with fail
        refine (HRF.out (by trivial) _ lb2.bel).mono ?_
        rintro e u2 ⟨rfl, hu2⟩
        replace cm := cm.below hu2
        replace lb2 := lb2.below hu2
        clear hu2
        clear c0 c1 c2 c3 c4 c5 c6 c7 c8 c9 c10 hsr hb s0 s1
        have ⟨⟨c0, c1, c2, c3, c4, c5, c6, c7, c8, c9, c10⟩, hsr, hb⟩ := lb2
        dsimp only at c0 c1 c2 c3 c4 c5 c6 c7 c8 c9 c10
        obtain ⟨s0, s1⟩ := fn2_cells hsr
        cases FB with
        | false =>
          obtain ⟨hG, e1, e2, e3, e4⟩ := HN1.out (by trivial) (by trivial)
          subst hG e1 e2 e3 e4
          have sm := cm.sw
          clear HN0 HN1 HN2 HN3 HRN HRF cm
          cases IM with
          | false =>
            obtain ⟨hH, hR⟩ := HM0.out (by trivial) (by trivial)
            subst hH hR
            clear HM0 HM1 HRT
            go_wp2_with (go_at_call 8; refine (rin_calls _ _ _ _).mono ?_; rintro e w' ⟨rfl, hw'⟩; replace hw' := hw'.symm; subst hw'; rw [HIM.out])
            go_meet
            case rel => exact ⟨rfl, rfl, _, _, _, _, _, _, _, none, 0, noEx, rfl, sm, Exs.nil _ _ _ _ _ _⟩
          | true =>
            have hH := HM1.out (by trivial) (by trivial)
            subst hH
            have RT := HRT.out (by trivial) (by trivial) _ lb2.bel
            clear HM0 HM1 HRT
            go_wp2_with (go_at_call 8; refine (rin_calls _ _ _ _).mono ?_; rintro e w' ⟨rfl, hw'⟩; replace hw' := hw'.symm; subst hw'; rw [HIM.out])
            refine RT.mono ?_
            rintro e u5 ⟨sb, sk, Y, rfl, ex, hu5⟩
            go_wp2_with fail
            go_meet
            case rel => exact ⟨rfl, rfl, _, _, _, _, _, _, _, sb, sk, Y, rfl, sm.below hu5, ex⟩
        | true =>
          cases IS with
          | false =>
            obtain ⟨hG, e1, e2, e3, e4⟩ := HN2.out (by trivial) (by trivial) (by trivial)
            subst hG e1 e2 e3 e4
            have sm := cm.sw
            clear HN0 HN1 HN2 HN3 HRN HRF cm
            cases IM with
            | false =>
              obtain ⟨hH, hR⟩ := HM0.out (by trivial) (by trivial)
              subst hH hR
              clear HM0 HM1 HRT
              go_wp2_with (first | (go_at_call_of 8 (Value.int IntKind.i64 step); refine (rin_calls _ _ _ _).mono ?_; rintro e w' ⟨rfl, hw'⟩; replace hw' := hw'.symm; subst hw'; rw [HIS.out]) | (go_at_call_of 8 (Value.int IntKind.i64 m); refine (rin_calls _ _ _ _).mono ?_; rintro e w' ⟨rfl, hw'⟩; replace hw' := hw'.symm; subst hw'; rw [HIM.out]))
              go_meet
              case rel => exact ⟨rfl, rfl, _, _, _, _, _, _, _, none, 0, noEx, rfl, sm, Exs.nil _ _ _ _ _ _⟩
            | true =>
              have hH := HM1.out (by trivial) (by trivial)
              subst hH
              have RT := HRT.out (by trivial) (by trivial) _ lb2.bel
              clear HM0 HM1 HRT
              go_wp2_with (first | (go_at_call_of 8 (Value.int IntKind.i64 step); refine (rin_calls _ _ _ _).mono ?_; rintro e w' ⟨rfl, hw'⟩; replace hw' := hw'.symm; subst hw'; rw [HIS.out]) | (go_at_call_of 8 (Value.int IntKind.i64 m); refine (rin_calls _ _ _ _).mono ?_; rintro e w' ⟨rfl, hw'⟩; replace hw' := hw'.symm; subst hw'; rw [HIM.out]))
              refine RT.mono ?_
              rintro e u5 ⟨sb, sk, Y, rfl, ex, hu5⟩
              go_wp2_with fail
              go_meet
              case rel => exact ⟨rfl, rfl, _, _, _, _, _, _, _, sb, sk, Y, rfl, sm.below hu5, ex⟩
          | true =>
            have hG := HN3.out (by trivial) (by trivial) (by trivial)
            subst hG
            have RN2 := HRN.out (by trivial) (by trivial) (by trivial) _ lb2.bel
            clear HN0 HN1 HN2 HN3 HRN HRF
            go_wp2_with (go_at_call 8; refine (rin_calls _ _ _ _).mono ?_; rintro e w' ⟨rfl, hw'⟩; replace hw' := hw'.symm; subst hw'; rw [HIS.out])
            refine RN2.mono ?_
            rintro e u3 ⟨ga, M, d1, gb, d2, a3, m3, k3, Z, rfl, hga, hgb, g1, g2, g3, hnew, hu3⟩
            have hl2 := cm.r2.lt
            replace cm := cm.below hu3
            replace lb2 := lb2.below hu3
            clear hu3 RN2
            clear c0 c1 c2 c3 c4 c5 c6 c7 c8 c9 c10 hsr hb s0 s1
            obtain ⟨r0, r1⟩ := fn2_cells cm.r1
            have f0 := cm.r1.frozen 0
            have f1 := cm.r1.frozen 1
            have rz := ((cm.r2.setOther (a := ⟨w1.heap.size + 1, 0, none⟩) (show w1.heap.size + 1 + 1 ≠ w1.heap.size + 1 by omega) (.slice (some ⟨ga, 0, none⟩) M d1)).setOther (a := ⟨w1.heap.size + 1, 1, none⟩) (show w1.heap.size + 1 + 1 ≠ w1.heap.size + 1 by omega) (.slice (some ⟨gb, 0, none⟩) M d2))
            obtain ⟨t0, t1, t2, t3, t4⟩ := fn5_box rz
            have h0 := rz.frozen 0
            have h1 := rz.frozen 1
            have h2 := rz.frozen 2
            have h3 := rz.frozen 3
            have h4 := rz.frozen 4
            have sm := cm.put (x1 := ⟨some ⟨ga, 0, none⟩, M, d1, some ⟨gb, 0, none⟩, M, d2⟩) ⟨g1, g2⟩ g3 (FarB.some (by omega)) (FarB.some (by omega)) (fun bg o e => by have := hnew bg o e; omega) (.int .i64 step) (.int .u64 Z) (.int .u64 0) NR
            have lb3 := lb1.below sm.bel
            dsimp only at sm lb3
            have k5 := lb3.cfg.c5
            dsimp only at k5
            clear lb2 cm
            go_wp2_with fail
            generalize (((((((u3.setCell ⟨w1.heap.size + 1, 0, none⟩ (.slice (some ⟨ga, 0, none⟩) M d1)).setCell ⟨w1.heap.size + 1, 1, none⟩ (.slice (some ⟨gb, 0, none⟩) M d2)).setCell ⟨w1.heap.size + 1 + 1, 0, none⟩ (.int .i64 step)).setCell ⟨w1.heap.size + 1 + 1, 1, none⟩ (.slice a3 m3 k3)).setCell ⟨w1.heap.size + 1 + 1, 2, none⟩ (.int .i64 NR)).setCell ⟨w1.heap.size + 1 + 1, 3, none⟩ (.int .u64 Z)).setCell ⟨w1.heap.size + 1 + 1, 4, none⟩ (.int .u64 0)) = u4 at sm lb3 k5 ⊢
            have ⟨⟨c0, c1, c2, c3, c4, c5, c6, c7, c8, c9, c10⟩, _, _⟩ := lb3
            dsimp only at c0 c1 c2 c3 c4 c5 c6 c7 c8 c9 c10
            clear rz t0 t1 t2 t3 t4 h0 h1 h2 h3 h4 r0 r1 f0 f1 k5
            refine (rin_calls _ _ _ _).mono ?_
            rintro e w' ⟨rfl, hw'⟩
            replace hw' := hw'.symm
            subst hw'
            rw [HIM.out]
            cases IM with
            | false =>
              obtain ⟨hH, hR⟩ := HM0.out (by trivial) (by trivial)
              subst hH hR
              clear HM0 HM1 HRT
              go_wp2_with (fail)
              go_meet
              case rel => exact ⟨rfl, rfl, _, _, _, _, _, _, _, none, 0, noEx, rfl, sm, Exs.nil _ _ _ _ _ _⟩
            | true =>
              have hH := HM1.out (by trivial) (by trivial)
              subst hH
              have RT := HRT.out (by trivial) (by trivial) _ lb3.bel
              clear HM0 HM1 HRT
              go_wp2_with (fail)
              refine RT.mono ?_
              rintro e u5 ⟨sb, sk, Y, rfl, ex, hu5⟩
              go_wp2_with fail
              go_meet
              case rel => exact ⟨rfl, rfl, _, _, _, _, _, _, _, sb, sk, Y, rfl, sm.below hu5, ex⟩
      · obtain ⟨hG, e1, e2, e3, e4, hH, hR⟩ := HN0.out hF
        have hFb : (F == 0) = false := by rw [beq_eq_false_iff_ne]; exact hF
        subst hG e1 e2 e3 e4 hH hR
        clear HN0 HN1 HN2 HN3 HRN HRF HRT HM0 HM1 HCB HST hF
        go_wp2_with fail
        go_meet
        case rel => exact ⟨rfl, rfl, zeroX, _, none, 0, 0, _, _, none, 0, noEx, rfl, cm.sw, Exs.nil _ _ _ _ _ _⟩
    case rest =>
      obtain ⟨rfl, rfl, x1, v0, a3, m3, d3, v3, v4, sb, sk, Y, rfl, sm, ex⟩ := hcut
      generalize hwc : wc = q2 at *
      clear hwc cm HRF HRN HRT HCB HN0 HN1 HN2 HN3 HM0 HM1 HIS HIM HST
      have lb2 := lb1.below sm.bel
      clear lb1
      have ⟨⟨c0, c1, c2, c3, c4, c5, c6, c7, c8, c9, c10⟩, hsr, hb⟩ := lb2
      dsimp only at c0 c1 c2 c3 c4 c5 c6 c7 c8 c9 c10
      obtain ⟨s0, s1⟩ := fn2_cells hsr
      go_wp2_with fail
      refine (HTS.out _).mono ?_
      rintro e w5 ⟨b1, p1, t1, b2, p2, t2, rfl, hp1, hp2, x1s, x2s, hw5⟩
      have hwa := hw5.trans ((low_alloc w5 (.cells #[.slice b1 p1 t1, .slice b2 p2 t2] 28)).mono hw5.size)
      have xrow := fn2_alloc w5 (.slice b1 p1 t1) (.slice b2 p2 t2) 28
      replace x1s := x1s.below (low_alloc w5 (.cells #[.slice b1 p1 t1, .slice b2 p2 t2] 28)) (Nat.le_refl _)
      replace x2s := x2s.below (low_alloc w5 (.cells #[.slice b1 p1 t1, .slice b2 p2 t2] 28)) (Nat.le_refl _)
      replace sm := sm.below hwa
      replace ex := ex.below hwa (Nat.le_refl _)
      replace lb2 := lb2.below hwa
      clear hw5 hwa HTS
      clear c0 c1 c2 c3 c4 c5 c6 c7 c8 c9 c10 hsr hb s0 s1
      have ⟨⟨c0, c1, c2, c3, c4, c5, c6, c7, c8, c9, c10⟩, hsr, hb⟩ := lb2
      dsimp only at c0 c1 c2 c3 c4 c5 c6 c7 c8 c9 c10
      obtain ⟨s0, s1⟩ := fn2_cells hsr
      go_wp2_with fail
      refine (HTN.out _ lb2.bel).mono ?_
      rintro e w6 ⟨b3, p3, t3, b4, p4, t4, b5, p5, t5, rfl, hp3, hp4, hp5, y1s, y2s, y3s, hw6⟩
      have hwa := hw6.trans ((low_alloc w6 (.cells #[.slice b3 p3 t3, .slice b4 p4 t4] 28)).mono hw6.size)
      have yrow := fn2_alloc w6 (.slice b3 p3 t3) (.slice b4 p4 t4) 28
      replace y1s := y1s.below (low_alloc w6 (.cells #[.slice b3 p3 t3, .slice b4 p4 t4] 28)) (Nat.le_refl _)
      replace y2s := y2s.below (low_alloc w6 (.cells #[.slice b3 p3 t3, .slice b4 p4 t4] 28)) (Nat.le_refl _)
      replace y3s := y3s.below (low_alloc w6 (.cells #[.slice b3 p3 t3, .slice b4 p4 t4] 28)) (Nat.le_refl _)
      replace xrow := xrow.of_block (hwa.block _ xrow.lt)
      replace x1s := x1s.below hwa (Nat.le_refl _)
      replace x2s := x2s.below hwa (Nat.le_refl _)
      replace sm := sm.below hwa
      replace ex := ex.below hwa (Nat.le_refl _)
      replace lb2 := lb2.below hwa
      clear hw6 hwa HTN
      clear c0 c1 c2 c3 c4 c5 c6 c7 c8 c9 c10 hsr hb s0 s1
      have ⟨⟨c0, c1, c2, c3, c4, c5, c6, c7, c8, c9, c10⟩, hsr, hb⟩ := lb2
      dsimp only at c0 c1 c2 c3 c4 c5 c6 c7 c8 c9 c10
      obtain ⟨s0, s1⟩ := fn2_cells hsr
      go_wp2_with fail
      refine (HTR.out _ lb2.bel).mono ?_
      rintro e w7 ⟨b6, t6, Y6, rfl, ex6, hwa⟩
      replace yrow := yrow.of_block (hwa.block _ yrow.lt)
      replace y1s := y1s.below hwa (Nat.le_refl _)
      replace y2s := y2s.below hwa (Nat.le_refl _)
      replace y3s := y3s.below hwa (Nat.le_refl _)
      replace xrow := xrow.of_block (hwa.block _ xrow.lt)
      replace x1s := x1s.below hwa (Nat.le_refl _)
      replace x2s := x2s.below hwa (Nat.le_refl _)
      replace sm := sm.below hwa
      replace ex := ex.below hwa (Nat.le_refl _)
      replace lb2 := lb2.below hwa
      clear hwa HTR
      clear c0 c1 c2 c3 c4 c5 c6 c7 c8 c9 c10 hsr hb s0 s1
      have ⟨⟨c0, c1, c2, c3, c4, c5, c6, c7, c8, c9, c10⟩, hsr, hb⟩ := lb2
      dsimp only at c0 c1 c2 c3 c4 c5 c6 c7 c8 c9 c10
      obtain ⟨s0, s1⟩ := fn2_cells hsr
      go_wp2_with fail
      refine (HTC.out _ lb2.bel).mono ?_
      rintro e w8 ⟨rfl, hwa⟩
      replace yrow := yrow.of_block (hwa.block _ yrow.lt)
      replace y1s := y1s.below hwa (Nat.le_refl _)
      replace y2s := y2s.below hwa (Nat.le_refl _)
      replace y3s := y3s.below hwa (Nat.le_refl _)
      replace xrow := xrow.of_block (hwa.block _ xrow.lt)
      replace x1s := x1s.below hwa (Nat.le_refl _)
      replace x2s := x2s.below hwa (Nat.le_refl _)
      replace ex6 := ex6.below hwa (Nat.le_refl _)
      replace sm := sm.below hwa
      replace ex := ex.below hwa (Nat.le_refl _)
      replace lb2 := lb2.below hwa
      clear hwa HTC
      clear c0 c1 c2 c3 c4 c5 c6 c7 c8 c9 c10 hsr hb s0 s1
      have T := lb2.bel
      clear lb2
      have qE : (E == E) = true := by simp
      have qF : (F == F) = true := by simp
      have qR : (NR == NR) = true := by simp
      have qG : (G == G) = true := by simp
      have qH : (HH == HH) = true := by simp
      obtain ⟨z0, z1⟩ := fn2_cells xrow
      obtain ⟨z2, z3⟩ := fn2_cells sm.r0
      go_wp2_with fail
      refine (rsameS_calls _ _ _ _ _ _ _ _ _ _ _ _ SW SM _ x1s x2s sm.l0.i sm.l0.o hp1 hp2).mono ?_
      rintro e w9 ⟨rfl, hwa⟩
      replace yrow := yrow.of_block (hwa.block _ yrow.lt)
      replace y1s := y1s.below hwa (Nat.le_refl _)
      replace y2s := y2s.below hwa (Nat.le_refl _)
      replace y3s := y3s.below hwa (Nat.le_refl _)
      replace ex6 := ex6.below hwa (Nat.le_refl _)
      replace sm := sm.below hwa
      replace ex := ex.below hwa (Nat.le_refl _)
      replace T := T.trans (hwa.mono T.size)
      clear hwa z0 z1 z2 z3 xrow x1s x2s
      obtain ⟨z0, z1⟩ := fn2_cells yrow
      obtain ⟨z2, z3⟩ := fn2_cells sm.r1
      go_wp2_with fail
      refine (rsameS_calls _ _ _ _ _ _ _ _ _ _ _ _ NW NM _ y1s y2s sm.l1.i sm.l1.o hp3 hp4).mono ?_
      rintro e w10 ⟨rfl, hwa⟩
      replace y3s := y3s.below hwa (Nat.le_refl _)
      replace ex6 := ex6.below hwa (Nat.le_refl _)
      replace sm := sm.below hwa
      replace ex := ex.below hwa (Nat.le_refl _)
      replace T := T.trans (hwa.mono T.size)
      clear hwa z0 z1 z2 z3 yrow y1s y2s
      obtain ⟨z0, z1, z2, z3, z4⟩ := fn5_box sm.r2
      go_wp2_with fail
      refine (eq_calls _ _ _ _ _ _ NB NB _ y3s sm.l2 (by omega)).mono ?_
      rintro e w11 ⟨rfl, k9, hw9⟩
      subst hw9
      rw [decide_eq_true (Eq.refl NB)]
      go_wp2_with fail
      refine (eqf_calls _ _ RN _ _ Y6 Y DW DM _ (ex6.drewN _) (ex.drewN _) RN1000 HLEN.out).mono ?_
      rintro e w12 ⟨rfl, hw12⟩
      go_wp2
      go_ret
      exact ⟨rfl, (below_drewN T k9).trans (hw12.mono (by simpa using T.size))⟩

theorem trainSays_any (c : Cfg) (a : Option Addr) (n cap : Nat) (X : Nat → Exm) (DI DO : Nat → List Int) (x : Exm) (ws ms : List Int) (step m : Int) (w : World) (hs : (Lit.int .u64 c.seed).wf = true) (hx : Exs w a n cap X DI DO) (l : InEx w x ws ms) (_ : (Lit.int .i64 step).wf = true) (_ : (Lit.int .i64 m).wf = true) :
    Calls Tryz.prog 3 #[c.val, .slice a n cap, x.val, .int .i64 step, .int .i64 m] w fun e w' => e = .returned (.bool true) ∧ Below w.heap.size w w' :=
  trainSays_core c (wf_word hs) a n cap X DI DO x.a x.n x.k ws x.b x.m x.t ms step m w hx l.i l.o
end Go.Proofs.YtjbbkeiafjjemabGreat.Fx
