/- What train.Start and train.Next return, whatever is handed in. -/
import Derived.Test.YtkikhfdkibekgaaGreatJ17
namespace Go.Proofs.YtkikhfdkibekgaaGreat.Fx
open Go.RowKit

theorem course_ok {c : Cfg} {n : Nat} {X : Nat → Exm} {DI DO : Nat → List Int} (h : courseI c n X DI DO = 0) : cfgB c = true ∧ 1 ≤ n ∧ n ≤ 16 ∧ allEx c n X DI DO = true := by
  unfold courseI at h
  by_cases h1 : cfgB c = true
  · rw [if_pos h1] at h
    by_cases h2 : n = 0
    · rw [if_pos h2] at h; cases h
    · rw [if_neg h2] at h
      by_cases h3 : 16 < n
      · rw [if_pos h3] at h; cases h
      · rw [if_neg h3] at h
        by_cases h4 : allEx c n X DI DO = true
        · exact ⟨h1, by omega, by omega, h4⟩
        · rw [if_neg h4] at h; cases h
  · rw [if_neg h1] at h; cases h
def startL (c : Cfg) : List Int := if cfgB c = true then (List.range (sizeN c).toNat).map (startG c.seed) else []
def zeroL0 (c : Cfg) : List Int := if cfgB c = true then (List.range (sizeN c).toNat).map zeroG else []

set_option maxHeartbeats 1600000 in
theorem tStart_calls (c : Cfg) (hs : okW c.seed) (w : World) :
    Calls Tryz.prog 35 #[c.val] w fun e w' => ∃ b1 m1 d1 b2 m2 d2, e = .returned (.tuple #[.agg #[.slice b1 m1 d1, .slice b2 m2 d2], .int .i64 (cfgI c)]) ∧ m1 ≤ 200 ∧ m2 ≤ 200 ∧ Lst w' b1 m1 d1 (startL c) ∧ Lst w' b2 m2 d2 (zeroL0 c) ∧ Below w.heap.size w w' := by
  have lb0 := LawBox.start w c (.slice none 0 0) (.slice none 0 0)
  have HC : Hid (∀ q, Calls Tryz.prog 32 #[c.val] q fun e w' => e = .returned (.int .i64 (cfgI c)) ∧ Below q.heap.size q w') := fun q => ocheck_calls c q
  cases hc : cfgB c with
  | false =>
    unfold startL zeroL0
    rw [hc, if_neg (by decide), if_neg (by decide)]
    rw [cfgI_no hc] at HC ⊢
    clear hc hs
    obtain ⟨i, h, o, seed, batch, steps, crate, decay, how, keep, clip⟩ := c
    simp only [Cfg.val, Cfg.cells] at *
    go_enter Tryz.func35, Tryz.ntmps35
    go_wp2_with fail
    refine (HC.out _).mono ?_
    rintro e w1 ⟨rfl, hw1⟩
    have lb1 := lb0.below hw1
    clear hw1 lb0
    have ⟨_, hr1, hb1⟩ := lb1
    obtain ⟨r0, r1⟩ := fn2_cells hr1
    have f0 := hr1.frozen 0
    have f1 := hr1.frozen 1
    go_wp2_with fail
    obtain ⟨q0, q1⟩ := fn2_cells (fn2_set hr1 (.slice none 0 0) (.slice none 0 0))
    exact bodyPost_ret (v := .tuple #[.agg #[.slice none 0 0, .slice none 0 0], .int .i64 1]) (by simp [results, Tryz.results35, go_sem, q0, q1]) rfl ⟨none, 0, 0, none, 0, 0, rfl, by omega, by omega, Lst.nil _ _ _, Lst.nil _ _ _, (hb1.setCell (show w.heap.size ≤ w.heap.size + 1 by omega) _).setCell (show w.heap.size ≤ w.heap.size + 1 by omega) _⟩
  | true =>
    have hz := sizeN_bd hc
    obtain ⟨N, hN⟩ := Int.eq_ofNat_of_zero_le (show 0 ≤ sizeN c by omega)
    have hNt : (sizeN c).toNat = N := by rw [hN]; rfl
    have HS : Hid (∀ q, Calls Tryz.prog 20 #[c.val] q fun e w' => ∃ ga gb, e = .returned (.agg #[.slice (some ⟨ga, 0, none⟩) N N, .slice (some ⟨gb, 0, none⟩) N N]) ∧ q.heap.size ≤ ga ∧ q.heap.size ≤ gb ∧ Lst w' (some ⟨ga, 0, none⟩) N N (startL c) ∧ Lst w' (some ⟨gb, 0, none⟩) N N (zeroL0 c) ∧ Below q.heap.size q w') := fun q => by
      unfold startL zeroL0
      rw [if_pos hc, if_pos hc, hNt]
      exact tstart_calls c hc hs N hN.symm q
    rw [cfgI_yes hc] at HC ⊢
    generalize startL c = SL at *
    generalize zeroL0 c = ZL at *
    have hN200 : N ≤ 200 := by omega
    clear hc hs hz hN hNt
    obtain ⟨i, h, o, seed, batch, steps, crate, decay, how, keep, clip⟩ := c
    simp only [Cfg.val, Cfg.cells] at *
    go_enter Tryz.func35, Tryz.ntmps35
    go_wp2_with fail
    refine (HC.out _).mono ?_
    rintro e w1 ⟨rfl, hw1⟩
    have lb1 := lb0.below hw1
    clear hw1 lb0
    have ⟨⟨c0, c1, c2, c3, c4, c5, c6, c7, c8, c9, c10⟩, _, _⟩ := lb1
    dsimp only at c0 c1 c2 c3 c4 c5 c6 c7 c8 c9 c10
    go_wp2_with fail
    refine (HS.out _).mono ?_
    rintro e w2 ⟨ga, gb, rfl, hga, hgb, l1, l2, hw2⟩
    have lb2 := lb1.below hw2
    have hlt := lb1.st.lt
    clear hw2 lb1 c0 c1 c2 c3 c4 c5 c6 c7 c8 c9 c10
    have ⟨_, hr1, hb1⟩ := lb2
    obtain ⟨r0, r1⟩ := fn2_cells hr1
    have f0 := hr1.frozen 0
    have f1 := hr1.frozen 1
    go_wp2_with fail
    obtain ⟨q0, q1⟩ := fn2_cells (fn2_set hr1 (.slice (some ⟨ga, 0, none⟩) N N) (.slice (some ⟨gb, 0, none⟩) N N))
    exact bodyPost_ret (v := .tuple #[.agg #[.slice (some ⟨ga, 0, none⟩) N N, .slice (some ⟨gb, 0, none⟩) N N], .int .i64 0]) (by simp [results, Tryz.results35, go_sem, q0, q1]) rfl ⟨some ⟨ga, 0, none⟩, N, N, some ⟨gb, 0, none⟩, N, N, rfl, hN200, hN200, (l1.setFar (show ga ≠ w.heap.size + 1 by omega) _).setFar (show ga ≠ w.heap.size + 1 by omega) _, (l2.setFar (show gb ≠ w.heap.size + 1 by omega) _).setFar (show gb ≠ w.heap.size + 1 by omega) _, (hb1.setCell (show w.heap.size ≤ w.heap.size + 1 by omega) _).setCell (show w.heap.size ≤ w.heap.size + 1 by omega) _⟩

def nextE (c : Cfg) (n : Nat) (X : Nat → Exm) (DI DO : Nat → List Int) (n1 : Nat) (ws : List Int) (n2 : Nat) (ms : List Int) (step : Int) : Int :=
  if courseI c n X DI DO = 0 then (if (fitB c n1 ws && fitB c n2 ms) = true then (if inB step 0 (c.steps - 1) = true then 0 else 1) else 5) else courseI c n X DI DO
def nxW (c : Cfg) (n : Nat) (X : Nat → Exm) (DI DO : Nat → List Int) (n1 : Nat) (ws : List Int) (n2 : Nat) (ms : List Int) (step : Int) : List Int := if nextE c n X DI DO n1 ws n2 ms step = 0 then nextW c n ws ms DI DO step n1 else []
def nxM (c : Cfg) (n : Nat) (X : Nat → Exm) (DI DO : Nat → List Int) (n1 : Nat) (ws : List Int) (n2 : Nat) (ms : List Int) (step : Int) : List Int := if nextE c n X DI DO n1 ws n2 ms step = 0 then nextM c n ws ms DI DO step n1 else []
def nxB (c : Cfg) (n : Nat) (X : Nat → Exm) (DI DO : Nat → List Int) (n1 : Nat) (ws : List Int) (n2 : Nat) (ms : List Int) (step : Int) : List Int := if nextE c n X DI DO n1 ws n2 ms step = 0 then batchP c.seed c.batch.toNat n (step.toNat * c.batch.toNat) else []
def nxR (c : Cfg) (n : Nat) (X : Nat → Exm) (DI DO : Nat → List Int) (n1 : Nat) (ws : List Int) (n2 : Nat) (ms : List Int) (step : Int) : Int := if nextE c n X DI DO n1 ws n2 ms step = 0 then rateV c step else 0

/-- What is told where something is wrong. -/
theorem nx_none {c : Cfg} {n : Nat} {X : Nat → Exm} {DI DO : Nat → List Int} {n1 : Nat} {ws : List Int} {n2 : Nat} {ms : List Int} {step : Int} {a : Array Value} {w : World} {E : Int} (hE : nextE c n X DI DO n1 ws n2 ms step = E) (h0 : E ≠ 0) (h : Calls Tryz.prog 36 a w fun e w' => e = .returned (.tuple #[.agg #[.slice none 0 0, .slice none 0 0], .slice none 0 0, .int .i64 0, .int .i64 E]) ∧ Below w.heap.size w w') :
    Calls Tryz.prog 36 a w fun e w' => ∃ b1 m1 d1 b2 m2 d2 a3 m3 d3, e = .returned (.tuple #[.agg #[.slice b1 m1 d1, .slice b2 m2 d2], .slice a3 m3 d3, .int .i64 (nxR c n X DI DO n1 ws n2 ms step), .int .i64 (nextE c n X DI DO n1 ws n2 ms step)]) ∧ m1 ≤ 200 ∧ m2 ≤ 200 ∧ m3 ≤ 200 ∧ Lst w' b1 m1 d1 (nxW c n X DI DO n1 ws n2 ms step) ∧ Lst w' b2 m2 d2 (nxM c n X DI DO n1 ws n2 ms step) ∧ Lst w' a3 m3 d3 (nxB c n X DI DO n1 ws n2 ms step) ∧ Below w.heap.size w w' := by
  refine h.mono ?_
  rintro e w' ⟨rfl, hb⟩
  unfold nxR nxW nxM nxB
  rw [hE, if_neg h0, if_neg h0, if_neg h0, if_neg h0]
  exact ⟨none, 0, 0, none, 0, 0, none, 0, 0, rfl, by omega, by omega, by omega, Lst.nil _ _ _, Lst.nil _ _ _, Lst.nil _ _ _, hb⟩

set_option maxHeartbeats 1600000 in
theorem tNext_c (c : Cfg) (a : Option Addr) (n cap : Nat) (a1 : Option Addr) (n1 k1 : Nat) (a2 : Option Addr) (n2 k2 : Nat) (step E : Int) (w : World) (hE : E ≠ 0) (HC : Hid (∀ q, Below w.heap.size w q → Calls Tryz.prog 17 #[c.val, .slice a n cap] q fun e w' => e = .returned (.int .i64 E) ∧ Below q.heap.size q w')) :
    Calls Tryz.prog 36 #[c.val, .slice a n cap, .agg #[.slice a1 n1 k1, .slice a2 n2 k2], .int .i64 step] w fun e w' => e = .returned (.tuple #[.agg #[.slice none 0 0, .slice none 0 0], .slice none 0 0, .int .i64 0, .int .i64 E]) ∧ Below w.heap.size w w' := by
  have sb0 := StBox.start w c (.slice a1 n1 k1) (.slice a2 n2 k2)
  have hne : (E != 0) = true := by rw [bne_iff_ne]; exact hE
  have CK := HC.out _ sb0.bel
  clear hE HC
  obtain ⟨i, h, o, seed, batch, steps, crate, decay, how, keep, clip⟩ := c
  simp only [Cfg.val, Cfg.cells] at *
  go_enter Tryz.func36, Tryz.ntmps36
  go_wp2_with fail
  refine CK.mono ?_
  rintro e w1 ⟨rfl, hw1⟩
  have sb1 := sb0.below hw1
  clear hw1 sb0 CK
  have hr1 := sb1.res
  have hb1 := sb1.bel
  obtain ⟨r0, r1⟩ := fn2_cells hr1
  have f0 := hr1.frozen 0
  have f1 := hr1.frozen 1
  go_wp2_with fail
  obtain ⟨q0, q1⟩ := fn2_cells (fn2_set hr1 (.slice none 0 0) (.slice none 0 0))
  exact bodyPost_ret (v := .tuple #[.agg #[.slice none 0 0, .slice none 0 0], .slice none 0 0, .int .i64 0, .int .i64 E]) (by simp [results, Tryz.results36, go_sem, q0, q1]) rfl ⟨rfl, (hb1.setCell (show w.heap.size ≤ w.heap.size + 1 + 1 by omega) _).setCell (show w.heap.size ≤ w.heap.size + 1 + 1 by omega) _⟩

set_option maxRecDepth 100000 in
set_option maxHeartbeats 3200000 in
theorem tNext_w (c : Cfg) (hc : cfgB c = true) (a : Option Addr) (n cap : Nat) (a1 : Option Addr) (n1 k1 : Nat) (ws : List Int) (a2 : Option Addr) (n2 k2 : Nat) (ms : List Int) (step : Int) (w : World) (l1 : Lst w a1 n1 k1 ws) (_ : Lst w a2 n2 k2 ms) (HC : Hid (∀ q, Below w.heap.size w q → Calls Tryz.prog 17 #[c.val, .slice a n cap] q fun e w' => e = .returned (.int .i64 0) ∧ Below q.heap.size q w')) (f1 : fitB c n1 ws = false) :
    Calls Tryz.prog 36 #[c.val, .slice a n cap, .agg #[.slice a1 n1 k1, .slice a2 n2 k2], .int .i64 step] w fun e w' => e = .returned (.tuple #[.agg #[.slice none 0 0, .slice none 0 0], .slice none 0 0, .int .i64 0, .int .i64 5]) ∧ Below w.heap.size w w' := by
  have sb0 := StBox.start w c (.slice a1 n1 k1) (.slice a2 n2 k2)
  have CK := HC.out _ sb0.bel
  have hz := sizeN_bd hc
  have HN : Hid (∀ q, Calls Tryz.prog 38 #[c.val] q fun e w' => e = .returned (.int .i64 (sizeN c)) ∧ w' = q.alloc (.cells c.cells 24)) := fun q => tcount_calls c hc q
  have HI1 : Hid (∀ q, Below w.heap.size w q → Calls Tryz.prog 33 #[.slice a1 n1 k1, .int .i64 (sizeN c)] q fun e w' => e = .returned (.bool false) ∧ w' = q) := fun q hq => by
    have := isList_calls a1 n1 k1 ws (sizeN c) q (l1.below hq (Nat.le_refl _)) (by omega)
    rw [show (decide ((n1 : Int) = sizeN c) && rightB ws) = false from f1] at this
    exact this
  generalize sizeN c = Z at *
  clear HC l1 f1 hc hz
  obtain ⟨i, h, o, seed, batch, steps, crate, decay, how, keep, clip⟩ := c
  simp only [Cfg.val, Cfg.cells] at *
  go_enter Tryz.func36, Tryz.ntmps36
  go_wp2_with fail
  refine CK.mono ?_
  rintro e w1 ⟨rfl, hw1⟩
  have sb1 := sb0.below hw1
  clear hw1 sb0 CK
  have KS : Hid (∀ q, Below w1.heap.size w1 q → q.cell? ⟨w.heap.size, 0, none⟩ = some (.int .i64 i) ∧ q.cell? ⟨w.heap.size, 1, none⟩ = some (.int .i64 h) ∧ q.cell? ⟨w.heap.size, 2, none⟩ = some (.int .i64 o) ∧ q.cell? ⟨w.heap.size, 3, none⟩ = some (.int .u64 seed) ∧ q.cell? ⟨w.heap.size, 4, none⟩ = some (.int .i64 batch) ∧ q.cell? ⟨w.heap.size, 5, none⟩ = some (.int .i64 steps) ∧ q.cell? ⟨w.heap.size, 6, none⟩ = some (.int .i64 crate) ∧ q.cell? ⟨w.heap.size, 7, none⟩ = some (.int .i64 decay) ∧ q.cell? ⟨w.heap.size, 8, none⟩ = some (.int .i64 how) ∧ q.cell? ⟨w.heap.size, 9, none⟩ = some (.int .i64 keep) ∧ q.cell? ⟨w.heap.size, 10, none⟩ = some (.int .i64 clip) ∧ q.cell? ⟨w.heap.size + 1, 0, none⟩ = some (.slice a1 n1 k1) ∧ q.cell? ⟨w.heap.size + 1, 1, none⟩ = some (.slice a2 n2 k2)) := fun q hq => by
    have sq := sb1.below hq
    obtain ⟨x0, x1, x2, x3, x4, x5, x6, x7, x8, x9, x10⟩ := sq.cfg
    exact ⟨x0, x1, x2, x3, x4, x5, x6, x7, x8, x9, x10, (fn2_cells sq.st).1, (fn2_cells sq.st).2⟩
  have KW : Hid (∀ q, Below w1.heap.size w1 q → Below w.heap.size w q) := fun q hq => (sb1.below hq).bel
  have T0 : Below w1.heap.size w1 w1 := Below.refl _ _
  have T1 : Below w1.heap.size w1 (w1.alloc (.cells #[.int .i64 i, .int .i64 h, .int .i64 o, .int .u64 seed, .int .i64 batch, .int .i64 steps, .int .i64 crate, .int .i64 decay, .int .i64 how, .int .i64 keep, .int .i64 clip] 24)) := T0.alloc T0.size _
  have T2 : Below w1.heap.size w1 ((w1.alloc (.cells #[.int .i64 i, .int .i64 h, .int .i64 o, .int .u64 seed, .int .i64 batch, .int .i64 steps, .int .i64 crate, .int .i64 decay, .int .i64 how, .int .i64 keep, .int .i64 clip] 24)).alloc (.cells #[.int .i64 i, .int .i64 h, .int .i64 o, .int .u64 seed, .int .i64 batch, .int .i64 steps, .int .i64 crate, .int .i64 decay, .int .i64 how, .int .i64 keep, .int .i64 clip] 24)) := T1.alloc T1.size _
  obtain ⟨c0, c1, c2, c3, c4, c5, c6, c7, c8, c9, c10, s0, s1⟩ := KS.out _ T0
  obtain ⟨d0, d1, d2, d3, d4, d5, d6, d7, d8, d9, d10, t0, t1⟩ := KS.out _ T1
  go_wp2_with fail
  first | (go_region_with ((first | (go_at_call 38; refine (HN.out _).mono ?_; rintro e w' ⟨rfl, rfl⟩) | (go_at_call 33; refine (HI1.out _ (KW.out _ (Below.drew T1))).mono ?_; rintro e w' ⟨rfl, rfl⟩)))) | fail
  all_goals
    have hr1 := (sb1.below T1).res
    have hb1 := (sb1.below T1).bel
    obtain ⟨r0, r1⟩ := fn2_cells hr1
    have f0 := hr1.frozen 0
    have f1 := hr1.frozen 1
    go_wp2_with fail
    obtain ⟨q0, q1⟩ := fn2_cells (fn2_set hr1 (.slice none 0 0) (.slice none 0 0))
    exact bodyPost_ret (v := .tuple #[.agg #[.slice none 0 0, .slice none 0 0], .slice none 0 0, .int .i64 0, .int .i64 5]) (by simp [results, Tryz.results36, go_sem, q0, q1]) rfl ⟨rfl, Below.drew ((hb1.setCell (show w.heap.size ≤ w.heap.size + 1 + 1 by omega) _).setCell (show w.heap.size ≤ w.heap.size + 1 + 1 by omega) _)⟩
end Go.Proofs.YtkikhfdkibekgaaGreat.Fx
