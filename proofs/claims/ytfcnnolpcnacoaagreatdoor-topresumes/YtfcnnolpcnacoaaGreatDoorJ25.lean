/- What train.Next returns, whatever is handed in: the rest of its ways. -/
import Derived.Test.YtfcnnolpcnacoaaGreatDoorJ24
namespace Go.Proofs.YtfcnnolpcnacoaaGreatDoor.Fx
open Go.RowKit

set_option maxRecDepth 100000 in
set_option maxHeartbeats 3200000 in
theorem tNext_m (c : Cfg) (hc : cfgB c = true) (a : Option Addr) (n cap : Nat) (a1 : Option Addr) (n1 k1 : Nat) (ws : List Int) (a2 : Option Addr) (n2 k2 : Nat) (ms : List Int) (step : Int) (w : World) (l1 : Lst w a1 n1 k1 ws) (l2 : Lst w a2 n2 k2 ms) (HC : Hid (∀ q, Below w.heap.size w q → Calls Tryz.prog 19 #[c.val, .slice a n cap] q fun e w' => e = .returned (.int .i64 0) ∧ Below q.heap.size q w')) (f1 : fitB c n1 ws = true) (f2 : fitB c n2 ms = false) :
    Calls Tryz.prog 34 #[c.val, .slice a n cap, .agg #[.slice a1 n1 k1, .slice a2 n2 k2], .int .i64 step] w fun e w' => e = .returned (.tuple #[.agg #[.slice none 0 0, .slice none 0 0], .slice none 0 0, .int .i64 0, .int .i64 5]) ∧ Below w.heap.size w w' := by
  have sb0 := StBox.start w c (.slice a1 n1 k1) (.slice a2 n2 k2)
  have CK := HC.out _ sb0.bel
  have hz := sizeN_bd hc
  have HN : Hid (∀ q, Calls Tryz.prog 49 #[c.val] q fun e w' => e = .returned (.int .i64 (sizeN c)) ∧ w' = q.alloc (.cells c.cells 24)) := fun q => tcount_calls c hc q
  have HI1 : Hid (∀ q, Below w.heap.size w q → Calls Tryz.prog 31 #[.slice a1 n1 k1, .int .i64 (sizeN c)] q fun e w' => e = .returned (.bool true) ∧ w' = q) := fun q hq => by
    have := isList_calls a1 n1 k1 ws (sizeN c) q (l1.below hq (Nat.le_refl _)) (by omega)
    rw [show (decide ((n1 : Int) = sizeN c) && rightB ws) = true from f1] at this
    exact this
  have HI2 : Hid (∀ q, Below w.heap.size w q → Calls Tryz.prog 31 #[.slice a2 n2 k2, .int .i64 (sizeN c)] q fun e w' => e = .returned (.bool false) ∧ w' = q) := fun q hq => by
    have := isList_calls a2 n2 k2 ms (sizeN c) q (l2.below hq (Nat.le_refl _)) (by omega)
    rw [show (decide ((n2 : Int) = sizeN c) && rightB ms) = false from f2] at this
    exact this
  generalize sizeN c = Z at *
  clear HC l1 l2 f1 f2 hc hz
  obtain ⟨i, h, o, seed, batch, steps, crate, decay, how, keep, clip⟩ := c
  simp only [Cfg.val, Cfg.cells] at *
  go_enter Tryz.func34, Tryz.ntmps34
  go_wp2_with fail
  refine CK.mono ?_
  rintro e w1 ⟨rfl, hw1⟩
  have sb1 := sb0.below hw1
  clear hw1 sb0 CK
  have KS : Hid (∀ q, Below w1.heap.size w1 q → q.cell? ⟨w.heap.size, 0, none⟩ = some (.int .i64 i) ∧ q.cell? ⟨w.heap.size, 1, none⟩ = some (.int .i64 h) ∧ q.cell? ⟨w.heap.size, 2, none⟩ = some (.int .i64 o) ∧ q.cell? ⟨w.heap.size, 3, none⟩ = some (.int .u64 seed) ∧ q.cell? ⟨w.heap.size, 4, none⟩ = some (.int .i64 batch) ∧ q.cell? ⟨w.heap.size, 5, none⟩ = some (.int .i64 steps) ∧ q.cell? ⟨w.heap.size, 6, none⟩ = some (.int .i64 crate) ∧ q.cell? ⟨w.heap.size, 7, none⟩ = some (.int .i64 decay) ∧ q.cell? ⟨w.heap.size, 8, none⟩ = some (.int .i64 how) ∧ q.cell? ⟨w.heap.size, 9, none⟩ = some (.int .i64 keep) ∧ q.cell? ⟨w.heap.size, 10, none⟩ = some (.int .i64 clip) ∧ q.cell? ⟨w.heap.size + 1, 0, none⟩ = some (.slice a1 n1 k1) ∧ q.cell? ⟨w.heap.size + 1, 1, none⟩ = some (.slice a2 n2 k2)) := fun q hq => by
    have sq := sb1.below hq
    obtain ⟨x0, x1, x2, x3, x4, x5, x6, x7, x8, x9, x10⟩ := sq.cfg
    exact ⟨x0, x1, x2, x3, x4, x5, x6, x7, x8, x9, x10, (fn2_cells sq.st).1, (fn2_cells sq.st).2⟩
  have KW : Hid (∀ q, Below w1.heap.size w1 q → Below w.heap.size w q) := fun q hq => (sb1.below hq).bel
  have T0 : Below w1.heap.size w1 w1 := Below.refl _ _
  have T1 : Below w1.heap.size w1 (w1.alloc (.cells #[.int .i64 i, .int .i64 h, .int .i64 o, .int .u64 seed, .int .i64 batch, .int .i64 steps, .int .i64 crate, .int .i64 decay, .int .i64 how, .int .i64 keep, .int .i64 clip] 24)) := T0.alloc T0.size _
  have T2 : Below w1.heap.size w1 ((w1.alloc (.cells #[.int .i64 i, .int .i64 h, .int .i64 o, .int .u64 seed, .int .i64 batch, .int .i64 steps, .int .i64 crate, .int .i64 decay, .int .i64 how, .int .i64 keep, .int .i64 clip] 24)).alloc (.cells #[.int .i64 i, .int .i64 h, .int .i64 o, .int .u64 seed, .int .i64 batch, .int .i64 steps, .int .i64 crate, .int .i64 decay, .int .i64 how, .int .i64 keep, .int .i64 clip] 24)) := T1.alloc T1.size _
  obtain ⟨c0, c1, c2, c3, c4, c5, c6, c7, c8, c9, c10, s0, s1⟩ := KS.out _ T0
  obtain ⟨d0, d1, d2, d3, d4, d5, d6, d7, d8, d9, d10, t0, t1⟩ := KS.out _ T1
  go_wp2_with fail
  have S0 := KS.out _ (Below.drew T0)
  have S1 := KS.out _ (Below.drew T1)
  have S2 := KS.out _ (Below.drew T2)
  go_region_held3 (fun q => q.cell? ⟨w.heap.size, 0, none⟩ = some (.int .i64 i) ∧ q.cell? ⟨w.heap.size, 1, none⟩ = some (.int .i64 h) ∧ q.cell? ⟨w.heap.size, 2, none⟩ = some (.int .i64 o) ∧ q.cell? ⟨w.heap.size, 3, none⟩ = some (.int .u64 seed) ∧ q.cell? ⟨w.heap.size, 4, none⟩ = some (.int .i64 batch) ∧ q.cell? ⟨w.heap.size, 5, none⟩ = some (.int .i64 steps) ∧ q.cell? ⟨w.heap.size, 6, none⟩ = some (.int .i64 crate) ∧ q.cell? ⟨w.heap.size, 7, none⟩ = some (.int .i64 decay) ∧ q.cell? ⟨w.heap.size, 8, none⟩ = some (.int .i64 how) ∧ q.cell? ⟨w.heap.size, 9, none⟩ = some (.int .i64 keep) ∧ q.cell? ⟨w.heap.size, 10, none⟩ = some (.int .i64 clip) ∧ q.cell? ⟨w.heap.size + 1, 0, none⟩ = some (.slice a1 n1 k1) ∧ q.cell? ⟨w.heap.size + 1, 1, none⟩ = some (.slice a2 n2 k2)) (first | with_reducible exact S0 | with_reducible exact S1 | with_reducible exact S2)
    (first | (go_at_call 49; refine (HN.out _).mono ?_; rintro e w' ⟨rfl, rfl⟩) | (go_at_call_of 31 (Value.slice a1 n1 k1); refine (HI1.out _ (KW.out _ (Below.drew T1))).mono ?_; rintro e w' ⟨rfl, rfl⟩) | (go_at_call_of 31 (Value.slice a2 n2 k2); refine (HI2.out _ (KW.out _ (Below.drew T2))).mono ?_; rintro e w' ⟨rfl, rfl⟩))
  have T3 := Below.drew T2
  clear S0 S1 S2 c0 c1 c2 c3 c4 c5 c6 c7 c8 c9 c10 s0 s1 d0 d1 d2 d3 d4 d5 d6 d7 d8 d9 d10 t0 t1 T0 T1 T2 HN HI1 HI2
  generalize ((w1.alloc (.cells #[.int .i64 i, .int .i64 h, .int .i64 o, .int .u64 seed, .int .i64 batch, .int .i64 steps, .int .i64 crate, .int .i64 decay, .int .i64 how, .int .i64 keep, .int .i64 clip] 24)).alloc (.cells #[.int .i64 i, .int .i64 h, .int .i64 o, .int .u64 seed, .int .i64 batch, .int .i64 steps, .int .i64 crate, .int .i64 decay, .int .i64 how, .int .i64 keep, .int .i64 clip] 24)).drew = w2 at T3 ⊢
  have sb2 := sb1.below T3
  have hr1 := sb2.res
  have hb1 := sb2.bel
  obtain ⟨r0, r1⟩ := fn2_cells hr1
  have f0 := hr1.frozen 0
  have f1 := hr1.frozen 1
  obtain ⟨c0, c1, c2, c3, c4, c5, c6, c7, c8, c9, c10, s0, s1⟩ := KS.out _ T3
  go_wp2_with fail
  obtain ⟨q0, q1⟩ := fn2_cells (fn2_set hr1 (.slice none 0 0) (.slice none 0 0))
  exact bodyPost_ret (v := .tuple #[.agg #[.slice none 0 0, .slice none 0 0], .slice none 0 0, .int .i64 0, .int .i64 5]) (by simp [results, Tryz.results34, go_sem, q0, q1]) rfl ⟨rfl, (hb1.setCell (show w.heap.size ≤ w.heap.size + 1 + 1 by omega) _).setCell (show w.heap.size ≤ w.heap.size + 1 + 1 by omega) _⟩

set_option maxRecDepth 100000 in
set_option maxHeartbeats 3200000 in
theorem tNext_r (c : Cfg) (hc : cfgB c = true) (a : Option Addr) (n cap : Nat) (a1 : Option Addr) (n1 k1 : Nat) (ws : List Int) (a2 : Option Addr) (n2 k2 : Nat) (ms : List Int) (step : Int) (w : World) (l1 : Lst w a1 n1 k1 ws) (l2 : Lst w a2 n2 k2 ms) (HC : Hid (∀ q, Below w.heap.size w q → Calls Tryz.prog 19 #[c.val, .slice a n cap] q fun e w' => e = .returned (.int .i64 0) ∧ Below q.heap.size q w')) (f1 : fitB c n1 ws = true) (f2 : fitB c n2 ms = true) (hst : inB step 0 (c.steps - 1) = false) :
    Calls Tryz.prog 34 #[c.val, .slice a n cap, .agg #[.slice a1 n1 k1, .slice a2 n2 k2], .int .i64 step] w fun e w' => e = .returned (.tuple #[.agg #[.slice none 0 0, .slice none 0 0], .slice none 0 0, .int .i64 0, .int .i64 1]) ∧ Below w.heap.size w w' := by
  have hlow : ¬ (0 ≤ step ∧ step ≤ c.steps - 1) := fun g => by rw [in_yes g] at hst; cases hst
  clear hst
  have sb0 := StBox.start w c (.slice a1 n1 k1) (.slice a2 n2 k2)
  have CK := HC.out _ sb0.bel
  have hz := sizeN_bd hc
  have HN : Hid (∀ q, Calls Tryz.prog 49 #[c.val] q fun e w' => e = .returned (.int .i64 (sizeN c)) ∧ w' = q.alloc (.cells c.cells 24)) := fun q => tcount_calls c hc q
  have HI1 : Hid (∀ q, Below w.heap.size w q → Calls Tryz.prog 31 #[.slice a1 n1 k1, .int .i64 (sizeN c)] q fun e w' => e = .returned (.bool true) ∧ w' = q) := fun q hq => by
    have := isList_calls a1 n1 k1 ws (sizeN c) q (l1.below hq (Nat.le_refl _)) (by omega)
    rw [show (decide ((n1 : Int) = sizeN c) && rightB ws) = true from f1] at this
    exact this
  have HI2 : Hid (∀ q, Below w.heap.size w q → Calls Tryz.prog 31 #[.slice a2 n2 k2, .int .i64 (sizeN c)] q fun e w' => e = .returned (.bool true) ∧ w' = q) := fun q hq => by
    have := isList_calls a2 n2 k2 ms (sizeN c) q (l2.below hq (Nat.le_refl _)) (by omega)
    rw [show (decide ((n2 : Int) = sizeN c) && rightB ms) = true from f2] at this
    exact this
  generalize sizeN c = Z at *
  clear HC l1 l2 f1 f2 hc hz
  obtain ⟨i, h, o, seed, batch, steps, crate, decay, how, keep, clip⟩ := c
  simp only [Cfg.val, Cfg.cells] at *
  go_enter Tryz.func34, Tryz.ntmps34
  go_wp2_with fail
  refine CK.mono ?_
  rintro e w1 ⟨rfl, hw1⟩
  have sb1 := sb0.below hw1
  clear hw1 sb0 CK
  have KS : Hid (∀ q, Below w1.heap.size w1 q → q.cell? ⟨w.heap.size, 0, none⟩ = some (.int .i64 i) ∧ q.cell? ⟨w.heap.size, 1, none⟩ = some (.int .i64 h) ∧ q.cell? ⟨w.heap.size, 2, none⟩ = some (.int .i64 o) ∧ q.cell? ⟨w.heap.size, 3, none⟩ = some (.int .u64 seed) ∧ q.cell? ⟨w.heap.size, 4, none⟩ = some (.int .i64 batch) ∧ q.cell? ⟨w.heap.size, 5, none⟩ = some (.int .i64 steps) ∧ q.cell? ⟨w.heap.size, 6, none⟩ = some (.int .i64 crate) ∧ q.cell? ⟨w.heap.size, 7, none⟩ = some (.int .i64 decay) ∧ q.cell? ⟨w.heap.size, 8, none⟩ = some (.int .i64 how) ∧ q.cell? ⟨w.heap.size, 9, none⟩ = some (.int .i64 keep) ∧ q.cell? ⟨w.heap.size, 10, none⟩ = some (.int .i64 clip) ∧ q.cell? ⟨w.heap.size + 1, 0, none⟩ = some (.slice a1 n1 k1) ∧ q.cell? ⟨w.heap.size + 1, 1, none⟩ = some (.slice a2 n2 k2)) := fun q hq => by
    have sq := sb1.below hq
    obtain ⟨x0, x1, x2, x3, x4, x5, x6, x7, x8, x9, x10⟩ := sq.cfg
    exact ⟨x0, x1, x2, x3, x4, x5, x6, x7, x8, x9, x10, (fn2_cells sq.st).1, (fn2_cells sq.st).2⟩
  have KW : Hid (∀ q, Below w1.heap.size w1 q → Below w.heap.size w q) := fun q hq => (sb1.below hq).bel
  have T0 : Below w1.heap.size w1 w1 := Below.refl _ _
  have T1 : Below w1.heap.size w1 (w1.alloc (.cells #[.int .i64 i, .int .i64 h, .int .i64 o, .int .u64 seed, .int .i64 batch, .int .i64 steps, .int .i64 crate, .int .i64 decay, .int .i64 how, .int .i64 keep, .int .i64 clip] 24)) := T0.alloc T0.size _
  have T2 : Below w1.heap.size w1 ((w1.alloc (.cells #[.int .i64 i, .int .i64 h, .int .i64 o, .int .u64 seed, .int .i64 batch, .int .i64 steps, .int .i64 crate, .int .i64 decay, .int .i64 how, .int .i64 keep, .int .i64 clip] 24)).alloc (.cells #[.int .i64 i, .int .i64 h, .int .i64 o, .int .u64 seed, .int .i64 batch, .int .i64 steps, .int .i64 crate, .int .i64 decay, .int .i64 how, .int .i64 keep, .int .i64 clip] 24)) := T1.alloc T1.size _
  obtain ⟨c0, c1, c2, c3, c4, c5, c6, c7, c8, c9, c10, s0, s1⟩ := KS.out _ T0
  obtain ⟨d0, d1, d2, d3, d4, d5, d6, d7, d8, d9, d10, t0, t1⟩ := KS.out _ T1
  go_wp2_with fail
  have S0 := KS.out _ (Below.drew T0)
  have S1 := KS.out _ (Below.drew T1)
  have S2 := KS.out _ (Below.drew T2)
  go_region_held3 (fun q => q.cell? ⟨w.heap.size, 0, none⟩ = some (.int .i64 i) ∧ q.cell? ⟨w.heap.size, 1, none⟩ = some (.int .i64 h) ∧ q.cell? ⟨w.heap.size, 2, none⟩ = some (.int .i64 o) ∧ q.cell? ⟨w.heap.size, 3, none⟩ = some (.int .u64 seed) ∧ q.cell? ⟨w.heap.size, 4, none⟩ = some (.int .i64 batch) ∧ q.cell? ⟨w.heap.size, 5, none⟩ = some (.int .i64 steps) ∧ q.cell? ⟨w.heap.size, 6, none⟩ = some (.int .i64 crate) ∧ q.cell? ⟨w.heap.size, 7, none⟩ = some (.int .i64 decay) ∧ q.cell? ⟨w.heap.size, 8, none⟩ = some (.int .i64 how) ∧ q.cell? ⟨w.heap.size, 9, none⟩ = some (.int .i64 keep) ∧ q.cell? ⟨w.heap.size, 10, none⟩ = some (.int .i64 clip) ∧ q.cell? ⟨w.heap.size + 1, 0, none⟩ = some (.slice a1 n1 k1) ∧ q.cell? ⟨w.heap.size + 1, 1, none⟩ = some (.slice a2 n2 k2)) (first | with_reducible exact S0 | with_reducible exact S1 | with_reducible exact S2)
    (first | (go_at_call 49; refine (HN.out _).mono ?_; rintro e w' ⟨rfl, rfl⟩) | (go_at_call_of 31 (Value.slice a1 n1 k1); refine (HI1.out _ (KW.out _ (Below.drew T1))).mono ?_; rintro e w' ⟨rfl, rfl⟩) | (go_at_call_of 31 (Value.slice a2 n2 k2); refine (HI2.out _ (KW.out _ (Below.drew T2))).mono ?_; rintro e w' ⟨rfl, rfl⟩))
  have T3 := Below.drew T2
  clear S0 S1 S2 c0 c1 c2 c3 c4 c5 c6 c7 c8 c9 c10 s0 s1 d0 d1 d2 d3 d4 d5 d6 d7 d8 d9 d10 t0 t1 T0 T1 T2 HN HI1 HI2
  generalize ((w1.alloc (.cells #[.int .i64 i, .int .i64 h, .int .i64 o, .int .u64 seed, .int .i64 batch, .int .i64 steps, .int .i64 crate, .int .i64 decay, .int .i64 how, .int .i64 keep, .int .i64 clip] 24)).alloc (.cells #[.int .i64 i, .int .i64 h, .int .i64 o, .int .u64 seed, .int .i64 batch, .int .i64 steps, .int .i64 crate, .int .i64 decay, .int .i64 how, .int .i64 keep, .int .i64 clip] 24)).drew = w2 at T3 ⊢
  have sb2 := sb1.below T3
  have hr1 := sb2.res
  have hb1 := sb2.bel
  obtain ⟨r0, r1⟩ := fn2_cells hr1
  have f0 := hr1.frozen 0
  have f1 := hr1.frozen 1
  obtain ⟨c0, c1, c2, c3, c4, c5, c6, c7, c8, c9, c10, s0, s1⟩ := KS.out _ T3
  by_cases hn : step < 0
  · skip
    go_wp2_with fail
    obtain ⟨q0, q1⟩ := fn2_cells (fn2_set hr1 (.slice none 0 0) (.slice none 0 0))
    exact bodyPost_ret (v := .tuple #[.agg #[.slice none 0 0, .slice none 0 0], .slice none 0 0, .int .i64 0, .int .i64 1]) (by simp [results, Tryz.results34, go_sem, q0, q1]) rfl ⟨rfl, (hb1.setCell (show w.heap.size ≤ w.heap.size + 1 + 1 by omega) _).setCell (show w.heap.size ≤ w.heap.size + 1 + 1 by omega) _⟩
  · have hge : steps ≤ step := by omega
    go_wp2_with fail
    obtain ⟨q0, q1⟩ := fn2_cells (fn2_set hr1 (.slice none 0 0) (.slice none 0 0))
    exact bodyPost_ret (v := .tuple #[.agg #[.slice none 0 0, .slice none 0 0], .slice none 0 0, .int .i64 0, .int .i64 1]) (by simp [results, Tryz.results34, go_sem, q0, q1]) rfl ⟨rfl, (hb1.setCell (show w.heap.size ≤ w.heap.size + 1 + 1 by omega) _).setCell (show w.heap.size ≤ w.heap.size + 1 + 1 by omega) _⟩

set_option maxRecDepth 100000 in
set_option maxHeartbeats 3200000 in
theorem tNext_own (c : Cfg) (hc : cfgB c = true) (a : Option Addr) (n cap : Nat) (a1 : Option Addr) (n1 k1 : Nat) (ws : List Int) (a2 : Option Addr) (n2 k2 : Nat) (ms : List Int) (step : Int) (w : World) (l1 : Lst w a1 n1 k1 ws) (l2 : Lst w a2 n2 k2 ms) (HC : Hid (∀ q, Below w.heap.size w q → Calls Tryz.prog 19 #[c.val, .slice a n cap] q fun e w' => e = .returned (.int .i64 0) ∧ Below q.heap.size q w')) (f1 : fitB c n1 ws = true) (f2 : fitB c n2 ms = true) (hst : inB step 0 (c.steps - 1) = true) (B : Nat) (R : Int) (F M G : Nat → Int) (HNX : Hid (∀ q, Below w.heap.size w q → Calls Tryz.prog 50 #[c.val, .slice a n cap, .agg #[.slice a1 n1 k1, .slice a2 n2 k2], .int .i64 step] q fun e w' => ∃ g1 d1 g2 d2 bg, e = .returned (.tuple #[.agg #[.slice (some ⟨g1, 0, none⟩) n1 d1, .slice (some ⟨g2, 0, none⟩) n1 d2], .slice (some ⟨bg, 0, none⟩) B B, .int .i64 R]) ∧ NextO q w' n1 B F M G g1 d1 g2 d2 bg)) :
    Calls Tryz.prog 34 #[c.val, .slice a n cap, .agg #[.slice a1 n1 k1, .slice a2 n2 k2], .int .i64 step] w fun e w' => ∃ g1 d1 g2 d2 bg, e = .returned (.tuple #[.agg #[.slice (some ⟨g1, 0, none⟩) n1 d1, .slice (some ⟨g2, 0, none⟩) n1 d2], .slice (some ⟨bg, 0, none⟩) B B, .int .i64 R, .int .i64 0]) ∧ NextO w w' n1 B F M G g1 d1 g2 d2 bg := by
  have hlow := in_is hst
  clear hst
  have sb0 := StBox.start w c (.slice a1 n1 k1) (.slice a2 n2 k2)
  have CK := HC.out _ sb0.bel
  have hz := sizeN_bd hc
  have HN : Hid (∀ q, Calls Tryz.prog 49 #[c.val] q fun e w' => e = .returned (.int .i64 (sizeN c)) ∧ w' = q.alloc (.cells c.cells 24)) := fun q => tcount_calls c hc q
  have HI1 : Hid (∀ q, Below w.heap.size w q → Calls Tryz.prog 31 #[.slice a1 n1 k1, .int .i64 (sizeN c)] q fun e w' => e = .returned (.bool true) ∧ w' = q) := fun q hq => by
    have := isList_calls a1 n1 k1 ws (sizeN c) q (l1.below hq (Nat.le_refl _)) (by omega)
    rw [show (decide ((n1 : Int) = sizeN c) && rightB ws) = true from f1] at this
    exact this
  have HI2 : Hid (∀ q, Below w.heap.size w q → Calls Tryz.prog 31 #[.slice a2 n2 k2, .int .i64 (sizeN c)] q fun e w' => e = .returned (.bool true) ∧ w' = q) := fun q hq => by
    have := isList_calls a2 n2 k2 ms (sizeN c) q (l2.below hq (Nat.le_refl _)) (by omega)
    rw [show (decide ((n2 : Int) = sizeN c) && rightB ms) = true from f2] at this
    exact this
  generalize sizeN c = Z at *
  clear HC l1 l2 f1 f2 hc hz
  obtain ⟨i, h, o, seed, batch, steps, crate, decay, how, keep, clip⟩ := c
  simp only [Cfg.val, Cfg.cells] at *
  go_enter Tryz.func34, Tryz.ntmps34
  go_wp2_with fail
  refine CK.mono ?_
  rintro e w1 ⟨rfl, hw1⟩
  have sb1 := sb0.below hw1
  clear hw1 sb0 CK
  have KS : Hid (∀ q, Below w1.heap.size w1 q → q.cell? ⟨w.heap.size, 0, none⟩ = some (.int .i64 i) ∧ q.cell? ⟨w.heap.size, 1, none⟩ = some (.int .i64 h) ∧ q.cell? ⟨w.heap.size, 2, none⟩ = some (.int .i64 o) ∧ q.cell? ⟨w.heap.size, 3, none⟩ = some (.int .u64 seed) ∧ q.cell? ⟨w.heap.size, 4, none⟩ = some (.int .i64 batch) ∧ q.cell? ⟨w.heap.size, 5, none⟩ = some (.int .i64 steps) ∧ q.cell? ⟨w.heap.size, 6, none⟩ = some (.int .i64 crate) ∧ q.cell? ⟨w.heap.size, 7, none⟩ = some (.int .i64 decay) ∧ q.cell? ⟨w.heap.size, 8, none⟩ = some (.int .i64 how) ∧ q.cell? ⟨w.heap.size, 9, none⟩ = some (.int .i64 keep) ∧ q.cell? ⟨w.heap.size, 10, none⟩ = some (.int .i64 clip) ∧ q.cell? ⟨w.heap.size + 1, 0, none⟩ = some (.slice a1 n1 k1) ∧ q.cell? ⟨w.heap.size + 1, 1, none⟩ = some (.slice a2 n2 k2)) := fun q hq => by
    have sq := sb1.below hq
    obtain ⟨x0, x1, x2, x3, x4, x5, x6, x7, x8, x9, x10⟩ := sq.cfg
    exact ⟨x0, x1, x2, x3, x4, x5, x6, x7, x8, x9, x10, (fn2_cells sq.st).1, (fn2_cells sq.st).2⟩
  have KW : Hid (∀ q, Below w1.heap.size w1 q → Below w.heap.size w q) := fun q hq => (sb1.below hq).bel
  have T0 : Below w1.heap.size w1 w1 := Below.refl _ _
  have T1 : Below w1.heap.size w1 (w1.alloc (.cells #[.int .i64 i, .int .i64 h, .int .i64 o, .int .u64 seed, .int .i64 batch, .int .i64 steps, .int .i64 crate, .int .i64 decay, .int .i64 how, .int .i64 keep, .int .i64 clip] 24)) := T0.alloc T0.size _
  have T2 : Below w1.heap.size w1 ((w1.alloc (.cells #[.int .i64 i, .int .i64 h, .int .i64 o, .int .u64 seed, .int .i64 batch, .int .i64 steps, .int .i64 crate, .int .i64 decay, .int .i64 how, .int .i64 keep, .int .i64 clip] 24)).alloc (.cells #[.int .i64 i, .int .i64 h, .int .i64 o, .int .u64 seed, .int .i64 batch, .int .i64 steps, .int .i64 crate, .int .i64 decay, .int .i64 how, .int .i64 keep, .int .i64 clip] 24)) := T1.alloc T1.size _
  obtain ⟨c0, c1, c2, c3, c4, c5, c6, c7, c8, c9, c10, s0, s1⟩ := KS.out _ T0
  obtain ⟨d0, d1, d2, d3, d4, d5, d6, d7, d8, d9, d10, t0, t1⟩ := KS.out _ T1
  go_wp2_with fail
  have S0 := KS.out _ (Below.drew T0)
  have S1 := KS.out _ (Below.drew T1)
  have S2 := KS.out _ (Below.drew T2)
  go_region_held3 (fun q => q.cell? ⟨w.heap.size, 0, none⟩ = some (.int .i64 i) ∧ q.cell? ⟨w.heap.size, 1, none⟩ = some (.int .i64 h) ∧ q.cell? ⟨w.heap.size, 2, none⟩ = some (.int .i64 o) ∧ q.cell? ⟨w.heap.size, 3, none⟩ = some (.int .u64 seed) ∧ q.cell? ⟨w.heap.size, 4, none⟩ = some (.int .i64 batch) ∧ q.cell? ⟨w.heap.size, 5, none⟩ = some (.int .i64 steps) ∧ q.cell? ⟨w.heap.size, 6, none⟩ = some (.int .i64 crate) ∧ q.cell? ⟨w.heap.size, 7, none⟩ = some (.int .i64 decay) ∧ q.cell? ⟨w.heap.size, 8, none⟩ = some (.int .i64 how) ∧ q.cell? ⟨w.heap.size, 9, none⟩ = some (.int .i64 keep) ∧ q.cell? ⟨w.heap.size, 10, none⟩ = some (.int .i64 clip) ∧ q.cell? ⟨w.heap.size + 1, 0, none⟩ = some (.slice a1 n1 k1) ∧ q.cell? ⟨w.heap.size + 1, 1, none⟩ = some (.slice a2 n2 k2)) (first | with_reducible exact S0 | with_reducible exact S1 | with_reducible exact S2)
    (first | (go_at_call 49; refine (HN.out _).mono ?_; rintro e w' ⟨rfl, rfl⟩) | (go_at_call_of 31 (Value.slice a1 n1 k1); refine (HI1.out _ (KW.out _ (Below.drew T1))).mono ?_; rintro e w' ⟨rfl, rfl⟩) | (go_at_call_of 31 (Value.slice a2 n2 k2); refine (HI2.out _ (KW.out _ (Below.drew T2))).mono ?_; rintro e w' ⟨rfl, rfl⟩))
  have T3 := Below.drew T2
  clear S0 S1 S2 c0 c1 c2 c3 c4 c5 c6 c7 c8 c9 c10 s0 s1 d0 d1 d2 d3 d4 d5 d6 d7 d8 d9 d10 t0 t1 T0 T1 T2 HN HI1 HI2
  generalize ((w1.alloc (.cells #[.int .i64 i, .int .i64 h, .int .i64 o, .int .u64 seed, .int .i64 batch, .int .i64 steps, .int .i64 crate, .int .i64 decay, .int .i64 how, .int .i64 keep, .int .i64 clip] 24)).alloc (.cells #[.int .i64 i, .int .i64 h, .int .i64 o, .int .u64 seed, .int .i64 batch, .int .i64 steps, .int .i64 crate, .int .i64 decay, .int .i64 how, .int .i64 keep, .int .i64 clip] 24)).drew = w2 at T3 ⊢
  have sb2 := sb1.below T3
  have hr1 := sb2.res
  have hb1 := sb2.bel
  obtain ⟨r0, r1⟩ := fn2_cells hr1
  have f0 := hr1.frozen 0
  have f1 := hr1.frozen 1
  obtain ⟨c0, c1, c2, c3, c4, c5, c6, c7, c8, c9, c10, s0, s1⟩ := KS.out _ T3
  have h0 : ¬ step < 0 := by omega
  have h1 : ¬ steps ≤ step := by omega
  have NX := HNX.out _ hb1
  clear HNX KS KW
  go_wp2_with fail
  refine NX.mono ?_
  rintro e u4 ⟨xa, e1, xb, e2, bg, rfl, lw, lm, lb, m1, m2, m3, nn1, nn2, nn3, hcp, hu4⟩
  have z3 := sb2.res.lt
  clear NX c0 c1 c2 c3 c4 c5 c6 c7 c8 c9 c10 s0 s1 r0 r1 f0 f1 hr1 hb1
  have sb4 := sb2.below hu4
  have hal := low_alloc u4 (.cells #[.slice (some ⟨xa, 0, none⟩) n1 e1, .slice (some ⟨xb, 0, none⟩) n1 e2] 65)
  have orow := fn2_alloc u4 (.slice (some ⟨xa, 0, none⟩) n1 e1) (.slice (some ⟨xb, 0, none⟩) n1 e2) 65
  have sb5 := sb4.below hal
  have lw5 := lw.below hal
  have lm5 := lm.below hal
  have lb5 := lb.below hal
  clear sb2 sb4 hu4 lw lm lb
  obtain ⟨o0, o1⟩ := fn2_cells orow
  obtain ⟨r0, r1⟩ := fn2_cells sb5.res
  have f0 := sb5.res.frozen 0
  have f1 := sb5.res.frozen 1
  have hrs := sb5.res
  have hbb := sb5.bel
  go_wp2_with fail
  obtain ⟨y0, y1⟩ := fn2_cells (fn2_set hrs (.slice (some ⟨xa, 0, none⟩) n1 e1) (.slice (some ⟨xb, 0, none⟩) n1 e2))
  have st1 := hrs.set 0 (.slice (some ⟨xa, 0, none⟩) n1 e1)
  have z1 : ((u4.alloc (.cells #[.slice (some ⟨xa, 0, none⟩) n1 e1, .slice (some ⟨xb, 0, none⟩) n1 e2] 65)).setCell ⟨w.heap.size + 1 + 1, 0, none⟩ (.slice (some ⟨xa, 0, none⟩) n1 e1)).cell? ⟨w.heap.size + 1 + 1, 1, none⟩ = some (.slice none 0 0) := st1.cell (i := 1) (by omega)
  exact bodyPost_ret (v := .tuple #[.agg #[.slice (some ⟨xa, 0, none⟩) n1 e1, .slice (some ⟨xb, 0, none⟩) n1 e2], .slice (some ⟨bg, 0, none⟩) B B, .int .i64 R, .int .i64 0]) (by simp [results, Tryz.results34, go_sem, y0, y1]) rfl ⟨xa, e1, xb, e2, bg, rfl, (lw5.setOther (show xa ≠ w.heap.size + 1 + 1 by omega) _).setOther (show xa ≠ w.heap.size + 1 + 1 by omega) _, (lm5.setOther (show xb ≠ w.heap.size + 1 + 1 by omega) _).setOther (show xb ≠ w.heap.size + 1 + 1 by omega) _, (lb5.setOther (show bg ≠ w.heap.size + 1 + 1 by omega) _).setOther (show bg ≠ w.heap.size + 1 + 1 by omega) _, by omega, by omega, by omega, nn1, nn2, nn3, hcp, (hbb.setCell (show w.heap.size ≤ w.heap.size + 1 + 1 by omega) _).setCell (show w.heap.size ≤ w.heap.size + 1 + 1 by omega) _⟩

/-- One contract for every input. -/
theorem tNext_calls (c : Cfg) (hs : okW c.seed) (a : Option Addr) (n cap : Nat) (X : Nat → Exm) (DI DO : Nat → List Int) (a1 : Option Addr) (n1 k1 : Nat) (ws : List Int) (a2 : Option Addr) (n2 k2 : Nat) (ms : List Int) (step : Int) (w : World) (hx : Exs w a n cap X DI DO) (l1 : Lst w a1 n1 k1 ws) (l2 : Lst w a2 n2 k2 ms) :
    Calls Tryz.prog 34 #[c.val, .slice a n cap, .agg #[.slice a1 n1 k1, .slice a2 n2 k2], .int .i64 step] w fun e w' => ∃ b1 m1 d1 b2 m2 d2 a3 m3 d3, e = .returned (.tuple #[.agg #[.slice b1 m1 d1, .slice b2 m2 d2], .slice a3 m3 d3, .int .i64 (nxR c n X DI DO n1 ws n2 ms step), .int .i64 (nextE c n X DI DO n1 ws n2 ms step)]) ∧ m1 ≤ 200 ∧ m2 ≤ 200 ∧ m3 ≤ 200 ∧ Lst w' b1 m1 d1 (nxW c n X DI DO n1 ws n2 ms step) ∧ Lst w' b2 m2 d2 (nxM c n X DI DO n1 ws n2 ms step) ∧ Lst w' a3 m3 d3 (nxB c n X DI DO n1 ws n2 ms step) ∧ Below w.heap.size w w' := by
  have HC : ∀ q, Below w.heap.size w q → Calls Tryz.prog 19 #[c.val, .slice a n cap] q fun e w' => e = .returned (.int .i64 (courseI c n X DI DO)) ∧ Below q.heap.size q w' := fun q hq => tcheck_calls c a n cap X DI DO q (hx.below hq (Nat.le_refl _))
  by_cases hE : courseI c n X DI DO = 0
  · rw [hE] at HC
    obtain ⟨hc, hn1, hn2, hex⟩ := course_ok hE
    cases f1 : fitB c n1 ws with
    | false => exact nx_none (E := 5) (by unfold nextE; rw [if_pos hE, f1]; rfl) (by decide) (tNext_w c hc a n cap a1 n1 k1 ws a2 n2 k2 ms step w l1 l2 HC f1)
    | true =>
      cases f2 : fitB c n2 ms with
      | false => exact nx_none (E := 5) (by unfold nextE; rw [if_pos hE, f1, f2]; rfl) (by decide) (tNext_m c hc a n cap a1 n1 k1 ws a2 n2 k2 ms step w l1 l2 HC f1 f2)
      | true =>
        cases hst : inB step 0 (c.steps - 1) with
        | false => exact nx_none (E := 1) (by unfold nextE; rw [if_pos hE, f1, f2, hst]; rfl) (by decide) (tNext_r c hc a n cap a1 n1 k1 ws a2 n2 k2 ms step w l1 l2 HC f1 f2 hst)
        | true =>
          have hz : nextE c n X DI DO n1 ws n2 ms step = 0 := by unfold nextE; rw [if_pos hE, f1, f2, hst]; rfl
          have g1 := fit_len hc f1
          have g2 := fit_len hc f2
          have hn : n2 = n1 := by have := g1.1; have := g2.1; omega
          subst hn
          unfold nxR nxW nxM nxB
          rw [hz, if_pos rfl, if_pos rfl, if_pos rfl, if_pos rfl]
          have hlow := in_is hst
          obtain ⟨T, hT⟩ := Int.eq_ofNat_of_zero_le hlow.1
          obtain ⟨⟨i1, i2⟩, ⟨h1, h2⟩, ⟨o1, o2⟩, ⟨b1, b2⟩, _⟩ := cfgB_is hc
          obtain ⟨i, h, o, seed, batch, steps, crate, decay, how, keep, clip⟩ := c
          dsimp only at i1 i2 h1 h2 o1 o2 b1 b2 hs hlow ⊢
          obtain ⟨I, rfl⟩ := Int.eq_ofNat_of_zero_le (show 0 ≤ i by omega)
          obtain ⟨H, rfl⟩ := Int.eq_ofNat_of_zero_le (show 0 ≤ h by omega)
          obtain ⟨O, rfl⟩ := Int.eq_ofNat_of_zero_le (show 0 ≤ o by omega)
          obtain ⟨B, rfl⟩ := Int.eq_ofNat_of_zero_le (show 0 ≤ batch by omega)
          subst hT
          have hN : n2 = H * I + H + O * H + O := by have := g1.1; unfold sizeN at this; dsimp only at this; exact_mod_cast this
          refine (tNext_own _ hc a n cap a1 n2 k1 ws a2 n2 k2 ms T w l1 l2 HC f1 f2 hst B _ _ _ _ (fun q hq => tnext_own I H O B T seed crate decay how keep clip hs steps hc n2 hN a n cap X DI DO a1 k1 ws a2 k2 ms q (hx.below hq (Nat.le_refl _)) hn1 hn2 hex (l1.below hq (Nat.le_refl _)) (l2.below hq (Nat.le_refl _)) g1.2.2.2 g2.2.2.2 (by omega))).mono ?_
          rintro e w' ⟨x1, d1, x2, d2, bg, he, h⟩
          exact ⟨some ⟨x1, 0, none⟩, n2, d1, some ⟨x2, 0, none⟩, n2, d2, some ⟨bg, 0, none⟩, B, B, he, by omega, by omega, by omega, h.a1.lst, h.a2.lst, h.a3.lst, h.bel⟩
  · exact nx_none (by unfold nextE; rw [if_neg hE]) hE (tNext_c c a n cap a1 n1 k1 a2 n2 k2 step _ w hE HC)
end Go.Proofs.YtfcnnolpcnacoaaGreatDoor.Fx
