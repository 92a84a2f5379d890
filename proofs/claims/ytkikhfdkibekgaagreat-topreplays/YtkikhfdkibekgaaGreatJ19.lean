/- What train.Next returns, whatever is handed in: the rest of its ways. -/
import Derived.Test.YtkikhfdkibekgaaGreatJ18
import Derived.Test.YtkikhfdkibekgaaGreatJ12
import Derived.Test.YtkikhfdkibekgaaGreatJ16
namespace Go.Proofs.YtkikhfdkibekgaaGreat.Fx
open Go.RowKit

set_option maxRecDepth 100000 in
set_option maxHeartbeats 3200000 in
theorem tNext_m (c : Cfg) (hc : cfgB c = true) (a : Option Addr) (n cap : Nat) (a1 : Option Addr) (n1 k1 : Nat) (ws : List Int) (a2 : Option Addr) (n2 k2 : Nat) (ms : List Int) (step : Int) (w : World) (l1 : Lst w a1 n1 k1 ws) (l2 : Lst w a2 n2 k2 ms) (HC : Hid (∀ q, Below w.heap.size w q → Calls Tryz.prog 17 #[c.val, .slice a n cap] q fun e w' => e = .returned (.int .i64 0) ∧ Below q.heap.size q w')) (f1 : fitB c n1 ws = true) (f2 : fitB c n2 ms = false) :
    Calls Tryz.prog 36 #[c.val, .slice a n cap, .agg #[.slice a1 n1 k1, .slice a2 n2 k2], .int .i64 step] w fun e w' => e = .returned (.tuple #[.agg #[.slice none 0 0, .slice none 0 0], .slice none 0 0, .int .i64 0, .int .i64 5]) ∧ Below w.heap.size w w' := by
  have sb0 := StBox.start w c (.slice a1 n1 k1) (.slice a2 n2 k2)
  have CK := HC.out _ sb0.bel
  have hz := sizeN_bd hc
  have HN : Hid (∀ q, Calls Tryz.prog 38 #[c.val] q fun e w' => e = .returned (.int .i64 (sizeN c)) ∧ w' = q.alloc (.cells c.cells 24)) := fun q => tcount_calls c hc q
  have HI1 : Hid (∀ q, Below w.heap.size w q → Calls Tryz.prog 33 #[.slice a1 n1 k1, .int .i64 (sizeN c)] q fun e w' => e = .returned (.bool true) ∧ w' = q) := fun q hq => by
    have := isList_calls a1 n1 k1 ws (sizeN c) q (l1.below hq (Nat.le_refl _)) (by omega)
    rw [show (decide ((n1 : Int) = sizeN c) && rightB ws) = true from f1] at this
    exact this
  have HI2 : Hid (∀ q, Below w.heap.size w q → Calls Tryz.prog 33 #[.slice a2 n2 k2, .int .i64 (sizeN c)] q fun e w' => e = .returned (.bool false) ∧ w' = q) := fun q hq => by
    have := isList_calls a2 n2 k2 ms (sizeN c) q (l2.below hq (Nat.le_refl _)) (by omega)
    rw [show (decide ((n2 : Int) = sizeN c) && rightB ms) = false from f2] at this
    exact this
  generalize sizeN c = Z at *
  clear HC l1 l2 f1 f2 hc hz
  obtain ⟨i, h, o, seed, batch, steps, crate, decay, how, keep, clip⟩ := c
  simp only [Cfg.val, Cfg.cells] at *
  go_enter Tryz.func36, Tryz.ntmps36
  go_wp2_with fail
  refine CK.mono ?_
  rintro e w1 ⟨rfl, hw1⟩
  have sb1 := sb0.below hw1
  clear hw1 sb0 CK
  have KS : Hid (∀ q, Below w1.heap.size w1 q → q.cell? ⟨w.heap.size, 0, none⟩ = some (.int .i64 i) ∧ q.cell? ⟨w.heap.size, 1, none⟩ = some (.int .i64 h) ∧ q.cell? ⟨w.heap.size, 2, none⟩ = some (.int .i64 o) ∧ q.cell? ⟨w.heap.size, 3, none⟩ = some (.int .u64 seed) ∧ q.cell? ⟨w.heap.size, 4, none⟩ = some (.int .i64 batch) ∧ q.cell? ⟨w.heap.size, 5, none⟩ = some (.int .i64 steps) ∧ q.cell? ⟨w.heap.size, 6, none⟩ = some (.int .i64 crate) ∧ q.cell? ⟨w.heap.size, 7, none⟩ = some (.int .i64 decay) ∧ q.cell? ⟨w.heap.size, 8, none⟩ = some (.int .i64 how) ∧ q.cell? ⟨w.heap.size, 9, none⟩ = some (.int .i64 keep) ∧ q.cell? ⟨w.heap.size, 10, none⟩ = some (.int .i64 clip) ∧ q.cell? ⟨w.heap.size + 1, 0, none⟩ = some (.slice a1 n1 k1) ∧ q.cell? ⟨w.heap.size + 1, 1, none⟩ = some (.slice a2 n2 k2)) := fun q hq => by
    have sq := sb1.below hq
    obtain ⟨x0, x1, x2, x3, x4, x5, x6, x7, x8, x9, x10⟩ := sq.cfg
    exact ⟨x0, x1, x2, x3, x4, x5, x6, x7, x8, x9, x10, (fn2_cells sq.st).1, (fn2_cells sq.st).2⟩
  have KW : Hid (∀ q, Below w1.heap.size w1 q → Below w.heap.size w q) := fun q hq => (sb1.below hq).bel
  have T0 : Below w1.heap.size w1 w1 := Below.refl _ _
  have T1 : Below w1.heap.size w1 (w1.alloc (.cells #[.int .i64 i, .int .i64 h, .int .i64 o, .int .u64 seed, .int .i64 batch, .int .i64 steps, .int .i64 crate, .int .i64 decay, .int .i64 how, .int .i64 keep, .int .i64 clip] 24)) := T0.alloc T0.size _
  have T2 : Below w1.heap.size w1 ((w1.alloc (.cells #[.int .i64 i, .int .i64 h, .int .i64 o, .int .u64 seed, .int .i64 batch, .int .i64 steps, .int .i64 crate, .int .i64 decay, .int .i64 how, .int .i64 keep, .int .i64 clip] 24)).alloc (.cells #[.int .i64 i, .int .i64 h, .int .i64 o, .int .u64 seed, .int .i64 batch, .int .i64 steps, .int .i64 crate, .int .i64 decay, .int .i64 how, .int .i64 keep, .int .i64 clip] 24)) := T1.alloc T1.size _
  obtain ⟨c0, c1, c2, c3, c4, c5, c6, c7, c8, c9, c10, s0, s1⟩ := KS.out _ T0
  obtain ⟨d0, d1, d2, d3, d4, d5, d6, d7, d8, d9, d10, t0, t1⟩ := KS.out _ T1
  go_wp2_with fail
  have S0 := KS.out _ (Below.drew T0)
  have S1 := KS.out _ (Below.drew T1)
  have S2 := KS.out _ (Below.drew T2)
  go_region_held3 (fun q => q.cell? ⟨w.heap.size, 0, none⟩ = some (.int .i64 i) ∧ q.cell? ⟨w.heap.size, 1, none⟩ = some (.int .i64 h) ∧ q.cell? ⟨w.heap.size, 2, none⟩ = some (.int .i64 o) ∧ q.cell? ⟨w.heap.size, 3, none⟩ = some (.int .u64 seed) ∧ q.cell? ⟨w.heap.size, 4, none⟩ = some (.int .i64 batch) ∧ q.cell? ⟨w.heap.size, 5, none⟩ = some (.int .i64 steps) ∧ q.cell? ⟨w.heap.size, 6, none⟩ = some (.int .i64 crate) ∧ q.cell? ⟨w.heap.size, 7, none⟩ = some (.int .i64 decay) ∧ q.cell? ⟨w.heap.size, 8, none⟩ = some (.int .i64 how) ∧ q.cell? ⟨w.heap.size, 9, none⟩ = some (.int .i64 keep) ∧ q.cell? ⟨w.heap.size, 10, none⟩ = some (.int .i64 clip) ∧ q.cell? ⟨w.heap.size + 1, 0, none⟩ = some (.slice a1 n1 k1) ∧ q.cell? ⟨w.heap.size + 1, 1, none⟩ = some (.slice a2 n2 k2)) (first | with_reducible exact S0 | with_reducible exact S1 | with_reducible exact S2)
    (first | (go_at_call 38; refine (HN.out _).mono ?_; rintro e w' ⟨rfl, rfl⟩) | (go_at_call_of 33 (Value.slice a1 n1 k1); refine (HI1.out _ (KW.out _ (Below.drew T1))).mono ?_; rintro e w' ⟨rfl, rfl⟩) | (go_at_call_of 33 (Value.slice a2 n2 k2); refine (HI2.out _ (KW.out _ (Below.drew T2))).mono ?_; rintro e w' ⟨rfl, rfl⟩))
  have T3 := Below.drew T2
  clear S0 S1 S2 c0 c1 c2 c3 c4 c5 c6 c7 c8 c9 c10 s0 s1 d0 d1 d2 d3 d4 d5 d6 d7 d8 d9 d10 t0 t1 T0 T1 T2 HN HI1 HI2
  generalize ((w1.alloc (.cells #[.int .i64 i, .int .i64 h, .int .i64 o, .int .u64 seed, .int .i64 batch, .int .i64 steps, .int .i64 crate, .int .i64 decay, .int .i64 how, .int .i64 keep, .int .i64 clip] 24)).alloc (.cells #[.int .i64 i, .int .i64 h, .int .i64 o, .int .u64 seed, .int .i64 batch, .int .i64 steps, .int .i64 crate, .int .i64 decay, .int .i64 how, .int .i64 keep, .int .i64 clip] 24)).drew = w2 at T3 ⊢
  have sb2 := sb1.below T3
  have hr1 := sb2.res
  have hb1 := sb2.bel
  obtain ⟨r0, r1⟩ := fn2_cells hr1
  have f0 := hr1.frozen 0
  have f1 := hr1.frozen 1
  obtain ⟨c0, c1, c2, c3, c4, c5, c6, c7, c8, c9, c10, s0, s1⟩ := KS.out _ T3
  go_wp2_with fail
  obtain ⟨q0, q1⟩ := fn2_cells (fn2_set hr1 (.slice none 0 0) (.slice none 0 0))
  exact bodyPost_ret (v := .tuple #[.agg #[.slice none 0 0, .slice none 0 0], .slice none 0 0, .int .i64 0, .int .i64 5]) (by simp [results, Tryz.results36, go_sem, q0, q1]) rfl ⟨rfl, (hb1.setCell (show w.heap.size ≤ w.heap.size + 1 + 1 by omega) _).setCell (show w.heap.size ≤ w.heap.size + 1 + 1 by omega) _⟩

set_option maxRecDepth 100000 in
set_option maxHeartbeats 3200000 in
theorem tNext_r (c : Cfg) (hc : cfgB c = true) (a : Option Addr) (n cap : Nat) (a1 : Option Addr) (n1 k1 : Nat) (ws : List Int) (a2 : Option Addr) (n2 k2 : Nat) (ms : List Int) (step : Int) (w : World) (l1 : Lst w a1 n1 k1 ws) (l2 : Lst w a2 n2 k2 ms) (HC : Hid (∀ q, Below w.heap.size w q → Calls Tryz.prog 17 #[c.val, .slice a n cap] q fun e w' => e = .returned (.int .i64 0) ∧ Below q.heap.size q w')) (f1 : fitB c n1 ws = true) (f2 : fitB c n2 ms = true) (hst : inB step 0 (c.steps - 1) = false) :
    Calls Tryz.prog 36 #[c.val, .slice a n cap, .agg #[.slice a1 n1 k1, .slice a2 n2 k2], .int .i64 step] w fun e w' => e = .returned (.tuple #[.agg #[.slice none 0 0, .slice none 0 0], .slice none 0 0, .int .i64 0, .int .i64 1]) ∧ Below w.heap.size w w' := by
  have hlow : ¬ (0 ≤ step ∧ step ≤ c.steps - 1) := fun g => by rw [in_yes g] at hst; cases hst
  clear hst
  have sb0 := StBox.start w c (.slice a1 n1 k1) (.slice a2 n2 k2)
  have CK := HC.out _ sb0.bel
  have hz := sizeN_bd hc
  have HN : Hid (∀ q, Calls Tryz.prog 38 #[c.val] q fun e w' => e = .returned (.int .i64 (sizeN c)) ∧ w' = q.alloc (.cells c.cells 24)) := fun q => tcount_calls c hc q
  have HI1 : Hid (∀ q, Below w.heap.size w q → Calls Tryz.prog 33 #[.slice a1 n1 k1, .int .i64 (sizeN c)] q fun e w' => e = .returned (.bool true) ∧ w' = q) := fun q hq => by
    have := isList_calls a1 n1 k1 ws (sizeN c) q (l1.below hq (Nat.le_refl _)) (by omega)
    rw [show (decide ((n1 : Int) = sizeN c) && rightB ws) = true from f1] at this
    exact this
  have HI2 : Hid (∀ q, Below w.heap.size w q → Calls Tryz.prog 33 #[.slice a2 n2 k2, .int .i64 (sizeN c)] q fun e w' => e = .returned (.bool true) ∧ w' = q) := fun q hq => by
    have := isList_calls a2 n2 k2 ms (sizeN c) q (l2.below hq (Nat.le_refl _)) (by omega)
    rw [show (decide ((n2 : Int) = sizeN c) && rightB ms) = true from f2] at this
    exact this
  generalize sizeN c = Z at *
  clear HC l1 l2 f1 f2 hc hz
  obtain ⟨i, h, o, seed, batch, steps, crate, decay, how, keep, clip⟩ := c
  simp only [Cfg.val, Cfg.cells] at *
  go_enter Tryz.func36, Tryz.ntmps36
  go_wp2_with fail
  refine CK.mono ?_
  rintro e w1 ⟨rfl, hw1⟩
  have sb1 := sb0.below hw1
  clear hw1 sb0 CK
  have KS : Hid (∀ q, Below w1.heap.size w1 q → q.cell? ⟨w.heap.size, 0, none⟩ = some (.int .i64 i) ∧ q.cell? ⟨w.heap.size, 1, none⟩ = some (.int .i64 h) ∧ q.cell? ⟨w.heap.size, 2, none⟩ = some (.int .i64 o) ∧ q.cell? ⟨w.heap.size, 3, none⟩ = some (.int .u64 seed) ∧ q.cell? ⟨w.heap.size, 4, none⟩ = some (.int .i64 batch) ∧ q.cell? ⟨w.heap.size, 5, none⟩ = some (.int .i64 steps) ∧ q.cell? ⟨w.heap.size, 6, none⟩ = some (.int .i64 crate) ∧ q.cell? ⟨w.heap.size, 7, none⟩ = some (.int .i64 decay) ∧ q.cell? ⟨w.heap.size, 8, none⟩ = some (.int .i64 how) ∧ q.cell? ⟨w.heap.size, 9, none⟩ = some (.int .i64 keep) ∧ q.cell? ⟨w.heap.size, 10, none⟩ = some (.int .i64 clip) ∧ q.cell? ⟨w.heap.size + 1, 0, none⟩ = some (.slice a1 n1 k1) ∧ q.cell? ⟨w.heap.size + 1, 1, none⟩ = some (.slice a2 n2 k2)) := fun q hq => by
    have sq := sb1.below hq
    obtain ⟨x0, x1, x2, x3, x4, x5, x6, x7, x8, x9, x10⟩ := sq.cfg
    exact ⟨x0, x1, x2, x3, x4, x5, x6, x7, x8, x9, x10, (fn2_cells sq.st).1, (fn2_cells sq.st).2⟩
  have KW : Hid (∀ q, Below w1.heap.size w1 q → Below w.heap.size w q) := fun q hq => (sb1.below hq).bel
  have T0 : Below w1.heap.size w1 w1 := Below.refl _ _
  have T1 : Below w1.heap.size w1 (w1.alloc (.cells #[.int .i64 i, .int .i64 h, .int .i64 o, .int .u64 seed, .int .i64 batch, .int .i64 steps, .int .i64 crate, .int .i64 decay, .int .i64 how, .int .i64 keep, .int .i64 clip] 24)) := T0.alloc T0.size _
  have T2 : Below w1.heap.size w1 ((w1.alloc (.cells #[.int .i64 i, .int .i64 h, .int .i64 o, .int .u64 seed, .int .i64 batch, .int .i64 steps, .int .i64 crate, .int .i64 decay, .int .i64 how, .int .i64 keep, .int .i64 clip] 24)).alloc (.cells #[.int .i64 i, .int .i64 h, .int .i64 o, .int .u64 seed, .int .i64 batch, .int .i64 steps, .int .i64 crate, .int .i64 decay, .int .i64 how, .int .i64 keep, .int .i64 clip] 24)) := T1.alloc T1.size _
  obtain ⟨c0, c1, c2, c3, c4, c5, c6, c7, c8, c9, c10, s0, s1⟩ := KS.out _ T0
  obtain ⟨d0, d1, d2, d3, d4, d5, d6, d7, d8, d9, d10, t0, t1⟩ := KS.out _ T1
  go_wp2_with fail
  have S0 := KS.out _ (Below.drew T0)
  have S1 := KS.out _ (Below.drew T1)
  have S2 := KS.out _ (Below.drew T2)
  go_region_held3 (fun q => q.cell? ⟨w.heap.size, 0, none⟩ = some (.int .i64 i) ∧ q.cell? ⟨w.heap.size, 1, none⟩ = some (.int .i64 h) ∧ q.cell? ⟨w.heap.size, 2, none⟩ = some (.int .i64 o) ∧ q.cell? ⟨w.heap.size, 3, none⟩ = some (.int .u64 seed) ∧ q.cell? ⟨w.heap.size, 4, none⟩ = some (.int .i64 batch) ∧ q.cell? ⟨w.heap.size, 5, none⟩ = some (.int .i64 steps) ∧ q.cell? ⟨w.heap.size, 6, none⟩ = some (.int .i64 crate) ∧ q.cell? ⟨w.heap.size, 7, none⟩ = some (.int .i64 decay) ∧ q.cell? ⟨w.heap.size, 8, none⟩ = some (.int .i64 how) ∧ q.cell? ⟨w.heap.size, 9, none⟩ = some (.int .i64 keep) ∧ q.cell? ⟨w.heap.size, 10, none⟩ = some (.int .i64 clip) ∧ q.cell? ⟨w.heap.size + 1, 0, none⟩ = some (.slice a1 n1 k1) ∧ q.cell? ⟨w.heap.size + 1, 1, none⟩ = some (.slice a2 n2 k2)) (first | with_reducible exact S0 | with_reducible exact S1 | with_reducible exact S2)
    (first | (go_at_call 38; refine (HN.out _).mono ?_; rintro e w' ⟨rfl, rfl⟩) | (go_at_call_of 33 (Value.slice a1 n1 k1); refine (HI1.out _ (KW.out _ (Below.drew T1))).mono ?_; rintro e w' ⟨rfl, rfl⟩) | (go_at_call_of 33 (Value.slice a2 n2 k2); refine (HI2.out _ (KW.out _ (Below.drew T2))).mono ?_; rintro e w' ⟨rfl, rfl⟩))
  have T3 := Below.drew T2
  clear S0 S1 S2 c0 c1 c2 c3 c4 c5 c6 c7 c8 c9 c10 s0 s1 d0 d1 d2 d3 d4 d5 d6 d7 d8 d9 d10 t0 t1 T0 T1 T2 HN HI1 HI2
  generalize ((w1.alloc (.cells #[.int .i64 i, .int .i64 h, .int .i64 o, .int .u64 seed, .int .i64 batch, .int .i64 steps, .int .i64 crate, .int .i64 decay, .int .i64 how, .int .i64 keep, .int .i64 clip] 24)).alloc (.cells #[.int .i64 i, .int .i64 h, .int .i64 o, .int .u64 seed, .int .i64 batch, .int .i64 steps, .int .i64 crate, .int .i64 decay, .int .i64 how, .int .i64 keep, .int .i64 clip] 24)).drew = w2 at T3 ⊢
  have sb2 := sb1.below T3
  have hr1 := sb2.res
  have hb1 := sb2.bel
  obtain ⟨r0, r1⟩ := fn2_cells hr1
  have f0 := hr1.frozen 0
  have f1 := hr1.frozen 1
  obtain ⟨c0, c1, c2, c3, c4, c5, c6, c7, c8, c9, c10, s0, s1⟩ := KS.out _ T3
  by_cases hn : step < 0
  · skip
    go_wp2_with fail
    obtain ⟨q0, q1⟩ := fn2_cells (fn2_set hr1 (.slice none 0 0) (.slice none 0 0))
    exact bodyPost_ret (v := .tuple #[.agg #[.slice none 0 0, .slice none 0 0], .slice none 0 0, .int .i64 0, .int .i64 1]) (by simp [results, Tryz.results36, go_sem, q0, q1]) rfl ⟨rfl, (hb1.setCell (show w.heap.size ≤ w.heap.size + 1 + 1 by omega) _).setCell (show w.heap.size ≤ w.heap.size + 1 + 1 by omega) _⟩
  · have hge : steps ≤ step := by omega
    go_wp2_with fail
    obtain ⟨q0, q1⟩ := fn2_cells (fn2_set hr1 (.slice none 0 0) (.slice none 0 0))
    exact bodyPost_ret (v := .tuple #[.agg #[.slice none 0 0, .slice none 0 0], .slice none 0 0, .int .i64 0, .int .i64 1]) (by simp [results, Tryz.results36, go_sem, q0, q1]) rfl ⟨rfl, (hb1.setCell (show w.heap.size ≤ w.heap.size + 1 + 1 by omega) _).setCell (show w.heap.size ≤ w.heap.size + 1 + 1 by omega) _⟩

set_option maxRecDepth 100000 in
set_option maxHeartbeats 3200000 in
theorem tNext_own (c : Cfg) (hc : cfgB c = true) (a : Option Addr) (n cap : Nat) (a1 : Option Addr) (n1 k1 : Nat) (ws : List Int) (a2 : Option Addr) (n2 k2 : Nat) (ms : List Int) (step : Int) (w : World) (l1 : Lst w a1 n1 k1 ws) (l2 : Lst w a2 n2 k2 ms) (HC : Hid (∀ q, Below w.heap.size w q → Calls Tryz.prog 17 #[c.val, .slice a n cap] q fun e w' => e = .returned (.int .i64 0) ∧ Below q.heap.size q w')) (f1 : fitB c n1 ws = true) (f2 : fitB c n2 ms = true) (hst : inB step 0 (c.steps - 1) = true) (B : Nat) (R : Int) (F M G : Nat → Int) (HNX : Hid (∀ q, Below w.heap.size w q → Calls Tryz.prog 21 #[c.val, .slice a n cap, .agg #[.slice a1 n1 k1, .slice a2 n2 k2], .int .i64 step] q fun e w' => ∃ g1 d1 g2 d2 bg, e = .returned (.tuple #[.agg #[.slice (some ⟨g1, 0, none⟩) n1 d1, .slice (some ⟨g2, 0, none⟩) n1 d2], .slice (some ⟨bg, 0, none⟩) B B, .int .i64 R]) ∧ NextO q w' n1 B F M G g1 d1 g2 d2 bg)) :
    Calls Tryz.prog 36 #[c.val, .slice a n cap, .agg #[.slice a1 n1 k1, .slice a2 n2 k2], .int .i64 step] w fun e w' => ∃ g1 d1 g2 d2 bg, e = .returned (.tuple #[.agg #[.slice (some ⟨g1, 0, none⟩) n1 d1, .slice (some ⟨g2, 0, none⟩) n1 d2], .slice (some ⟨bg, 0, none⟩) B B, .int .i64 R, .int .i64 0]) ∧ NextO w w' n1 B F M G g1 d1 g2 d2 bg := by
  have hlow := in_is hst
  clear hst
  have sb0 := StBox.start w c (.slice a1 n1 k1) (.slice a2 n2 k2)
  have CK := HC.out _ sb0.bel
  have hz := sizeN_bd hc
  have HN : Hid (∀ q, Calls Tryz.prog 38 #[c.val] q fun e w' => e = .returned (.int .i64 (sizeN c)) ∧ w' = q.alloc (.cells c.cells 24)) := fun q => tcount_calls c hc q
  have HI1 : Hid (∀ q, Below w.heap.size w q → Calls Tryz.prog 33 #[.slice a1 n1 k1, .int .i64 (sizeN c)] q fun e w' => e = .returned (.bool true) ∧ w' = q) := fun q hq => by
    have := isList_calls a1 n1 k1 ws (sizeN c) q (l1.below hq (Nat.le_refl _)) (by omega)
    rw [show (decide ((n1 : Int) = sizeN c) && rightB ws) = true from f1] at this
    exact this
  have HI2 : Hid (∀ q, Below w.heap.size w q → Calls Tryz.prog 33 #[.slice a2 n2 k2, .int .i64 (sizeN c)] q fun e w' => e = .returned (.bool true) ∧ w' = q) := fun q hq => by
    have := isList_calls a2 n2 k2 ms (sizeN c) q (l2.below hq (Nat.le_refl _)) (by omega)
    rw [show (decide ((n2 : Int) = sizeN c) && rightB ms) = true from f2] at this
    exact this
  generalize sizeN c = Z at *
  clear HC l1 l2 f1 f2 hc hz
  obtain ⟨i, h, o, seed, batch, steps, crate, decay, how, keep, clip⟩ := c
  simp only [Cfg.val, Cfg.cells] at *
  go_enter Tryz.func36, Tryz.ntmps36
  go_wp2_with fail
  refine CK.mono ?_
  rintro e w1 ⟨rfl, hw1⟩
  have sb1 := sb0.below hw1
  clear hw1 sb0 CK
  have KS : Hid (∀ q, Below w1.heap.size w1 q → q.cell? ⟨w.heap.size, 0, none⟩ = some (.int .i64 i) ∧ q.cell? ⟨w.heap.size, 1, none⟩ = some (.int .i64 h) ∧ q.cell? ⟨w.heap.size, 2, none⟩ = some (.int .i64 o) ∧ q.cell? ⟨w.heap.size, 3, none⟩ = some (.int .u64 seed) ∧ q.cell? ⟨w.heap.size, 4, none⟩ = some (.int .i64 batch) ∧ q.cell? ⟨w.heap.size, 5, none⟩ = some (.int .i64 steps) ∧ q.cell? ⟨w.heap.size, 6, none⟩ = some (.int .i64 crate) ∧ q.cell? ⟨w.heap.size, 7, none⟩ = some (.int .i64 decay) ∧ q.cell? ⟨w.heap.size, 8, none⟩ = some (.int .i64 how) ∧ q.cell? ⟨w.heap.size, 9, none⟩ = some (.int .i64 keep) ∧ q.cell? ⟨w.heap.size, 10, none⟩ = some (.int .i64 clip) ∧ q.cell? ⟨w.heap.size + 1, 0, none⟩ = some (.slice a1 n1 k1) ∧ q.cell? ⟨w.heap.size + 1, 1, none⟩ = some (.slice a2 n2 k2)) := fun q hq => by
    have sq := sb1.below hq
    obtain ⟨x0, x1, x2, x3, x4, x5, x6, x7, x8, x9, x10⟩ := sq.cfg
    exact ⟨x0, x1, x2, x3, x4, x5, x6, x7, x8, x9, x10, (fn2_cells sq.st).1, (fn2_cells sq.st).2⟩
  have KW : Hid (∀ q, Below w1.heap.size w1 q → Below w.heap.size w q) := fun q hq => (sb1.below hq).bel
  have T0 : Below w1.heap.size w1 w1 := Below.refl _ _
  have T1 : Below w1.heap.size w1 (w1.alloc (.cells #[.int .i64 i, .int .i64 h, .int .i64 o, .int .u64 seed, .int .i64 batch, .int .i64 steps, .int .i64 crate, .int .i64 decay, .int .i64 how, .int .i64 keep, .int .i64 clip] 24)) := T0.alloc T0.size _
  have T2 : Below w1.heap.size w1 ((w1.alloc (.cells #[.int .i64 i, .int .i64 h, .int .i64 o, .int .u64 seed, .int .i64 batch, .int .i64 steps, .int .i64 crate, .int .i64 decay, .int .i64 how, .int .i64 keep, .int .i64 clip] 24)).alloc (.cells #[.int .i64 i, .int .i64 h, .int .i64 o, .int .u64 seed, .int .i64 batch, .int .i64 steps, .int .i64 crate, .int .i64 decay, .int .i64 how, .int .i64 keep, .int .i64 clip] 24)) := T1.alloc T1.size _
  obtain ⟨c0, c1, c2, c3, c4, c5, c6, c7, c8, c9, c10, s0, s1⟩ := KS.out _ T0
  obtain ⟨d0, d1, d2, d3, d4, d5, d6, d7, d8, d9, d10, t0, t1⟩ := KS.out _ T1
  go_wp2_with fail
  have S0 := KS.out _ (Below.drew T0)
  have S1 := KS.out _ (Below.drew T1)
  have S2 := KS.out _ (Below.drew T2)
  go_region_held3 (fun q => q.cell? ⟨w.heap.size, 0, none⟩ = some (.int .i64 i) ∧ q.cell? ⟨w.heap.size, 1, none⟩ = some (.int .i64 h) ∧ q.cell? ⟨w.heap.size, 2, none⟩ = some (.int .i64 o) ∧ q.cell? ⟨w.heap.size, 3, none⟩ = some (.int .u64 seed) ∧ q.cell? ⟨w.heap.size, 4, none⟩ = some (.int .i64 batch) ∧ q.cell? ⟨w.heap.size, 5, none⟩ = some (.int .i64 steps) ∧ q.cell? ⟨w.heap.size, 6, none⟩ = some (.int .i64 crate) ∧ q.cell? ⟨w.heap.size, 7, none⟩ = some (.int .i64 decay) ∧ q.cell? ⟨w.heap.size, 8, none⟩ = some (.int .i64 how) ∧ q.cell? ⟨w.heap.size, 9, none⟩ = some (.int .i64 keep) ∧ q.cell? ⟨w.heap.size, 10, none⟩ = some (.int .i64 clip) ∧ q.cell? ⟨w.heap.size + 1, 0, none⟩ = some (.slice a1 n1 k1) ∧ q.cell? ⟨w.heap.size + 1, 1, none⟩ = some (.slice a2 n2 k2)) (first | with_reducible exact S0 | with_reducible exact S1 | with_reducible exact S2)
    (first | (go_at_call 38; refine (HN.out _).mono ?_; rintro e w' ⟨rfl, rfl⟩) | (go_at_call_of 33 (Value.slice a1 n1 k1); refine (HI1.out _ (KW.out _ (Below.drew T1))).mono ?_; rintro e w' ⟨rfl, rfl⟩) | (go_at_call_of 33 (Value.slice a2 n2 k2); refine (HI2.out _ (KW.out _ (Below.drew T2))).mono ?_; rintro e w' ⟨rfl, rfl⟩))
  have T3 := Below.drew T2
  clear S0 S1 S2 c0 c1 c2 c3 c4 c5 c6 c7 c8 c9 c10 s0 s1 d0 d1 d2 d3 d4 d5 d6 d7 d8 d9 d10 t0 t1 T0 T1 T2 HN HI1 HI2
  generalize ((w1.alloc (.cells #[.int .i64 i, .int .i64 h, .int .i64 o, .int .u64 seed, .int .i64 batch, .int .i64 steps, .int .i64 crate, .int .i64 decay, .int .i64 how, .int .i64 keep, .int .i64 clip] 24)).alloc (.cells #[.int .i64 i, .int .i64 h, .int .i64 o, .int .u64 seed, .int .i64 batch, .int .i64 steps, .int .i64 crate, .int .i64 decay, .int .i64 how, .int .i64 keep, .int .i64 clip] 24)).drew = w2 at T3 ⊢
  have sb2 := sb1.below T3
  have hr1 := sb2.res
  have hb1 := sb2.bel
  obtain ⟨r0, r1⟩ := fn2_cells hr1
  have f0 := hr1.frozen 0
  have f1 := hr1.frozen 1
  obtain ⟨c0, c1, c2, c3, c4, c5, c6, c7, c8, c9, c10, s0, s1⟩ := KS.out _ T3
  have h0 : ¬ step < 0 := by omega
  have h1 : ¬ steps ≤ step := by omega
  have NX := HNX.out _ hb1
  clear HNX KS KW
  go_wp2_with fail
  refine NX.mono ?_
  rintro e u4 ⟨xa, e1, xb, e2, bg, rfl, lw, lm, lb, m1, m2, m3, nn1, nn2, nn3, hcp, hu4⟩
  have z3 := sb2.res.lt
  clear NX c0 c1 c2 c3 c4 c5 c6 c7 c8 c9 c10 s0 s1 r0 r1 f0 f1 hr1 hb1
  have sb4 := sb2.below hu4
  have hal := low_alloc u4 (.cells #[.slice (some ⟨xa, 0, none⟩) n1 e1, .slice (some ⟨xb, 0, none⟩) n1 e2] 28)
  have orow := fn2_alloc u4 (.slice (some ⟨xa, 0, none⟩) n1 e1) (.slice (some ⟨xb, 0, none⟩) n1 e2) 28
  have sb5 := sb4.below hal
  have lw5 := lw.below hal
  have lm5 := lm.below hal
  have lb5 := lb.below hal
  clear sb2 sb4 hu4 lw lm lb
  obtain ⟨o0, o1⟩ := fn2_cells orow
  obtain ⟨r0, r1⟩ := fn2_cells sb5.res
  have f0 := sb5.res.frozen 0
  have f1 := sb5.res.frozen 1
  have hrs := sb5.res
  have hbb := sb5.bel
  go_wp2_with fail
  obtain ⟨y0, y1⟩ := fn2_cells (fn2_set hrs (.slice (some ⟨xa, 0, none⟩) n1 e1) (.slice (some ⟨xb, 0, none⟩) n1 e2))
  have st1 := hrs.set 0 (.slice (some ⟨xa, 0, none⟩) n1 e1)
  have z1 : ((u4.alloc (.cells #[.slice (some ⟨xa, 0, none⟩) n1 e1, .slice (some ⟨xb, 0, none⟩) n1 e2] 28)).setCell ⟨w.heap.size + 1 + 1, 0, none⟩ (.slice (some ⟨xa, 0, none⟩) n1 e1)).cell? ⟨w.heap.size + 1 + 1, 1, none⟩ = some (.slice none 0 0) := st1.cell (i := 1) (by omega)
  exact bodyPost_ret (v := .tuple #[.agg #[.slice (some ⟨xa, 0, none⟩) n1 e1, .slice (some ⟨xb, 0, none⟩) n1 e2], .slice (some ⟨bg, 0, none⟩) B B, .int .i64 R, .int .i64 0]) (by simp [results, Tryz.results36, go_sem, y0, y1]) rfl ⟨xa, e1, xb, e2, bg, rfl, (lw5.setOther (show xa ≠ w.heap.size + 1 + 1 by omega) _).setOther (show xa ≠ w.heap.size + 1 + 1 by omega) _, (lm5.setOther (show xb ≠ w.heap.size + 1 + 1 by omega) _).setOther (show xb ≠ w.heap.size + 1 + 1 by omega) _, (lb5.setOther (show bg ≠ w.heap.size + 1 + 1 by omega) _).setOther (show bg ≠ w.heap.size + 1 + 1 by omega) _, by omega, by omega, by omega, nn1, nn2, nn3, hcp, (hbb.setCell (show w.heap.size ≤ w.heap.size + 1 + 1 by omega) _).setCell (show w.heap.size ≤ w.heap.size + 1 + 1 by omega) _⟩

/-- One contract for every input. -/
theorem tNext_calls (c : Cfg) (hs : okW c.seed) (a : Option Addr) (n cap : Nat) (X : Nat → Exm) (DI DO : Nat → List Int) (a1 : Option Addr) (n1 k1 : Nat) (ws : List Int) (a2 : Option Addr) (n2 k2 : Nat) (ms : List Int) (step : Int) (w : World) (hx : Exs w a n cap X DI DO) (l1 : Lst w a1 n1 k1 ws) (l2 : Lst w a2 n2 k2 ms) :
    Calls Tryz.prog 36 #[c.val, .slice a n cap, .agg #[.slice a1 n1 k1, .slice a2 n2 k2], .int .i64 step] w fun e w' => ∃ b1 m1 d1 b2 m2 d2 a3 m3 d3, e = .returned (.tuple #[.agg #[.slice b1 m1 d1, .slice b2 m2 d2], .slice a3 m3 d3, .int .i64 (nxR c n X DI DO n1 ws n2 ms step), .int .i64 (nextE c n X DI DO n1 ws n2 ms step)]) ∧ m1 ≤ 200 ∧ m2 ≤ 200 ∧ m3 ≤ 200 ∧ Lst w' b1 m1 d1 (nxW c n X DI DO n1 ws n2 ms step) ∧ Lst w' b2 m2 d2 (nxM c n X DI DO n1 ws n2 ms step) ∧ Lst w' a3 m3 d3 (nxB c n X DI DO n1 ws n2 ms step) ∧ Below w.heap.size w w' := by
  have HC : ∀ q, Below w.heap.size w q → Calls Tryz.prog 17 #[c.val, .slice a n cap] q fun e w' => e = .returned (.int .i64 (courseI c n X DI DO)) ∧ Below q.heap.size q w' := fun q hq => tcheck_calls c a n cap X DI DO q (hx.below hq (Nat.le_refl _))
  by_cases hE : courseI c n X DI DO = 0
  · rw [hE] at HC
    obtain ⟨hc, hn1, hn2, hex⟩ := course_ok hE
    cases f1 : fitB c n1 ws with
    | false => exact nx_none (E := 5) (by unfold nextE; rw [if_pos hE, f1]; rfl) (by decide) (tNext_w c hc a n cap a1 n1 k1 ws a2 n2 k2 ms step w l1 l2 HC f1)
    | true =>
      cases f2 : fitB c n2 ms with
      | false => exact nx_none (E := 5) (by unfold nextE; rw [if_pos hE, f1, f2]; rfl) (by decide) (tNext_m c hc a n cap a1 n1 k1 ws a2 n2 k2 ms step w l1 l2 HC f1 f2)
      | true =>
        cases hst : inB step 0 (c.steps - 1) with
        | false => exact nx_none (E := 1) (by unfold nextE; rw [if_pos hE, f1, f2, hst]; rfl) (by decide) (tNext_r c hc a n cap a1 n1 k1 ws a2 n2 k2 ms step w l1 l2 HC f1 f2 hst)
        | true =>
          have hz : nextE c n X DI DO n1 ws n2 ms step = 0 := by unfold nextE; rw [if_pos hE, f1, f2, hst]; rfl
          have g1 := fit_len hc f1
          have g2 := fit_len hc f2
          have hn : n2 = n1 := by have := g1.1; have := g2.1; omega
          subst hn
          unfold nxR nxW nxM nxB
          rw [hz, if_pos rfl, if_pos rfl, if_pos rfl, if_pos rfl]
          have hlow := in_is hst
          obtain ⟨T, hT⟩ := Int.eq_ofNat_of_zero_le hlow.1
          obtain ⟨⟨i1, i2⟩, ⟨h1, h2⟩, ⟨o1, o2⟩, ⟨b1, b2⟩, _⟩ := cfgB_is hc
          obtain ⟨i, h, o, seed, batch, steps, crate, decay, how, keep, clip⟩ := c
          dsimp only at i1 i2 h1 h2 o1 o2 b1 b2 hs hlow ⊢
          obtain ⟨I, rfl⟩ := Int.eq_ofNat_of_zero_le (show 0 ≤ i by omega)
          obtain ⟨H, rfl⟩ := Int.eq_ofNat_of_zero_le (show 0 ≤ h by omega)
          obtain ⟨O, rfl⟩ := Int.eq_ofNat_of_zero_le (show 0 ≤ o by omega)
          obtain ⟨B, rfl⟩ := Int.eq_ofNat_of_zero_le (show 0 ≤ batch by omega)
          subst hT
          have hN : n2 = H * I + H + O * H + O := by have := g1.1; unfold sizeN at this; dsimp only at this; exact_mod_cast this
          refine (tNext_own _ hc a n cap a1 n2 k1 ws a2 n2 k2 ms T w l1 l2 HC f1 f2 hst B _ _ _ _ (fun q hq => tnext_own I H O B T seed crate decay how keep clip hs steps hc n2 hN a n cap X DI DO a1 k1 ws a2 k2 ms q (hx.below hq (Nat.le_refl _)) hn1 hn2 hex (l1.below hq (Nat.le_refl _)) (l2.below hq (Nat.le_refl _)) g1.2.2.2 g2.2.2.2 (by omega))).mono ?_
          rintro e w' ⟨x1, d1, x2, d2, bg, he, h⟩
          exact ⟨some ⟨x1, 0, none⟩, n2, d1, some ⟨x2, 0, none⟩, n2, d2, some ⟨bg, 0, none⟩, B, B, he, by omega, by omega, by omega, h.a1.lst, h.a2.lst, h.a3.lst, h.bel⟩
  · exact nx_none (by unfold nextE; rw [if_neg hE]) hE (tNext_c c a n cap a1 n1 k1 a2 n2 k2 step _ w hE HC)
end Go.Proofs.YtkikhfdkibekgaaGreat.Fx

/- An append of a whole list of integers, which may be empty, to one that the program itself makes. -/
namespace Go.Proofs.YtkikhfdkibekgaaGreat.Fx
open Go.RowKit

section
variable {w' W0 : World} {ops : Array Oper} {o : Oper} {a : Act} {Q : Exit → Act → World → Prop}
theorem run_append_zero (w' : World) (ty : TypeId) (base src : Option Addr) (l c d : Nat) (hle : l ≤ c) : (Builtin.append_ #[26, 26] ty #[.slice base l c, .slice src 0 d]).run Tryz.prog w' = .ok (.slice base l c) w' := by
  obtain ⟨i0, hi, _⟩ := info_parts info3
  cases base <;> cases src <;> simp [Builtin.append_, run_underlying Tryz.underlying26, sizeOf, typeInfo, hi, Builtin.lenOf, Builtin.firstCells, hle, storeCells, loadCells, loadCellsFrom]
theorem run_append_any (ty : TypeId) (base : Nat) (v : Value) (xs zs : List Int) (src : Option Addr) (m c : Nat) (hown : OwnI base w' v xs) (hz : Lst w' src m c zs) (hn : (xs.length + m) * 8 ≤ 140737488355328) (hbase : base ≤ w'.heap.size) (hB : Below base W0 w') :
    ∃ v' w1, (Builtin.append_ #[26, 26] ty #[v, .slice src m c]).run Tryz.prog w' = .ok v' w1 ∧ OwnI base w1 v' (xs ++ zs) ∧ Below base W0 w1 := by
  by_cases h0 : m = 0
  · subst h0
    have hz0 : zs = [] := List.length_eq_zero_iff.1 hz.len
    subst hz0
    obtain ⟨av, cv, hv, lv⟩ := hown.lst
    refine ⟨v, w', ?_, by rw [List.append_nil]; exact hown, hB⟩
    rw [hv]
    exact run_append_zero w' ty av src xs.length cv c lv.cap
  · obtain ⟨b, off, rfl, _, _⟩ := hz.at (by omega)
    exact run_append_all ty base v xs zs b off m c hown hz hn hbase hB

theorem step_append_any {K : Act → World → Prop} {E : Prop} (hgd : o.guard = none) (s x : Operand) (ho : o.op = .call { callee := .builtin .append, args := #[s, x], argTypes := #[26, 26] })
    (base : Nat) (v : Value) (xs zs : List Int) (src : Option Addr) (m c : Nat) (W0 : World) (hs : a.eval s = v) (hx : a.eval x = .slice src m c) (hown : OwnI base w' v xs) (hz : Lst w' src m c zs) (hn : (xs.length + m) * 8 ≤ 140737488355328) (hbase : base ≤ w'.heap.size) (hB : Below base W0 w')
    (h : ∀ v' w1, OwnI base w1 v' (xs ++ zs) → Below base W0 w1 → K (a.put o.dst v') w1) :
    if Region.wanted o (yielded ops a.tmps) = true then Oper.wp Tryz.prog o a w' K Q else E := by
  obtain ⟨v', w1, hrun, h1, h2⟩ := run_append_any o.type base v xs zs src m c hown hz hn hbase hB
  have hw : Region.wanted o (yielded ops a.tmps) = true := by simp [Region.wanted, hgd]
  rw [if_pos hw]
  unfold Oper.wp
  simp [execOp, ho, resolve, invoke, builtin, hs, hx, hrun, Result.andThen]
  exact h v' w1 h1 h2
theorem wpList_append_any {rest : List Oper} (hgd : o.guard = none) (s x : Operand) (ho : o.op = .call { callee := .builtin .append, args := #[s, x], argTypes := #[26, 26] })
    (base : Nat) (v : Value) (xs zs : List Int) (src : Option Addr) (m c : Nat) (W0 : World) (hs : a.eval s = v) (hx : a.eval x = .slice src m c) (hown : OwnI base w' v xs) (hz : Lst w' src m c zs) (hn : (xs.length + m) * 8 ≤ 140737488355328) (hbase : base ≤ w'.heap.size) (hB : Below base W0 w')
    (h : ∀ v' w1, OwnI base w1 v' (xs ++ zs) → Below base W0 w1 → wpList Tryz.prog ops Q rest (a.put o.dst v') w1) : wpList Tryz.prog ops Q (o :: rest) a w' := by
  obtain ⟨v', w1, hrun, h1, h2⟩ := run_append_any o.type base v xs zs src m c hown hz hn hbase hB
  refine wpList_plain hgd fun K hK => ?_
  unfold Oper.wp
  simp [execOp, ho, resolve, invoke, builtin, hs, hx, hrun, Result.andThen]
  exact hK _ _ (h v' w1 h1 h2)
end
end Go.Proofs.YtkikhfdkibekgaaGreat.Fx

/- What slices.Grow (of nil) and slices.Concat return, of lists that may be empty. -/
namespace Go.Proofs.YtkikhfdkibekgaaGreat.Fx
open Go.RowKit

theorem grow_any (n : Nat) (w : World) (h1 : n ≤ 1000) :
    Calls Tryz.prog 47 #[.slice none 0 0, .int .i64 n] w fun e w' => ∃ v, e = .returned v ∧ OwnI w.heap.size w' v [] ∧ Below w.heap.size w w' := by
  by_cases h0 : 0 < n
  · exact grow_calls n w h0 h1
  · have hz : ¬ (n : Int) > 0 := by omega
    have hz2 : ¬ (n : Int) < 0 := by omega
    have hz3 : ¬ 0 < n := h0
    go_enter Tryz.func47, Tryz.ntmps47
    go_wp2
    go_ret
    exact ⟨_, rfl, OwnI.nil _ _, Below.refl _ _⟩

set_option maxHeartbeats 1600000 in
theorem concat_any (n : Nat) (A : Nat → Option Addr) (L C : Nat → Nat) (X : Nat → List Int) (b : Nat) (w : World) (hb : b < w.heap.size) (hn0 : 0 < n) (hn : n ≤ 1000) (hc : ∀ i, i < n → w.cell? ⟨b, i, none⟩ = some (.slice (A i) (L i) (C i)))
    (hl : ∀ i, i < n → Lst w (A i) (L i) (C i) (X i)) (hs : lenTo L n ≤ 1000) :
    Calls Tryz.prog 26 #[.slice (some ⟨b, 0, none⟩) n n] w fun e w' => ∃ v, e = .returned v ∧ OwnI w.heap.size w' v (catTo X n) ∧ Below w.heap.size w w' := by
  have HC : Hid (∀ i, i < n → w.cell? ⟨b, i, none⟩ = some (.slice (A i) (L i) (C i))) := hc
  have HL : Hid (∀ i, i < n → Lst w (A i) (L i) (C i) (X i)) := hl
  clear hc hl
  go_enter Tryz.func26, Tryz.ntmps26
  go_wp2
  go_loopw [3, 11] (fun s i wr => ∃ k : Nat, k ≤ n ∧ i = .int .i64 k ∧ s = .int .i64 (lenTo L k) ∧ wr = w) (fun _ i _ => n - (intOf i).toNat)
  case atStart => exact ⟨0, Nat.zero_le _, rfl, rfl, rfl⟩
  case round =>
    obtain ⟨k, hk, rfl, rfl, hw⟩ := hrel
    replace hw := hw.symm
    subst hw
    by_cases hlt : k < n
    · have c := HC.out k hlt
      have b1 := lenTo_le L (k := k + 1) (n := n) (by omega)
      have b2 : lenTo L (k + 1) = lenTo L k + L k := rfl
      obtain ⟨l, hl⟩ : ∃ l, Hid (L k = l) := ⟨_, rfl⟩
      obtain ⟨T, hT⟩ : ∃ T, Hid (lenTo L k = T) := ⟨_, rfl⟩
      rw [hl.out] at c b2
      rw [hT.out] at b2
      have b3 : T + l ≤ 1000 := by omega
      rw [hT.out]
      clear b1 b2
      go_wp2
      go_roundw
      case rel => exact ⟨k + 1, by omega, by go_num, by rw [lenTo, hT.out, hl.out]; go_num, by trivial⟩
      case measure => simp [intOf]; omega
    · obtain rfl : k = n := by omega
      obtain ⟨T, hT⟩ : ∃ T, Hid (lenTo L k = T) := ⟨_, rfl⟩
      have HS : Hid (lenTo L k ≤ 1000) := hs
      rw [hT.out] at hs ⊢
      go_wp2_with fail
      refine (grow_any T _ hs).mono ?_
      rintro e w1 ⟨v0, rfl, hown, hw1⟩
      go_wp2
      go_loopw [6, 27] (fun v i wr => ∃ j : Nat, j ≤ k ∧ i = .int .i64 j ∧ OwnI w.heap.size wr v (catTo X j) ∧ Below w.heap.size w wr) (fun _ i _ => k - (intOf i).toNat)
      case atStart => exact ⟨0, Nat.zero_le _, rfl, hown, hw1⟩
      case round =>
        obtain ⟨j, hj, rfl, hown, hbel⟩ := hrel
        have hsz := hbel.size
        by_cases hlt2 : j < k
        · have c := (hbel.cell (p := ⟨b, j, none⟩) (by exact hb)).trans (HC.out j hlt2)
          have hx := (HL.out j hlt2).below hbel (Nat.le_refl _)
          have hlen : (catTo X j).length + L j ≤ 1000 := by
            rw [catTo_len X L j (fun i hi => (HL.out i (by omega)).len)]
            have b1 := lenTo_le L (k := j + 1) (n := k) (by omega)
            have b2 : lenTo L (j + 1) = lenTo L j + L j := rfl
            have := HS.out
            omega
          obtain ⟨l, hl⟩ : ∃ l, Hid (L j = l) := ⟨_, rfl⟩
          rw [hl.out] at c hx hlen
          go_wp2_with (at_builtin; refine wpList_append_any (by rfl) _ _ (by rfl) w.heap.size _ (catTo X j) (X j) (A j) l (C j) w (by rfl) (by rfl) (by exact hown) (by exact hx) (by omega) (by exact hsz) (by exact hbel) ?_; intro v1 w3 hown1 hbel1)
          go_roundw
          case rel => exact ⟨j + 1, by omega, by go_num, hown1, hbel1⟩
          case measure => simp [intOf]; omega
        · obtain rfl : j = k := by omega
          go_wp2
          go_ret
          exact ⟨_, rfl, hown, hbel⟩

def two {α : Type} (x0 x1 : α) (i : Nat) : α := if i = 0 then x0 else x1
theorem lt_two {i : Nat} (h : i < 2) : i = 0 ∨ i = 1 := by omega

theorem concat2 (a0 a1 : Option Addr) (l0 l1 c0 c1 : Nat) (x0 x1 : List Int) (g : Nat) (w : World) (hg : g = w.heap.size) (h0 : Lst w a0 l0 c0 x0) (h1 : Lst w a1 l1 c1 x1) (hs : l0 + l1 ≤ 1000) :
    Calls Tryz.prog 26 #[.slice (some ⟨g, 0, none⟩) 2 2] (w.alloc (.cells #[.slice a0 l0 c0, .slice a1 l1 c1] 26)) fun e w' => ∃ a c, e = .returned (.slice a (l0 + l1) c) ∧ Lst w' a (l0 + l1) c (x0 ++ x1) ∧ Below w.heap.size w w' := by
  subst hg
  have hal := (Below.refl w.heap.size w).alloc (Nat.le_refl _) (.cells #[.slice a0 l0 c0, .slice a1 l1 c1] 26)
  have hr := World.rowIs_alloc w #[.slice a0 l0 c0, .slice a1 l1 c1] 26 (fun i => .slice (two a0 a1 i) (two l0 l1 i) (two c0 c1 i)) (by
    intro i hi
    rcases lt_two hi with rfl | rfl <;> rfl)
  refine (concat_any 2 (two a0 a1) (two l0 l1) (two c0 c1) (two x0 x1) w.heap.size _ (by simp) (by omega) (by omega) (fun i hi => hr.cell hi) ?_ ?_).mono ?_
  · intro i hi
    rcases lt_two hi with rfl | rfl
    · exact h0.below hal (Nat.le_refl _)
    · exact h1.below hal (Nat.le_refl _)
  · show 0 + l0 + l1 ≤ 1000
    omega
  · rintro e w' ⟨v, rfl, hown, hb⟩
    have e1 : catTo (two x0 x1) 2 = x0 ++ x1 := by
      show ([] ++ x0) ++ x1 = _
      simp
    rw [e1] at hown
    have e2 : (x0 ++ x1).length = l0 + l1 := by rw [List.length_append, h0.len, h1.len]
    obtain ⟨a, c, rfl, hl⟩ := hown.lst
    rw [e2] at hl ⊢
    exact ⟨a, c, rfl, hl, hal.trans (hb.mono hal.size)⟩
end Go.Proofs.YtkikhfdkibekgaaGreat.Fx
