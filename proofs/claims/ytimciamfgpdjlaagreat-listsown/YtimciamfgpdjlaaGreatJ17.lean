/- What train.Next returns, whatever is handed in: the rest of its ways. -/
import Derived.Test.YtimciamfgpdjlaaGreatJ16
import Derived.Test.YtimciamfgpdjlaaGreatJ09
import Derived.Test.YtimciamfgpdjlaaGreatJ03
namespace Go.Proofs.YtimciamfgpdjlaaGreat.Fx
open Go.RowKit

set_option maxRecDepth 100000 in
set_option maxHeartbeats 3200000 in
theorem tNext_m (c : Cfg) (hc : cfgB c = true) (a : Option Addr) (n cap : Nat) (a1 : Option Addr) (n1 k1 : Nat) (ws : List Int) (a2 : Option Addr) (n2 k2 : Nat) (ms : List Int) (step : Int) (w : World) (l1 : Lst w a1 n1 k1 ws) (l2 : Lst w a2 n2 k2 ms) (HC : Hid (∀ q, Below w.heap.size w q → Calls Tryz.prog 54 #[c.val, .slice a n cap] q fun e w' => e = .returned (.int .i64 0) ∧ Below q.heap.size q w')) (f1 : fitB c n1 ws = true) (f2 : fitB c n2 ms = false) :
    Calls Tryz.prog 125 #[c.val, .slice a n cap, .agg #[.slice a1 n1 k1, .slice a2 n2 k2], .int .i64 step] w fun e w' => e = .returned (.tuple #[.agg #[.slice none 0 0, .slice none 0 0], .slice none 0 0, .int .i64 0, .int .i64 5]) ∧ Below w.heap.size w w' := by
  have sb0 := StBox.start w c (.slice a1 n1 k1) (.slice a2 n2 k2)
  have CK := HC.out _ sb0.bel
  have hz := sizeN_bd hc
  have HN : Hid (∀ q, Calls Tryz.prog 148 #[c.val] q fun e w' => e = .returned (.int .i64 (sizeN c)) ∧ w' = q.alloc (.cells c.cells 24)) := fun q => tcount_calls c hc q
  have HI1 : Hid (∀ q, Below w.heap.size w q → Calls Tryz.prog 113 #[.slice a1 n1 k1, .int .i64 (sizeN c)] q fun e w' => e = .returned (.bool true) ∧ w' = q) := fun q hq => by
    have := isList_calls a1 n1 k1 ws (sizeN c) q (l1.below hq (Nat.le_refl _)) (by omega)
    rw [show (decide ((n1 : Int) = sizeN c) && rightB ws) = true from f1] at this
    exact this
  have HI2 : Hid (∀ q, Below w.heap.size w q → Calls Tryz.prog 113 #[.slice a2 n2 k2, .int .i64 (sizeN c)] q fun e w' => e = .returned (.bool false) ∧ w' = q) := fun q hq => by
    have := isList_calls a2 n2 k2 ms (sizeN c) q (l2.below hq (Nat.le_refl _)) (by omega)
    rw [show (decide ((n2 : Int) = sizeN c) && rightB ms) = false from f2] at this
    exact this
  generalize sizeN c = Z at *
  clear HC l1 l2 f1 f2 hc hz
  obtain ⟨i, h, o, seed, batch, steps, crate, decay, how, keep, clip⟩ := c
  simp only [Cfg.val, Cfg.cells] at *
  go_enter Tryz.func125, Tryz.ntmps125
  go_wp2_with fail
  refine CK.mono ?_
  rintro e w1 ⟨rfl, hw1⟩
  have sb1 := sb0.below hw1
  clear hw1 sb0 CK
  have KS : Hid (∀ q, Below w1.heap.size w1 q → q.cell? ⟨w.heap.size, 0, none⟩ = some (.int .i64 i) ∧ q.cell? ⟨w.heap.size, 1, none⟩ = some (.int .i64 h) ∧ q.cell? ⟨w.heap.size, 2, none⟩ = some (.int .i64 o) ∧ q.cell? ⟨w.heap.size, 3, none⟩ = some (.int .u64 seed) ∧ q.cell? ⟨w.heap.size, 4, none⟩ = some (.int .i64 batch) ∧ q.cell? ⟨w.heap.size, 5, none⟩ = some (.int .i64 steps) ∧ q.cell? ⟨w.heap.size, 6, none⟩ = some (.int .i64 crate) ∧ q.cell? ⟨w.heap.size, 7, none⟩ = some (.int .i64 decay) ∧ q.cell? ⟨w.heap.size, 8, none⟩ = some (.int .i64 how) ∧ q.cell? ⟨w.heap.size, 9, none⟩ = some (.int .i64 keep) ∧ q.cell? ⟨w.heap.size, 10, none⟩ = some (.int .i64 clip) ∧ q.cell? ⟨w.heap.size + 1, 0, none⟩ = some (.slice a1 n1 k1) ∧ q.cell? ⟨w.heap.size + 1, 1, none⟩ = some (.slice a2 n2 k2)) := fun q hq => by
    have sq := sb1.below hq
    obtain ⟨x0, x1, x2, x3, x4, x5, x6, x7, x8, x9, x10⟩ := sq.cfg
    exact ⟨x0, x1, x2, x3, x4, x5, x6, x7, x8, x9, x10, (fn2_cells sq.st).1, (fn2_cells sq.st).2⟩
  have KW : Hid (∀ q, Below w1.heap.size w1 q → Below w.heap.size w q) := fun q hq => (sb1.below hq).bel
  have T0 : Below w1.heap.size w1 w1 := Below.refl _ _
  have T1 : Below w1.heap.size w1 (w1.alloc (.cells #[.int .i64 i, .int .i64 h, .int .i64 o, .int .u64 seed, .int .i64 batch, .int .i64 steps, .int .i64 crate, .int .i64 decay, .int .i64 how, .int .i64 keep, .int .i64 clip] 24)) := T0.alloc T0.size _
  have T2 : Below w1.heap.size w1 ((w1.alloc (.cells #[.int .i64 i, .int .i64 h, .int .i64 o, .int .u64 seed, .int .i64 batch, .int .i64 steps, .int .i64 crate, .int .i64 decay, .int .i64 how, .int .i64 keep, .int .i64 clip] 24)).alloc (.cells #[.int .i64 i, .int .i64 h, .int .i64 o, .int .u64 seed, .int .i64 batch, .int .i64 steps, .int .i64 crate, .int .i64 decay, .int .i64 how, .int .i64 keep, .int .i64 clip] 24)) := T1.alloc T1.size _
  obtain ⟨c0, c1, c2, c3, c4, c5, c6, c7, c8, c9, c10, s0, s1⟩ := KS.out _ T0
  obtain ⟨d0, d1, d2, d3, d4, d5, d6, d7, d8, d9, d10, t0, t1⟩ := KS.out _ T1
  go_wp2_with fail
  have S0 := KS.out _ (Below.drew T0)
  have S1 := KS.out _ (Below.drew T1)
  have S2 := KS.out _ (Below.drew T2)
  go_region_held3 (fun q => q.cell? ⟨w.heap.size, 0, none⟩ = some (.int .i64 i) ∧ q.cell? ⟨w.heap.size, 1, none⟩ = some (.int .i64 h) ∧ q.cell? ⟨w.heap.size, 2, none⟩ = some (.int .i64 o) ∧ q.cell? ⟨w.heap.size, 3, none⟩ = some (.int .u64 seed) ∧ q.cell? ⟨w.heap.size, 4, none⟩ = some (.int .i64 batch) ∧ q.cell? ⟨w.heap.size, 5, none⟩ = some (.int .i64 steps) ∧ q.cell? ⟨w.heap.size, 6, none⟩ = some (.int .i64 crate) ∧ q.cell? ⟨w.heap.size, 7, none⟩ = some (.int .i64 decay) ∧ q.cell? ⟨w.heap.size, 8, none⟩ = some (.int .i64 how) ∧ q.cell? ⟨w.heap.size, 9, none⟩ = some (.int .i64 keep) ∧ q.cell? ⟨w.heap.size, 10, none⟩ = some (.int .i64 clip) ∧ q.cell? ⟨w.heap.size + 1, 0, none⟩ = some (.slice a1 n1 k1) ∧ q.cell? ⟨w.heap.size + 1, 1, none⟩ = some (.slice a2 n2 k2)) (first | with_reducible exact S0 | with_reducible exact S1 | with_reducible exact S2)
    (first | (go_at_call 148; refine (HN.out _).mono ?_; rintro e w' ⟨rfl, rfl⟩) | (go_at_call_of 113 (Value.slice a1 n1 k1); refine (HI1.out _ (KW.out _ (Below.drew T1))).mono ?_; rintro e w' ⟨rfl, rfl⟩) | (go_at_call_of 113 (Value.slice a2 n2 k2); refine (HI2.out _ (KW.out _ (Below.drew T2))).mono ?_; rintro e w' ⟨rfl, rfl⟩))
  have T3 := Below.drew T2
  clear S0 S1 S2 c0 c1 c2 c3 c4 c5 c6 c7 c8 c9 c10 s0 s1 d0 d1 d2 d3 d4 d5 d6 d7 d8 d9 d10 t0 t1 T0 T1 T2 HN HI1 HI2
  generalize ((w1.alloc (.cells #[.int .i64 i, .int .i64 h, .int .i64 o, .int .u64 seed, .int .i64 batch, .int .i64 steps, .int .i64 crate, .int .i64 decay, .int .i64 how, .int .i64 keep, .int .i64 clip] 24)).alloc (.cells #[.int .i64 i, .int .i64 h, .int .i64 o, .int .u64 seed, .int .i64 batch, .int .i64 steps, .int .i64 crate, .int .i64 decay, .int .i64 how, .int .i64 keep, .int .i64 clip] 24)).drew = w2 at T3 ⊢
  have sb2 := sb1.below T3
  have hr1 := sb2.res
  have hb1 := sb2.bel
  obtain ⟨r0, r1⟩ := fn2_cells hr1
  have f0 := hr1.frozen 0
  have f1 := hr1.frozen 1
  obtain ⟨c0, c1, c2, c3, c4, c5, c6, c7, c8, c9, c10, s0, s1⟩ := KS.out _ T3
  go_wp2_with fail
  obtain ⟨q0, q1⟩ := fn2_cells (fn2_set hr1 (.slice none 0 0) (.slice none 0 0))
  exact bodyPost_ret (v := .tuple #[.agg #[.slice none 0 0, .slice none 0 0], .slice none 0 0, .int .i64 0, .int .i64 5]) (by simp [results, Tryz.results125, go_sem, q0, q1]) rfl ⟨rfl, (hb1.setCell (show w.heap.size ≤ w.heap.size + 1 + 1 by omega) _).setCell (show w.heap.size ≤ w.heap.size + 1 + 1 by omega) _⟩

set_option maxRecDepth 100000 in
set_option maxHeartbeats 3200000 in
theorem tNext_r (c : Cfg) (hc : cfgB c = true) (a : Option Addr) (n cap : Nat) (a1 : Option Addr) (n1 k1 : Nat) (ws : List Int) (a2 : Option Addr) (n2 k2 : Nat) (ms : List Int) (step : Int) (w : World) (l1 : Lst w a1 n1 k1 ws) (l2 : Lst w a2 n2 k2 ms) (HC : Hid (∀ q, Below w.heap.size w q → Calls Tryz.prog 54 #[c.val, .slice a n cap] q fun e w' => e = .returned (.int .i64 0) ∧ Below q.heap.size q w')) (f1 : fitB c n1 ws = true) (f2 : fitB c n2 ms = true) (hst : inB step 0 (c.steps - 1) = false) :
    Calls Tryz.prog 125 #[c.val, .slice a n cap, .agg #[.slice a1 n1 k1, .slice a2 n2 k2], .int .i64 step] w fun e w' => e = .returned (.tuple #[.agg #[.slice none 0 0, .slice none 0 0], .slice none 0 0, .int .i64 0, .int .i64 1]) ∧ Below w.heap.size w w' := by
  have hlow : ¬ (0 ≤ step ∧ step ≤ c.steps - 1) := fun g => by rw [in_yes g] at hst; cases hst
  clear hst
  have sb0 := StBox.start w c (.slice a1 n1 k1) (.slice a2 n2 k2)
  have CK := HC.out _ sb0.bel
  have hz := sizeN_bd hc
  have HN : Hid (∀ q, Calls Tryz.prog 148 #[c.val] q fun e w' => e = .returned (.int .i64 (sizeN c)) ∧ w' = q.alloc (.cells c.cells 24)) := fun q => tcount_calls c hc q
  have HI1 : Hid (∀ q, Below w.heap.size w q → Calls Tryz.prog 113 #[.slice a1 n1 k1, .int .i64 (sizeN c)] q fun e w' => e = .returned (.bool true) ∧ w' = q) := fun q hq => by
    have := isList_calls a1 n1 k1 ws (sizeN c) q (l1.below hq (Nat.le_refl _)) (by omega)
    rw [show (decide ((n1 : Int) = sizeN c) && rightB ws) = true from f1] at this
    exact this
  have HI2 : Hid (∀ q, Below w.heap.size w q → Calls Tryz.prog 113 #[.slice a2 n2 k2, .int .i64 (sizeN c)] q fun e w' => e = .returned (.bool true) ∧ w' = q) := fun q hq => by
    have := isList_calls a2 n2 k2 ms (sizeN c) q (l2.below hq (Nat.le_refl _)) (by omega)
    rw [show (decide ((n2 : Int) = sizeN c) && rightB ms) = true from f2] at this
    exact this
  generalize sizeN c = Z at *
  clear HC l1 l2 f1 f2 hc hz
  obtain ⟨i, h, o, seed, batch, steps, crate, decay, how, keep, clip⟩ := c
  simp only [Cfg.val, Cfg.cells] at *
  go_enter Tryz.func125, Tryz.ntmps125
  go_wp2_with fail
  refine CK.mono ?_
  rintro e w1 ⟨rfl, hw1⟩
  have sb1 := sb0.below hw1
  clear hw1 sb0 CK
  have KS : Hid (∀ q, Below w1.heap.size w1 q → q.cell? ⟨w.heap.size, 0, none⟩ = some (.int .i64 i) ∧ q.cell? ⟨w.heap.size, 1, none⟩ = some (.int .i64 h) ∧ q.cell? ⟨w.heap.size, 2, none⟩ = some (.int .i64 o) ∧ q.cell? ⟨w.heap.size, 3, none⟩ = some (.int .u64 seed) ∧ q.cell? ⟨w.heap.size, 4, none⟩ = some (.int .i64 batch) ∧ q.cell? ⟨w.heap.size, 5, none⟩ = some (.int .i64 steps) ∧ q.cell? ⟨w.heap.size, 6, none⟩ = some (.int .i64 crate) ∧ q.cell? ⟨w.heap.size, 7, none⟩ = some (.int .i64 decay) ∧ q.cell? ⟨w.heap.size, 8, none⟩ = some (.int .i64 how) ∧ q.cell? ⟨w.heap.size, 9, none⟩ = some (.int .i64 keep) ∧ q.cell? ⟨w.heap.size, 10, none⟩ = some (.int .i64 clip) ∧ q.cell? ⟨w.heap.size + 1, 0, none⟩ = some (.slice a1 n1 k1) ∧ q.cell? ⟨w.heap.size + 1, 1, none⟩ = some (.slice a2 n2 k2)) := fun q hq => by
    have sq := sb1.below hq
    obtain ⟨x0, x1, x2, x3, x4, x5, x6, x7, x8, x9, x10⟩ := sq.cfg
    exact ⟨x0, x1, x2, x3, x4, x5, x6, x7, x8, x9, x10, (fn2_cells sq.st).1, (fn2_cells sq.st).2⟩
  have KW : Hid (∀ q, Below w1.heap.size w1 q → Below w.heap.size w q) := fun q hq => (sb1.below hq).bel
  have T0 : Below w1.heap.size w1 w1 := Below.refl _ _
  have T1 : Below w1.heap.size w1 (w1.alloc (.cells #[.int .i64 i, .int .i64 h, .int .i64 o, .int .u64 seed, .int .i64 batch, .int .i64 steps, .int .i64 crate, .int .i64 decay, .int .i64 how, .int .i64 keep, .int .i64 clip] 24)) := T0.alloc T0.size _
  have T2 : Below w1.heap.size w1 ((w1.alloc (.cells #[.int .i64 i, .int .i64 h, .int .i64 o, .int .u64 seed, .int .i64 batch, .int .i64 steps, .int .i64 crate, .int .i64 decay, .int .i64 how, .int .i64 keep, .int .i64 clip] 24)).alloc (.cells #[.int .i64 i, .int .i64 h, .int .i64 o, .int .u64 seed, .int .i64 batch, .int .i64 steps, .int .i64 crate, .int .i64 decay, .int .i64 how, .int .i64 keep, .int .i64 clip] 24)) := T1.alloc T1.size _
  obtain ⟨c0, c1, c2, c3, c4, c5, c6, c7, c8, c9, c10, s0, s1⟩ := KS.out _ T0
  obtain ⟨d0, d1, d2, d3, d4, d5, d6, d7, d8, d9, d10, t0, t1⟩ := KS.out _ T1
  go_wp2_with fail
  have S0 := KS.out _ (Below.drew T0)
  have S1 := KS.out _ (Below.drew T1)
  have S2 := KS.out _ (Below.drew T2)
  go_region_held3 (fun q => q.cell? ⟨w.heap.size, 0, none⟩ = some (.int .i64 i) ∧ q.cell? ⟨w.heap.size, 1, none⟩ = some (.int .i64 h) ∧ q.cell? ⟨w.heap.size, 2, none⟩ = some (.int .i64 o) ∧ q.cell? ⟨w.heap.size, 3, none⟩ = some (.int .u64 seed) ∧ q.cell? ⟨w.heap.size, 4, none⟩ = some (.int .i64 batch) ∧ q.cell? ⟨w.heap.size, 5, none⟩ = some (.int .i64 steps) ∧ q.cell? ⟨w.heap.size, 6, none⟩ = some (.int .i64 crate) ∧ q.cell? ⟨w.heap.size, 7, none⟩ = some (.int .i64 decay) ∧ q.cell? ⟨w.heap.size, 8, none⟩ = some (.int .i64 how) ∧ q.cell? ⟨w.heap.size, 9, none⟩ = some (.int .i64 keep) ∧ q.cell? ⟨w.heap.size, 10, none⟩ = some (.int .i64 clip) ∧ q.cell? ⟨w.heap.size + 1, 0, none⟩ = some (.slice a1 n1 k1) ∧ q.cell? ⟨w.heap.size + 1, 1, none⟩ = some (.slice a2 n2 k2)) (first | with_reducible exact S0 | with_reducible exact S1 | with_reducible exact S2)
    (first | (go_at_call 148; refine (HN.out _).mono ?_; rintro e w' ⟨rfl, rfl⟩) | (go_at_call_of 113 (Value.slice a1 n1 k1); refine (HI1.out _ (KW.out _ (Below.drew T1))).mono ?_; rintro e w' ⟨rfl, rfl⟩) | (go_at_call_of 113 (Value.slice a2 n2 k2); refine (HI2.out _ (KW.out _ (Below.drew T2))).mono ?_; rintro e w' ⟨rfl, rfl⟩))
  have T3 := Below.drew T2
  clear S0 S1 S2 c0 c1 c2 c3 c4 c5 c6 c7 c8 c9 c10 s0 s1 d0 d1 d2 d3 d4 d5 d6 d7 d8 d9 d10 t0 t1 T0 T1 T2 HN HI1 HI2
  generalize ((w1.alloc (.cells #[.int .i64 i, .int .i64 h, .int .i64 o, .int .u64 seed, .int .i64 batch, .int .i64 steps, .int .i64 crate, .int .i64 decay, .int .i64 how, .int .i64 keep, .int .i64 clip] 24)).alloc (.cells #[.int .i64 i, .int .i64 h, .int .i64 o, .int .u64 seed, .int .i64 batch, .int .i64 steps, .int .i64 crate, .int .i64 decay, .int .i64 how, .int .i64 keep, .int .i64 clip] 24)).drew = w2 at T3 ⊢
  have sb2 := sb1.below T3
  have hr1 := sb2.res
  have hb1 := sb2.bel
  obtain ⟨r0, r1⟩ := fn2_cells hr1
  have f0 := hr1.frozen 0
  have f1 := hr1.frozen 1
  obtain ⟨c0, c1, c2, c3, c4, c5, c6, c7, c8, c9, c10, s0, s1⟩ := KS.out _ T3
  by_cases hn : step < 0
  · skip
    go_wp2_with fail
    obtain ⟨q0, q1⟩ := fn2_cells (fn2_set hr1 (.slice none 0 0) (.slice none 0 0))
    exact bodyPost_ret (v := .tuple #[.agg #[.slice none 0 0, .slice none 0 0], .slice none 0 0, .int .i64 0, .int .i64 1]) (by simp [results, Tryz.results125, go_sem, q0, q1]) rfl ⟨rfl, (hb1.setCell (show w.heap.size ≤ w.heap.size + 1 + 1 by omega) _).setCell (show w.heap.size ≤ w.heap.size + 1 + 1 by omega) _⟩
  · have hge : steps ≤ step := by omega
    go_wp2_with fail
    obtain ⟨q0, q1⟩ := fn2_cells (fn2_set hr1 (.slice none 0 0) (.slice none 0 0))
    exact bodyPost_ret (v := .tuple #[.agg #[.slice none 0 0, .slice none 0 0], .slice none 0 0, .int .i64 0, .int .i64 1]) (by simp [results, Tryz.results125, go_sem, q0, q1]) rfl ⟨rfl, (hb1.setCell (show w.heap.size ≤ w.heap.size + 1 + 1 by omega) _).setCell (show w.heap.size ≤ w.heap.size + 1 + 1 by omega) _⟩

set_option maxRecDepth 100000 in
set_option maxHeartbeats 3200000 in
theorem tNext_own (c : Cfg) (hc : cfgB c = true) (a : Option Addr) (n cap : Nat) (a1 : Option Addr) (n1 k1 : Nat) (ws : List Int) (a2 : Option Addr) (n2 k2 : Nat) (ms : List Int) (step : Int) (w : World) (l1 : Lst w a1 n1 k1 ws) (l2 : Lst w a2 n2 k2 ms) (HC : Hid (∀ q, Below w.heap.size w q → Calls Tryz.prog 54 #[c.val, .slice a n cap] q fun e w' => e = .returned (.int .i64 0) ∧ Below q.heap.size q w')) (f1 : fitB c n1 ws = true) (f2 : fitB c n2 ms = true) (hst : inB step 0 (c.steps - 1) = true) (B : Nat) (R : Int) (F M G : Nat → Int) (HNX : Hid (∀ q, Below w.heap.size w q → Calls Tryz.prog 104 #[c.val, .slice a n cap, .agg #[.slice a1 n1 k1, .slice a2 n2 k2], .int .i64 step] q fun e w' => ∃ g1 d1 g2 d2 bg, e = .returned (.tuple #[.agg #[.slice (some ⟨g1, 0, none⟩) n1 d1, .slice (some ⟨g2, 0, none⟩) n1 d2], .slice (some ⟨bg, 0, none⟩) B B, .int .i64 R]) ∧ NextO q w' n1 B F M G g1 d1 g2 d2 bg)) :
    Calls Tryz.prog 125 #[c.val, .slice a n cap, .agg #[.slice a1 n1 k1, .slice a2 n2 k2], .int .i64 step] w fun e w' => ∃ g1 d1 g2 d2 bg, e = .returned (.tuple #[.agg #[.slice (some ⟨g1, 0, none⟩) n1 d1, .slice (some ⟨g2, 0, none⟩) n1 d2], .slice (some ⟨bg, 0, none⟩) B B, .int .i64 R, .int .i64 0]) ∧ NextO w w' n1 B F M G g1 d1 g2 d2 bg := by
  have hlow := in_is hst
  clear hst
  have sb0 := StBox.start w c (.slice a1 n1 k1) (.slice a2 n2 k2)
  have CK := HC.out _ sb0.bel
  have hz := sizeN_bd hc
  have HN : Hid (∀ q, Calls Tryz.prog 148 #[c.val] q fun e w' => e = .returned (.int .i64 (sizeN c)) ∧ w' = q.alloc (.cells c.cells 24)) := fun q => tcount_calls c hc q
  have HI1 : Hid (∀ q, Below w.heap.size w q → Calls Tryz.prog 113 #[.slice a1 n1 k1, .int .i64 (sizeN c)] q fun e w' => e = .returned (.bool true) ∧ w' = q) := fun q hq => by
    have := isList_calls a1 n1 k1 ws (sizeN c) q (l1.below hq (Nat.le_refl _)) (by omega)
    rw [show (decide ((n1 : Int) = sizeN c) && rightB ws) = true from f1] at this
    exact this
  have HI2 : Hid (∀ q, Below w.heap.size w q → Calls Tryz.prog 113 #[.slice a2 n2 k2, .int .i64 (sizeN c)] q fun e w' => e = .returned (.bool true) ∧ w' = q) := fun q hq => by
    have := isList_calls a2 n2 k2 ms (sizeN c) q (l2.below hq (Nat.le_refl _)) (by omega)
    rw [show (decide ((n2 : Int) = sizeN c) && rightB ms) = true from f2] at this
    exact this
  generalize sizeN c = Z at *
  clear HC l1 l2 f1 f2 hc hz
  obtain ⟨i, h, o, seed, batch, steps, crate, decay, how, keep, clip⟩ := c
  simp only [Cfg.val, Cfg.cells] at *
  go_enter Tryz.func125, Tryz.ntmps125
  go_wp2_with fail
  refine CK.mono ?_
  rintro e w1 ⟨rfl, hw1⟩
  have sb1 := sb0.below hw1
  clear hw1 sb0 CK
  have KS : Hid (∀ q, Below w1.heap.size w1 q → q.cell? ⟨w.heap.size, 0, none⟩ = some (.int .i64 i) ∧ q.cell? ⟨w.heap.size, 1, none⟩ = some (.int .i64 h) ∧ q.cell? ⟨w.heap.size, 2, none⟩ = some (.int .i64 o) ∧ q.cell? ⟨w.heap.size, 3, none⟩ = some (.int .u64 seed) ∧ q.cell? ⟨w.heap.size, 4, none⟩ = some (.int .i64 batch) ∧ q.cell? ⟨w.heap.size, 5, none⟩ = some (.int .i64 steps) ∧ q.cell? ⟨w.heap.size, 6, none⟩ = some (.int .i64 crate) ∧ q.cell? ⟨w.heap.size, 7, none⟩ = some (.int .i64 decay) ∧ q.cell? ⟨w.heap.size, 8, none⟩ = some (.int .i64 how) ∧ q.cell? ⟨w.heap.size, 9, none⟩ = some (.int .i64 keep) ∧ q.cell? ⟨w.heap.size, 10, none⟩ = some (.int .i64 clip) ∧ q.cell? ⟨w.heap.size + 1, 0, none⟩ = some (.slice a1 n1 k1) ∧ q.cell? ⟨w.heap.size + 1, 1, none⟩ = some (.slice a2 n2 k2)) := fun q hq => by
    have sq := sb1.below hq
    obtain ⟨x0, x1, x2, x3, x4, x5, x6, x7, x8, x9, x10⟩ := sq.cfg
    exact ⟨x0, x1, x2, x3, x4, x5, x6, x7, x8, x9, x10, (fn2_cells sq.st).1, (fn2_cells sq.st).2⟩
  have KW : Hid (∀ q, Below w1.heap.size w1 q → Below w.heap.size w q) := fun q hq => (sb1.below hq).bel
  have T0 : Below w1.heap.size w1 w1 := Below.refl _ _
  have T1 : Below w1.heap.size w1 (w1.alloc (.cells #[.int .i64 i, .int .i64 h, .int .i64 o, .int .u64 seed, .int .i64 batch, .int .i64 steps, .int .i64 crate, .int .i64 decay, .int .i64 how, .int .i64 keep, .int .i64 clip] 24)) := T0.alloc T0.size _
  have T2 : Below w1.heap.size w1 ((w1.alloc (.cells #[.int .i64 i, .int .i64 h, .int .i64 o, .int .u64 seed, .int .i64 batch, .int .i64 steps, .int .i64 crate, .int .i64 decay, .int .i64 how, .int .i64 keep, .int .i64 clip] 24)).alloc (.cells #[.int .i64 i, .int .i64 h, .int .i64 o, .int .u64 seed, .int .i64 batch, .int .i64 steps, .int .i64 crate, .int .i64 decay, .int .i64 how, .int .i64 keep, .int .i64 clip] 24)) := T1.alloc T1.size _
  obtain ⟨c0, c1, c2, c3, c4, c5, c6, c7, c8, c9, c10, s0, s1⟩ := KS.out _ T0
  obtain ⟨d0, d1, d2, d3, d4, d5, d6, d7, d8, d9, d10, t0, t1⟩ := KS.out _ T1
  go_wp2_with fail
  have S0 := KS.out _ (Below.drew T0)
  have S1 := KS.out _ (Below.drew T1)
  have S2 := KS.out _ (Below.drew T2)
  go_region_held3 (fun q => q.cell? ⟨w.heap.size, 0, none⟩ = some (.int .i64 i) ∧ q.cell? ⟨w.heap.size, 1, none⟩ = some (.int .i64 h) ∧ q.cell? ⟨w.heap.size, 2, none⟩ = some (.int .i64 o) ∧ q.cell? ⟨w.heap.size, 3, none⟩ = some (.int .u64 seed) ∧ q.cell? ⟨w.heap.size, 4, none⟩ = some (.int .i64 batch) ∧ q.cell? ⟨w.heap.size, 5, none⟩ = some (.int .i64 steps) ∧ q.cell? ⟨w.heap.size, 6, none⟩ = some (.int .i64 crate) ∧ q.cell? ⟨w.heap.size, 7, none⟩ = some (.int .i64 decay) ∧ q.cell? ⟨w.heap.size, 8, none⟩ = some (.int .i64 how) ∧ q.cell? ⟨w.heap.size, 9, none⟩ = some (.int .i64 keep) ∧ q.cell? ⟨w.heap.size, 10, none⟩ = some (.int .i64 clip) ∧ q.cell? ⟨w.heap.size + 1, 0, none⟩ = some (.slice a1 n1 k1) ∧ q.cell? ⟨w.heap.size + 1, 1, none⟩ = some (.slice a2 n2 k2)) (first | with_reducible exact S0 | with_reducible exact S1 | with_reducible exact S2)
    (first | (go_at_call 148; refine (HN.out _).mono ?_; rintro e w' ⟨rfl, rfl⟩) | (go_at_call_of 113 (Value.slice a1 n1 k1); refine (HI1.out _ (KW.out _ (Below.drew T1))).mono ?_; rintro e w' ⟨rfl, rfl⟩) | (go_at_call_of 113 (Value.slice a2 n2 k2); refine (HI2.out _ (KW.out _ (Below.drew T2))).mono ?_; rintro e w' ⟨rfl, rfl⟩))
  have T3 := Below.drew T2
  clear S0 S1 S2 c0 c1 c2 c3 c4 c5 c6 c7 c8 c9 c10 s0 s1 d0 d1 d2 d3 d4 d5 d6 d7 d8 d9 d10 t0 t1 T0 T1 T2 HN HI1 HI2
  generalize ((w1.alloc (.cells #[.int .i64 i, .int .i64 h, .int .i64 o, .int .u64 seed, .int .i64 batch, .int .i64 steps, .int .i64 crate, .int .i64 decay, .int .i64 how, .int .i64 keep, .int .i64 clip] 24)).alloc (.cells #[.int .i64 i, .int .i64 h, .int .i64 o, .int .u64 seed, .int .i64 batch, .int .i64 steps, .int .i64 crate, .int .i64 decay, .int .i64 how, .int .i64 keep, .int .i64 clip] 24)).drew = w2 at T3 ⊢
  have sb2 := sb1.below T3
  have hr1 := sb2.res
  have hb1 := sb2.bel
  obtain ⟨r0, r1⟩ := fn2_cells hr1
  have f0 := hr1.frozen 0
  have f1 := hr1.frozen 1
  obtain ⟨c0, c1, c2, c3, c4, c5, c6, c7, c8, c9, c10, s0, s1⟩ := KS.out _ T3
  have h0 : ¬ step < 0 := by omega
  have h1 : ¬ steps ≤ step := by omega
  have NX := HNX.out _ hb1
  clear HNX KS KW
  go_wp2_with fail
  refine NX.mono ?_
  rintro e u4 ⟨xa, e1, xb, e2, bg, rfl, lw, lm, lb, m1, m2, m3, nn1, nn2, nn3, hcp, hu4⟩
  have z3 := sb2.res.lt
  clear NX c0 c1 c2 c3 c4 c5 c6 c7 c8 c9 c10 s0 s1 r0 r1 f0 f1 hr1 hb1
  have sb4 := sb2.below hu4
  have hal := low_alloc u4 (.cells #[.slice (some ⟨xa, 0, none⟩) n1 e1, .slice (some ⟨xb, 0, none⟩) n1 e2] 28)
  have orow := fn2_alloc u4 (.slice (some ⟨xa, 0, none⟩) n1 e1) (.slice (some ⟨xb, 0, none⟩) n1 e2) 28
  have sb5 := sb4.below hal
  have lw5 := lw.below hal
  have lm5 := lm.below hal
  have lb5 := lb.below hal
  clear sb2 sb4 hu4 lw lm lb
  obtain ⟨o0, o1⟩ := fn2_cells orow
  obtain ⟨r0, r1⟩ := fn2_cells sb5.res
  have f0 := sb5.res.frozen 0
  have f1 := sb5.res.frozen 1
  have hrs := sb5.res
  have hbb := sb5.bel
  go_wp2_with fail
  obtain ⟨y0, y1⟩ := fn2_cells (fn2_set hrs (.slice (some ⟨xa, 0, none⟩) n1 e1) (.slice (some ⟨xb, 0, none⟩) n1 e2))
  have st1 := hrs.set 0 (.slice (some ⟨xa, 0, none⟩) n1 e1)
  have z1 : ((u4.alloc (.cells #[.slice (some ⟨xa, 0, none⟩) n1 e1, .slice (some ⟨xb, 0, none⟩) n1 e2] 28)).setCell ⟨w.heap.size + 1 + 1, 0, none⟩ (.slice (some ⟨xa, 0, none⟩) n1 e1)).cell? ⟨w.heap.size + 1 + 1, 1, none⟩ = some (.slice none 0 0) := st1.cell (i := 1) (by omega)
  exact bodyPost_ret (v := .tuple #[.agg #[.slice (some ⟨xa, 0, none⟩) n1 e1, .slice (some ⟨xb, 0, none⟩) n1 e2], .slice (some ⟨bg, 0, none⟩) B B, .int .i64 R, .int .i64 0]) (by simp [results, Tryz.results125, go_sem, y0, y1]) rfl ⟨xa, e1, xb, e2, bg, rfl, (lw5.setOther (show xa ≠ w.heap.size + 1 + 1 by omega) _).setOther (show xa ≠ w.heap.size + 1 + 1 by omega) _, (lm5.setOther (show xb ≠ w.heap.size + 1 + 1 by omega) _).setOther (show xb ≠ w.heap.size + 1 + 1 by omega) _, (lb5.setOther (show bg ≠ w.heap.size + 1 + 1 by omega) _).setOther (show bg ≠ w.heap.size + 1 + 1 by omega) _, by omega, by omega, by omega, nn1, nn2, nn3, hcp, (hbb.setCell (show w.heap.size ≤ w.heap.size + 1 + 1 by omega) _).setCell (show w.heap.size ≤ w.heap.size + 1 + 1 by omega) _⟩

/-- One contract for every input. -/
theorem tNext_calls (c : Cfg) (hs : okW c.seed) (a : Option Addr) (n cap : Nat) (X : Nat → Exm) (DI DO : Nat → List Int) (a1 : Option Addr) (n1 k1 : Nat) (ws : List Int) (a2 : Option Addr) (n2 k2 : Nat) (ms : List Int) (step : Int) (w : World) (hx : Exs w a n cap X DI DO) (l1 : Lst w a1 n1 k1 ws) (l2 : Lst w a2 n2 k2 ms) :
    Calls Tryz.prog 125 #[c.val, .slice a n cap, .agg #[.slice a1 n1 k1, .slice a2 n2 k2], .int .i64 step] w fun e w' => ∃ b1 m1 d1 b2 m2 d2 a3 m3 d3, e = .returned (.tuple #[.agg #[.slice b1 m1 d1, .slice b2 m2 d2], .slice a3 m3 d3, .int .i64 (nxR c n X DI DO n1 ws n2 ms step), .int .i64 (nextE c n X DI DO n1 ws n2 ms step)]) ∧ m1 ≤ 200 ∧ m2 ≤ 200 ∧ m3 ≤ 200 ∧ Lst w' b1 m1 d1 (nxW c n X DI DO n1 ws n2 ms step) ∧ Lst w' b2 m2 d2 (nxM c n X DI DO n1 ws n2 ms step) ∧ Lst w' a3 m3 d3 (nxB c n X DI DO n1 ws n2 ms step) ∧ Below w.heap.size w w' := by
  have HC : ∀ q, Below w.heap.size w q → Calls Tryz.prog 54 #[c.val, .slice a n cap] q fun e w' => e = .returned (.int .i64 (courseI c n X DI DO)) ∧ Below q.heap.size q w' := fun q hq => tcheck_calls c a n cap X DI DO q (hx.below hq (Nat.le_refl _))
  by_cases hE : courseI c n X DI DO = 0
  · rw [hE] at HC
    obtain ⟨hc, hn1, hn2, hex⟩ := course_ok hE
    cases f1 : fitB c n1 ws with
    | false => exact nx_none (E := 5) (by unfold nextE; rw [if_pos hE, f1]; rfl) (by decide) (tNext_w c hc a n cap a1 n1 k1 ws a2 n2 k2 ms step w l1 l2 HC f1)
    | true =>
      cases f2 : fitB c n2 ms with
      | false => exact nx_none (E := 5) (by unfold nextE; rw [if_pos hE, f1, f2]; rfl) (by decide) (tNext_m c hc a n cap a1 n1 k1 ws a2 n2 k2 ms step w l1 l2 HC f1 f2)
      | true =>
        cases hst : inB step 0 (c.steps - 1) with
        | false => exact nx_none (E := 1) (by unfold nextE; rw [if_pos hE, f1, f2, hst]; rfl) (by decide) (tNext_r c hc a n cap a1 n1 k1 ws a2 n2 k2 ms step w l1 l2 HC f1 f2 hst)
        | true =>
          have hz : nextE c n X DI DO n1 ws n2 ms step = 0 := by unfold nextE; rw [if_pos hE, f1, f2, hst]; rfl
          have g1 := fit_len hc f1
          have g2 := fit_len hc f2
          have hn : n2 = n1 := by have := g1.1; have := g2.1; omega
          subst hn
          unfold nxR nxW nxM nxB
          rw [hz, if_pos rfl, if_pos rfl, if_pos rfl, if_pos rfl]
          have hlow := in_is hst
          obtain ⟨T, hT⟩ := Int.eq_ofNat_of_zero_le hlow.1
          obtain ⟨⟨i1, i2⟩, ⟨h1, h2⟩, ⟨o1, o2⟩, ⟨b1, b2⟩, _⟩ := cfgB_is hc
          obtain ⟨i, h, o, seed, batch, steps, crate, decay, how, keep, clip⟩ := c
          dsimp only at i1 i2 h1 h2 o1 o2 b1 b2 hs hlow ⊢
          obtain ⟨I, rfl⟩ := Int.eq_ofNat_of_zero_le (show 0 ≤ i by omega)
          obtain ⟨H, rfl⟩ := Int.eq_ofNat_of_zero_le (show 0 ≤ h by omega)
          obtain ⟨O, rfl⟩ := Int.eq_ofNat_of_zero_le (show 0 ≤ o by omega)
          obtain ⟨B, rfl⟩ := Int.eq_ofNat_of_zero_le (show 0 ≤ batch by omega)
          subst hT
          have hN : n2 = H * I + H + O * H + O := by have := g1.1; unfold sizeN at this; dsimp only at this; exact_mod_cast this
          refine (tNext_own _ hc a n cap a1 n2 k1 ws a2 n2 k2 ms T w l1 l2 HC f1 f2 hst B _ _ _ _ (fun q hq => tnext_own I H O B T seed crate decay how keep clip hs steps hc n2 hN a n cap X DI DO a1 k1 ws a2 k2 ms q (hx.below hq (Nat.le_refl _)) hn1 hn2 hex (l1.below hq (Nat.le_refl _)) (l2.below hq (Nat.le_refl _)) g1.2.2.2 g2.2.2.2 (by omega))).mono ?_
          rintro e w' ⟨x1, d1, x2, d2, bg, he, h⟩
          exact ⟨some ⟨x1, 0, none⟩, n2, d1, some ⟨x2, 0, none⟩, n2, d2, some ⟨bg, 0, none⟩, B, B, he, by omega, by omega, by omega, h.a1.lst, h.a2.lst, h.a3.lst, h.bel⟩
  · exact nx_none (by unfold nextE; rw [if_neg hE]) hE (tNext_c c a n cap a1 n1 k1 a2 n2 k2 step _ w hE HC)
end Go.Proofs.YtimciamfgpdjlaaGreat.Fx

/- A list of states that the program itself makes by append: what is known of it, and what one append more leaves. -/
namespace Go.Proofs.YtimciamfgpdjlaaGreat.Fx
open Go.RowKit

def stCells (X : Nat → Exm) : Nat → List Value
  | 0 => []
  | n + 1 => stCells X n ++ [.slice (X n).a (X n).n (X n).k, .slice (X n).b (X n).m (X n).t]
theorem stCells_len (X : Nat → Exm) (n : Nat) : (stCells X n).length = n * 2 := by
  induction n with
  | zero => rfl
  | succ k ih => simp [stCells, ih]; omega
theorem stCells_congr {X Y : Nat → Exm} {n : Nat} (h : ∀ i, i < n → X i = Y i) : stCells X n = stCells Y n := by
  induction n with
  | zero => rfl
  | succ k ih => simp only [stCells]; rw [ih (fun i hi => h i (by omega)), h k (by omega)]
theorem stCells_at (X : Nat → Exm) {n i : Nat} (h : i < n) : (stCells X n)[i * 2]? = some (.slice (X i).a (X i).n (X i).k) ∧ (stCells X n)[i * 2 + 1]? = some (.slice (X i).b (X i).m (X i).t) := by
  induction n with
  | zero => omega
  | succ k ih =>
    have hl := stCells_len X k
    simp only [stCells]
    by_cases e : i = k
    · subst e
      rw [List.getElem?_append_right (by omega), List.getElem?_append_right (by omega), hl]
      simp
    · have g := ih (by omega)
      rw [List.getElem?_append_left (by omega), List.getElem?_append_left (by omega)]
      exact g
theorem stCells_one {X : Nat → Exm} {n : Nat} {v : Value} (h : v ∈ stCells X n) : v.oneCell' = true := by
  induction n with
  | zero => cases h
  | succ k ih =>
    simp only [stCells, List.mem_append, List.mem_cons, List.not_mem_nil, or_false] at h
    rcases h with h | h | h
    · exact ih h
    · rw [h]; rfl
    · rw [h]; rfl
/-- The slice value v, made from block number base on, owns the states X. -/
def OwnS (base : Nat) (w : World) (v : Value) (n : Nat) (X : Nat → Exm) : Prop := w.ownsRow base 28 2 v n (stCells X n)
theorem OwnS.nil (base : Nat) (w : World) (X : Nat → Exm) : OwnS base w (.slice none 0 0) 0 X := World.ownsRow_nil _ _ _ _
theorem OwnS.below {base : Nat} {w w' : World} {v : Value} {n : Nat} {X : Nat → Exm} (h : OwnS base w v n X) (hb : Below w.heap.size w w') : OwnS base w' v n X := by
  refine ⟨h.1, ?_⟩
  rcases h.2 with h0 | ⟨g, cap, cur, hv, hg, hh, r⟩
  · exact .inl h0
  · exact .inr ⟨g, cap, cur, hv, hg, by rw [hb.block g (Array.getElem?_eq_some_iff.1 hh).1]; exact hh, r⟩
theorem OwnS.exs {base : Nat} {w : World} {v : Value} {n : Nat} {X : Nat → Exm} {DI DO : Nat → List Int} (h : OwnS base w v n X) (hin : ∀ i, i < n → InEx w (X i) (DI i) (DO i)) : ∃ a c, v = .slice a n c ∧ Exs w a n c X DI DO := by
  obtain ⟨hl, h2⟩ := h
  rcases h2 with ⟨rfl, rfl⟩ | ⟨g, cap, cur, rfl, _, hh, hle, _, hsz, hcur⟩
  · exact ⟨none, 0, rfl, Nat.le_refl _, .inl rfl⟩
  · refine ⟨_, cap, rfl, hle, .inr ⟨g, 0, rfl, (Array.getElem?_eq_some_iff.1 hh).1, fun i hi => ?_⟩⟩
    have hc : ∀ j, j < n * 2 → w.cell? ⟨g, 0 + j, none⟩ = (stCells X n)[j]? := fun j hj => by
      rw [← hcur, List.getElem?_take_of_lt hj]
      simp [World.cell?, hh]
    have g2 := stCells_at X hi
    refine ⟨(hc (i * 2) (by omega)).trans g2.1, ?_, hin i hi⟩
    have := hc (i * 2 + 1) (by omega)
    rw [← Nat.add_assoc] at this
    exact this.trans g2.2

theorem infoS : (Tryz.prog.info? 28).map (fun i => (i.zero, i.size, i.bytes)) = some (some (.agg #[.slice none 0 0, .slice none 0 0]), 2, 48) := by kernel_rfl

section
variable {w' W0 : World} {ops : Array Oper} {o : Oper} {a : Act} {Q : Exit → Act → World → Prop}
theorem run_append_st (ty : TypeId) (base : Nat) (v : Value) (n : Nat) (X : Nat → Exm) (g : Nat) (hown : OwnS base w' v n X) (hc0 : w'.cell? ⟨g, 0, none⟩ = some (.slice (X n).a (X n).n (X n).k)) (hc1 : w'.cell? ⟨g, 1, none⟩ = some (.slice (X n).b (X n).m (X n).t)) (hn : (n + 1) * 48 ≤ 140737488355328) (hbase : base ≤ w'.heap.size) :
    ∃ v' w1, (Builtin.append_ #[34, 34] ty #[v, .slice (some ⟨g, 0, none⟩) 1 1]).run Tryz.prog w' = .ok v' w1 ∧ OwnS base w1 v' (n + 1) X ∧ w'.grownBy w1 v.ownBlock ∧ (v'.ownBlock = v.ownBlock ∨ v'.ownBlock = some w'.heap.size) := by
  obtain ⟨i0, hi, hz0, hz1, hz2⟩ := info_parts infoS
  obtain ⟨v', w1, hrun, h1, h2, _, h3⟩ := run_append_own_at (P := Tryz.prog) w' base 34 ty 28 i0 (.agg #[.slice none 0 0, .slice none 0 0]) 2 48 Tryz.underlying34 hi hz0 hz1 hz2 rfl (by decide) v n _ hown ⟨g, 0, none⟩ 1 1 [.slice (X n).a (X n).n (X n).k, .slice (X n).b (X n).m (X n).t] rfl
    (by intro j u hj
        match j, hj with
        | 0, hj => simp at hj; subst hj; simpa [Addr.add] using hc0
        | 1, hj => simp at hj; subst hj; simpa [Addr.add] using hc1)
    (by intro u hu
        simp at hu
        rcases hu with rfl | rfl <;> rfl) (by unfold maxLen; omega) hn hbase
  exact ⟨v', w1, hrun, h1, h2, h3⟩

theorem wpList_append_st {rest : List Oper} (hgd : o.guard = none) (s x : Operand) (ho : o.op = .call { callee := .builtin .append, args := #[s, x], argTypes := #[34, 34] })
    (base : Nat) (v : Value) (n : Nat) (X : Nat → Exm) (g : Nat) (hs : a.eval s = v) (hx : a.eval x = .slice (some ⟨g, 0, none⟩) 1 1) (hown : OwnS base w' v n X) (hc0 : w'.cell? ⟨g, 0, none⟩ = some (.slice (X n).a (X n).n (X n).k)) (hc1 : w'.cell? ⟨g, 1, none⟩ = some (.slice (X n).b (X n).m (X n).t)) (hn : (n + 1) * 48 ≤ 140737488355328) (hbase : base ≤ w'.heap.size)
    (h : ∀ v' w1, OwnS base w1 v' (n + 1) X → w'.grownBy w1 v.ownBlock → (v'.ownBlock = v.ownBlock ∨ v'.ownBlock = some w'.heap.size) → wpList Tryz.prog ops Q rest (a.put o.dst v') w1) : wpList Tryz.prog ops Q (o :: rest) a w' := by
  obtain ⟨v', w1, hrun, h1, h2, h3⟩ := run_append_st o.type base v n X g hown hc0 hc1 hn hbase
  refine wpList_plain hgd fun K hK => ?_
  unfold Oper.wp
  simp [execOp, ho, resolve, invoke, builtin, hs, hx, hrun, Result.andThen]
  exact hK _ _ (h v' w1 h1 h2 h3)
end

end Go.Proofs.YtimciamfgpdjlaaGreat.Fx

/- What train.Run returns, whatever is handed in. -/
namespace Go.Proofs.YtimciamfgpdjlaaGreat.Fx
open Go.RowKit

theorem made2 (w : World) (z : Value) (m : Nat) (t : TypeId) : (w.alloc (.cells (madeCells #[z, z] m) t)).rowIs w.heap.size t m (fun _ => z) := by
  refine ⟨_, Go.Deep.blk_alloc_new _ _, size_madeCells _ _, fun i hi => ?_⟩
  have h2 : i % 2 = 0 ∨ i % 2 = 1 := by omega
  rcases h2 with h2 | h2 <;> simp [madeCells, hi, h2]
/-- The cells of a list of states, of which the first K are X's. -/
def outF (X : Nat → Exm) (K i : Nat) : Value := if i < K * 2 then (if i % 2 = 0 then .slice (X (i / 2)).a (X (i / 2)).n (X (i / 2)).k else .slice (X (i / 2)).b (X (i / 2)).m (X (i / 2)).t) else .slice none 0 0
theorem outF_zero {w : World} {b t n : Nat} {X : Nat → Exm} (h : w.rowIs b t n (fun _ => .slice none 0 0)) : w.rowIs b t n (outF X 0) := h.congr (fun i _ => by unfold outF; rw [if_neg (by omega)])
theorem outF_at {w : World} {b t n K j : Nat} {X : Nat → Exm} (h : w.rowIs b t n (outF X K)) (hj : j < K) (hn : K * 2 ≤ n) : w.cell? ⟨b, j * 2, none⟩ = some (.slice (X j).a (X j).n (X j).k) ∧ w.cell? ⟨b, j * 2 + 1, none⟩ = some (.slice (X j).b (X j).m (X j).t) := by
  refine ⟨?_, ?_⟩
  · rw [h.cell (by omega)]
    unfold outF
    rw [if_pos (by omega), if_pos (by omega), show j * 2 / 2 = j by omega]
  · rw [h.cell (by omega)]
    unfold outF
    rw [if_pos (by omega), if_neg (by omega), show (j * 2 + 1) / 2 = j by omega]
theorem outF_new {w : World} {b t n K j : Nat} {X : Nat → Exm} (h : w.rowIs b t n (outF X K)) (hj : K * 2 ≤ j) (hn : j < n) : w.cell? ⟨b, j, none⟩ = some (.slice none 0 0) := by
  rw [h.cell hn]
  unfold outF
  rw [if_neg (by omega)]
theorem outF_push {w : World} {b t n K : Nat} {X : Nat → Exm} (h : w.rowIs b t n (outF X K)) (x : Exm) : ((w.setCell ⟨b, K * 2, none⟩ (.slice x.a x.n x.k)).setCell ⟨b, K * 2 + 1, none⟩ (.slice x.b x.m x.t)).rowIs b t n (outF (fun j => if j = K then x else X j) (K + 1)) := by
  refine ((h.set _ _).set _ _).congr (fun i hi => ?_)
  by_cases e1 : i = K * 2 + 1
  · rw [if_pos e1]
    unfold outF
    rw [if_pos (by omega), if_neg (by omega), show i / 2 = K by omega]
    simp
  · rw [if_neg e1]
    by_cases e2 : i = K * 2
    · rw [if_pos e2]
      unfold outF
      rw [if_pos (by omega), if_pos (by omega), show i / 2 = K by omega]
      simp
    · rw [if_neg e2]
      unfold outF
      by_cases e3 : i < K * 2
      · have e4 : i / 2 ≠ K := by omega
        have e5 : i < (K + 1) * 2 := by omega
        rw [if_pos e3, if_pos e5]
        simp [e4]
      · rw [if_neg e3, if_neg (by omega)]
theorem InEx.setOff {w : World} {x : Exm} {I O : List Int} (h : InEx w x I O) {p : Addr} {u : Option Addr} {y z : Nat} (hp : w.cell? p = some (.slice u y z)) (v : Value) : InEx (w.setCell p v) x I O := ⟨h.i.setOff hp v, h.o.setOff hp v⟩

theorem makeS (k : Nat) (hk : k ≤ 1000) (w : World) : (Instr.makeSlice 34 (.int .i64 ((k : Int) + 1)) (.int .i64 ((k : Int) + 1))).run Tryz.prog w = .ok (.slice (some ⟨w.heap.size, 0, none⟩) (k + 1) (k + 1)) (w.alloc (.cells (madeCells #[.slice none 0 0, .slice none 0 0] ((k + 1) * 2)) 28)) := by
  obtain ⟨i0, hi, hz0, hz1, hz2⟩ := info_parts infoS
  have h := run_make (P := Tryz.prog) w 34 28 i0 _ Tryz.underlying34 hi hz0 .i64 .i64 ((k : Int) + 1) ((k : Int) + 1) (by omega) (Int.le_refl _) (by rw [hz2]; omega) (by omega)
  rw [hz1, show ((k : Int) + 1).toNat = k + 1 by omega] at h
  exact h

/-- A state whose two lists lie in blocks of their own. -/
def St1 (w : World) (base OB N : Nat) (x : Exm) (WL ML : List Int) : Prop := ∃ g1 d1 g2 d2, x = ⟨some ⟨g1, 0, none⟩, N, d1, some ⟨g2, 0, none⟩, N, d2⟩ ∧ base ≤ g1 ∧ base ≤ g2 ∧ g1 ≠ OB ∧ g2 ≠ OB ∧ g1 ≠ g2 ∧ (d1 ≤ maxLen ∧ d2 ≤ maxLen) ∧ Arr w g1 d1 N (fun i => WL.getD i 0) ∧ Arr w g2 d2 N (fun i => ML.getD i 0)
theorem St1.below {w w' : World} {base OB N : Nat} {x : Exm} {WL ML : List Int} (h : St1 w base OB N x WL ML) (hb : Below w.heap.size w w') : St1 w' base OB N x WL ML := by
  obtain ⟨g1, d1, g2, d2, e, b1, b2, b3, b4, b5, b6, a1, a2⟩ := h
  exact ⟨g1, d1, g2, d2, e, b1, b2, b3, b4, b5, b6, a1.below hb, a2.below hb⟩
theorem St1.setO {w : World} {base OB N : Nat} {x : Exm} {WL ML : List Int} (h : St1 w base OB N x WL ML) (i : Nat) (u : Value) : St1 (w.setCell ⟨OB, i, none⟩ u) base OB N x WL ML := by
  obtain ⟨g1, d1, g2, d2, e, b1, b2, b3, b4, b5, b6, a1, a2⟩ := h
  exact ⟨g1, d1, g2, d2, e, b1, b2, b3, b4, b5, b6, a1.setOther (a := ⟨OB, i, none⟩) b3 u, a2.setOther (a := ⟨OB, i, none⟩) b4 u⟩
theorem St1.inEx {w : World} {base OB N : Nat} {x : Exm} {WL ML : List Int} (h : St1 w base OB N x WL ML) (h1 : WL.length = N) (h2 : ML.length = N) : InEx w x WL ML := by
  obtain ⟨g1, d1, g2, d2, rfl, b1, b2, b3, b4, b5, b6, a1, a2⟩ := h
  have l1 := a1.lst
  have l2 := a2.lst
  rw [getD_self h1] at l1
  rw [getD_self h2] at l2
  exact ⟨l1, l2⟩
/-- Two states lie apart. -/
def StApart (x y : Exm) : Prop := ∀ g, (x.a = some ⟨g, 0, none⟩ ∨ x.b = some ⟨g, 0, none⟩) → y.a ≠ some ⟨g, 0, none⟩ ∧ y.b ≠ some ⟨g, 0, none⟩
theorem St1.apart {w : World} {base OB N : Nat} {x : Exm} {WL ML : List Int} (h : St1 w base OB N x WL ML) {a b d1 d2 M1 M2 : Nat} (ha : w.heap.size ≤ a) (hb : w.heap.size ≤ b) : StApart x ⟨some ⟨a, 0, none⟩, M1, d1, some ⟨b, 0, none⟩, M2, d2⟩ := fun g hg => by
  obtain ⟨g1, e1, g2, e2, rfl, b1, b2, b3, b4, b5, b6, a1, a2⟩ := h
  have k1 := a1.lt
  have k2 := a2.lt
  simp only [Option.some.injEq, Addr.mk.injEq, and_true] at hg
  refine ⟨fun e => ?_, fun e => ?_⟩
  · simp only [Option.some.injEq, Addr.mk.injEq, and_true] at e
    omega
  · simp only [Option.some.injEq, Addr.mk.injEq, and_true] at e
    omega
/-- What is known of a course's states that lie in a list. -/
def StIn (w : World) (base OB N k : Nat) (X : Nat → Exm) (DW DM : Nat → List Int) : Prop := (∀ j, j ≤ k → St1 w base OB N (X j) (DW j) (DM j)) ∧ ∀ i j, i < j → j ≤ k → StApart (X i) (X j)
theorem StIn.below {w w' : World} {base OB N k : Nat} {X : Nat → Exm} {DW DM : Nat → List Int} (h : StIn w base OB N k X DW DM) (hb : Below w.heap.size w w') : StIn w' base OB N k X DW DM := ⟨fun j hj => (h.1 j hj).below hb, h.2⟩
theorem StIn.setO {w : World} {base OB N k : Nat} {X : Nat → Exm} {DW DM : Nat → List Int} (h : StIn w base OB N k X DW DM) (i : Nat) (u : Value) : StIn (w.setCell ⟨OB, i, none⟩ u) base OB N k X DW DM := ⟨fun j hj => (h.1 j hj).setO i u, h.2⟩
theorem StIn.push {w : World} {base OB N k : Nat} {X : Nat → Exm} {DW DM : Nat → List Int} (h : StIn w base OB N k X DW DM) {x : Exm} (hx : St1 w base OB N x (DW (k + 1)) (DM (k + 1))) (hap : ∀ i, i ≤ k → StApart (X i) x) : StIn w base OB N (k + 1) (fun j => if j = k + 1 then x else X j) DW DM := by
  refine ⟨fun j hj => ?_, fun i j h1 h2 => ?_⟩
  · by_cases e : j = k + 1
    · subst e; simp only [if_pos]; exact hx
    · simp only [if_neg e]; exact h.1 j (by omega)
  · have e1 : i ≠ k + 1 := by omega
    by_cases e : j = k + 1
    · subst e; simp only [if_neg e1, if_pos]; exact hap i (by omega)
    · simp only [if_neg e1, if_neg e]; exact h.2 i j h1 (by omega)

set_option maxRecDepth 100000 in
set_option maxHeartbeats 6400000 in
theorem tRun_own (I H O B : Nat) (seed crate decay how keep clip : Int) (hs : okW seed) (steps : Int) (hc : cfgB ⟨I, H, O, seed, B, steps, crate, decay, how, keep, clip⟩ = true) (N : Nat) (hN : N = H * I + H + O * H + O) (a : Option Addr) (n cap : Nat) (X : Nat → Exm) (DI DO : Nat → List Int) (nn : Nat) (w : World)
    (hx : Exs w a n cap X DI DO) (hn1 : 1 ≤ n) (hn2 : n ≤ 16) (hex : allEx ⟨I, H, O, seed, B, steps, crate, decay, how, keep, clip⟩ n X DI DO = true) (hnn : (nn : Int) ≤ steps) (HC : Hid (∀ q, Below w.heap.size w q → Calls Tryz.prog 54 #[Cfg.val ⟨I, H, O, seed, B, steps, crate, decay, how, keep, clip⟩, .slice a n cap] q fun e w' => e = .returned (.int .i64 0) ∧ Below q.heap.size q w')) :
    Calls Tryz.prog 48 #[Cfg.val ⟨I, H, O, seed, B, steps, crate, decay, how, keep, clip⟩, .slice a n cap, .int .i64 nn] w fun e w' => ∃ g Y, e = .returned (.tuple #[.slice (some ⟨g, 0, none⟩) (nn + 1) (nn + 1), .int .i64 0]) ∧ w.heap.size ≤ g ∧ w'.rowIs g 28 ((nn + 1) * 2) (outF Y (nn + 1)) ∧ StIn w' w.heap.size g N nn Y (fun j => (stateP ⟨I, H, O, seed, B, steps, crate, decay, how, keep, clip⟩ n DI DO N j).1) (fun j => (stateP ⟨I, H, O, seed, B, steps, crate, decay, how, keep, clip⟩ n DI DO N j).2) ∧ Below w.heap.size w w' := by
  obtain ⟨_, _, _, _, ⟨s1, s2⟩, _⟩ := cfgB_is hc
  dsimp only at s1 s2
  obtain ⟨DW, HDW⟩ : ∃ f : Nat → List Int, Hid (∀ j, f j = (stateP ⟨I, H, O, seed, B, steps, crate, decay, how, keep, clip⟩ n DI DO N j).1) := ⟨_, fun _ => rfl⟩
  obtain ⟨DM, HDM⟩ : ∃ f : Nat → List Int, Hid (∀ j, f j = (stateP ⟨I, H, O, seed, B, steps, crate, decay, how, keep, clip⟩ n DI DO N j).2) := ⟨_, fun _ => rfl⟩
  have hEW : (fun j => (stateP ⟨I, H, O, seed, B, steps, crate, decay, how, keep, clip⟩ n DI DO N j).1) = DW := funext fun j => (HDW.out j).symm
  have hEM : (fun j => (stateP ⟨I, H, O, seed, B, steps, crate, decay, how, keep, clip⟩ n DI DO N j).2) = DM := funext fun j => (HDM.out j).symm
  rw [hEW, hEM]
  clear hEW hEM
  have hNI : (N : Int) = sizeN ⟨I, H, O, seed, B, steps, crate, decay, how, keep, clip⟩ := by unfold sizeN; dsimp only; rw [hN]; push_cast; rfl
  have HNM : Hid (N ≤ maxLen) := by show N ≤ maxLen; have := sizeN_bd hc; unfold maxLen; omega
  have HLN : Hid (∀ j, (DW j).length = N ∧ (DM j).length = N) := fun j => by rw [HDW.out, HDM.out]; exact stateP_len ⟨I, H, O, seed, B, steps, crate, decay, how, keep, clip⟩ n DI DO N j
  have HS : Hid (∀ q, Calls Tryz.prog 103 #[Cfg.val ⟨I, H, O, seed, B, steps, crate, decay, how, keep, clip⟩] q fun e w' => ∃ ga gb, e = .returned (.agg #[.slice (some ⟨ga, 0, none⟩) N N, .slice (some ⟨gb, 0, none⟩) N N]) ∧ q.heap.size ≤ ga ∧ q.heap.size ≤ gb ∧ ga ≠ gb ∧ Arr w' ga N N (fun i => (DW 0).getD i 0) ∧ Arr w' gb N N (fun i => (DM 0).getD i 0) ∧ Below q.heap.size q w') := fun q => by
    refine (tstart_own ⟨I, H, O, seed, B, steps, crate, decay, how, keep, clip⟩ hc hs N hNI q).mono ?_
    rintro e w' ⟨ga, gb, he, h1, h2, h3, h4, h5, h6⟩
    refine ⟨ga, gb, he, h1, h2, h3, h4.congr (fun i hi => ?_), h5.congr (fun i hi => ?_), h6⟩
    · rw [HDW.out]; exact (getD_range _ hi).symm
    · rw [HDM.out]; exact (getD_range _ hi).symm
  have HNX : Hid (∀ (q : World) (k : Nat) (a1 : Option Addr) (k1 : Nat) (a2 : Option Addr) (k2 : Nat), Below w.heap.size w q → (k : Int) ≤ steps - 1 → Lst q a1 N k1 (DW k) → Lst q a2 N k2 (DM k) → Calls Tryz.prog 104 #[Cfg.val ⟨I, H, O, seed, B, steps, crate, decay, how, keep, clip⟩, .slice a n cap, .agg #[.slice a1 N k1, .slice a2 N k2], .int .i64 k] q fun e w' => ∃ na d1 nb d2 bg R, e = .returned (.tuple #[.agg #[.slice (some ⟨na, 0, none⟩) N d1, .slice (some ⟨nb, 0, none⟩) N d2], .slice (some ⟨bg, 0, none⟩) B B, .int .i64 R]) ∧ q.heap.size ≤ na ∧ q.heap.size ≤ nb ∧ na ≠ nb ∧ (d1 ≤ maxLen ∧ d2 ≤ maxLen) ∧ Arr w' na d1 N (fun i => (DW (k + 1)).getD i 0) ∧ Arr w' nb d2 N (fun i => (DM (k + 1)).getD i 0) ∧ Below q.heap.size q w') := fun q k a1 k1 a2 k2 hq hk l1 l2 => by
    have hr := stateP_right ⟨I, H, O, seed, B, steps, crate, decay, how, keep, clip⟩ n DI DO N k
    rw [← HDW.out, ← HDM.out] at hr
    refine (tnext_own I H O B k seed crate decay how keep clip hs steps hc N hN a n cap X DI DO a1 k1 (DW k) a2 k2 (DM k) q (hx.below hq (Nat.le_refl _)) hn1 hn2 hex l1 l2 hr.1 hr.2 hk).mono ?_
    rintro e w' ⟨x1, e1, x2, e2, bg, he, g⟩
    refine ⟨x1, e1, x2, e2, bg, _, he, g.f1, g.f2, g.n12, g.cap, g.a1.congr (fun i hi => ?_), g.a2.congr (fun i hi => ?_), g.bel⟩
    · rw [HDW.out (k + 1), HDW.out k, HDM.out k]; exact (getD_range _ hi).symm
    · rw [HDM.out (k + 1), HDW.out k, HDM.out k]; exact (getD_range _ hi).symm
  have hal := low_alloc w (.cells (Cfg.cells ⟨I, H, O, seed, B, steps, crate, decay, how, keep, clip⟩) 24)
  have CK := HC.out _ hal
  have KB : Hid (∀ q, Below (w.alloc (.cells (Cfg.cells ⟨I, H, O, seed, B, steps, crate, decay, how, keep, clip⟩) 24)).heap.size (w.alloc (.cells (Cfg.cells ⟨I, H, O, seed, B, steps, crate, decay, how, keep, clip⟩) 24)) q → BoxC q w.heap.size ⟨I, H, O, seed, B, steps, crate, decay, how, keep, clip⟩) := fun q hq => boxC hq (by simp)
  have hmk := makeS nn (by omega)
  clear HC hx hex hc hN hNI hs HDW HDM
  simp only [Cfg.val, Cfg.cells] at *
  go_enter Tryz.func48, Tryz.ntmps48
  go_wp2_with fail
  refine CK.mono ?_
  rintro e w1 ⟨rfl, hw1⟩
  have KB1 : Hid (∀ q, Below w1.heap.size w1 q → BoxC q w.heap.size ⟨I, H, O, seed, B, steps, crate, decay, how, keep, clip⟩) := fun q hq => KB.out q (hw1.trans (hq.mono hw1.size))
  have hb1 := hal.trans (hw1.mono hal.size)
  have hlt1 : w.heap.size < w1.heap.size := by have := hw1.size; simp at this; omega
  clear CK KB hw1 hal
  have T0 : Below w1.heap.size w1 w1 := Below.refl _ _
  have Ta : Below w1.heap.size w1 (w1.alloc (.cells (madeCells #[.slice none 0 0, .slice none 0 0] ((nn + 1) * 2)) 28)) := T0.alloc T0.size _
  obtain ⟨c0, c1, c2, c3, c4, c5, c6, c7, c8, c9, c10⟩ := KB1.out _ T0
  obtain ⟨e0, e1, e2, e3, e4, e5, e6, e7, e8, e9, e10⟩ := KB1.out _ Ta
  dsimp only at c0 c1 c2 c3 c4 c5 c6 c7 c8 c9 c10 e0 e1 e2 e3 e4 e5 e6 e7 e8 e9 e10
  have rowz := made2 w1 (.slice none 0 0) ((nn + 1) * 2) 28
  have z0 : ¬ (nn : Int) < 0 := by omega
  have z1 : ¬ steps < (nn : Int) := by omega
  go_wp2_with fail
  refine (HS.out _).mono ?_
  rintro e w2 ⟨ga, gb, rfl, hga, hgb, hgn, l1, l2, hw2⟩
  have hgs : (w1.alloc (.cells (madeCells #[.slice none 0 0, .slice none 0 0] ((nn + 1) * 2)) 28)).heap.size = w1.heap.size + 1 := by simp
  rw [hgs] at hga hgb
  have T2 := Ta.trans (hw2.mono Ta.size)
  have row2 := rowz.of_block (hw2.block _ rowz.lt)
  have y0 : w2.cell? ⟨w1.heap.size, 0, none⟩ = some (.slice none 0 0) := row2.cell (by omega)
  have y1 : w2.cell? ⟨w1.heap.size, 1, none⟩ = some (.slice none 0 0) := row2.cell (by omega)
  have x0 := row2.frozen 0
  have x1 := row2.frozen 1
  have i0 : (0 : Int) < (nn : Int) + 1 := by omega
  clear c0 c1 c2 c3 c4 c5 c6 c7 c8 c9 c10 e0 e1 e2 e3 e4 e5 e6 e7 e8 e9 e10 hw2 rowz HS hmk
  go_wp2_with fail
  have y1' : (w2.setCell ⟨w1.heap.size, 0, none⟩ (.slice (some ⟨ga, 0, none⟩) N N)).cell? ⟨w1.heap.size, 1, none⟩ = some (.slice none 0 0) := (row2.set 0 _).cell (i := 1) (by omega)
  have row3 := outF_push (X := fun _ => ⟨some ⟨ga, 0, none⟩, N, N, some ⟨gb, 0, none⟩, N, N⟩) (outF_zero row2) ⟨some ⟨ga, 0, none⟩, N, N, some ⟨gb, 0, none⟩, N, N⟩
  have st3 : StIn ((w2.setCell ⟨w1.heap.size, 0, none⟩ (.slice (some ⟨ga, 0, none⟩) N N)).setCell ⟨w1.heap.size, 1, none⟩ (.slice (some ⟨gb, 0, none⟩) N N)) w.heap.size w1.heap.size N 0 (fun j => if j = 0 then ⟨some ⟨ga, 0, none⟩, N, N, some ⟨gb, 0, none⟩, N, N⟩ else ⟨some ⟨ga, 0, none⟩, N, N, some ⟨gb, 0, none⟩, N, N⟩) DW DM := ⟨fun j hj => by
    obtain rfl : j = 0 := by omega
    exact ⟨ga, N, gb, N, rfl, by omega, by omega, by omega, by omega, hgn, ⟨HNM.out, HNM.out⟩, (l1.setOther (a := ⟨w1.heap.size, 0, none⟩) (show ga ≠ w1.heap.size by omega) _).setOther (a := ⟨w1.heap.size, 1, none⟩) (show ga ≠ w1.heap.size by omega) _, (l2.setOther (a := ⟨w1.heap.size, 0, none⟩) (show gb ≠ w1.heap.size by omega) _).setOther (a := ⟨w1.heap.size, 1, none⟩) (show gb ≠ w1.heap.size by omega) _⟩, fun i j h1 h2 => by omega⟩
  have T3 : Below w1.heap.size w1 ((w2.setCell ⟨w1.heap.size, 0, none⟩ (.slice (some ⟨ga, 0, none⟩) N N)).setCell ⟨w1.heap.size, 1, none⟩ (.slice (some ⟨gb, 0, none⟩) N N)) := (T2.setCell (Nat.le_refl _) _).setCell (Nat.le_refl _) _
  go_loopw [33] (fun v wr => ∃ (k : Nat) (Y : Nat → Exm), k ≤ nn ∧ v = .int .i64 k ∧ wr.rowIs w1.heap.size 28 ((nn + 1) * 2) (outF Y (k + 1)) ∧ StIn wr w.heap.size w1.heap.size N k Y DW DM ∧ Below w1.heap.size w1 wr) (fun v _ => nn - (intOf v).toNat)
  case atStart => exact ⟨0, _, Nat.zero_le _, rfl, row3, st3, T3⟩
  case round =>
    clear row3 st3 T3 y0 y1 y1' x0 x1 l1 l2 row2 T2 hga hgb hgs hgn
    obtain ⟨k, Y, hk, rfl, row, hst, hbel⟩ := hrel
    by_cases hlt : k < nn
    · have cells := outF_at row (show k < k + 1 by omega) (by omega)
      obtain ⟨g1, xk, g2, xt, hxk, _, _, _, _, _, _, ar1, ar2⟩ := hst.1 k (Nat.le_refl _)
      rw [hxk] at cells
      dsimp only at cells
      have lI := ar1.lst
      have lO := ar2.lst
      rw [getD_self (HLN.out k).1] at lI
      rw [getD_self (HLN.out k).2] at lO
      clear ar1 ar2
      obtain ⟨u0, u1⟩ := cells
      obtain ⟨m, HM⟩ : ∃ m : Nat, Hid (m = k + 1) := ⟨_, rfl⟩
      have em : (k : Int) + 1 = (m : Int) := by rw [HM.out]; omega
      have ew : IntKind.i64.wrap (m : Int) = (m : Int) := wrap_in _ (by have := HM.out; omega) (by have := HM.out; omega)
      have m0 : (0 : Int) ≤ (m : Int) := by omega
      have m1 : (m : Int) < (nn : Int) + 1 := by have := HM.out; omega
      have k0 : (0 : Int) ≤ (k : Int) := by omega
      have k2 : (k : Int) < (nn : Int) + 1 := by omega
      have mk : m < nn + 1 := by have := HM.out; omega
      have KS : Hid (∀ q, Below wr.heap.size wr q → q.cell? ⟨w.heap.size, 0, none⟩ = some (.int .i64 I) ∧ q.cell? ⟨w.heap.size, 1, none⟩ = some (.int .i64 H) ∧ q.cell? ⟨w.heap.size, 2, none⟩ = some (.int .i64 O) ∧ q.cell? ⟨w.heap.size, 3, none⟩ = some (.int .u64 seed) ∧ q.cell? ⟨w.heap.size, 4, none⟩ = some (.int .i64 B) ∧ q.cell? ⟨w.heap.size, 5, none⟩ = some (.int .i64 steps) ∧ q.cell? ⟨w.heap.size, 6, none⟩ = some (.int .i64 crate) ∧ q.cell? ⟨w.heap.size, 7, none⟩ = some (.int .i64 decay) ∧ q.cell? ⟨w.heap.size, 8, none⟩ = some (.int .i64 how) ∧ q.cell? ⟨w.heap.size, 9, none⟩ = some (.int .i64 keep) ∧ q.cell? ⟨w.heap.size, 10, none⟩ = some (.int .i64 clip) ∧ q.cell? ⟨w1.heap.size, k * 2, none⟩ = some (.slice (some ⟨g1, 0, none⟩) N xk) ∧ q.cell? ⟨w1.heap.size, k * 2 + 1, none⟩ = some (.slice (some ⟨g2, 0, none⟩) N xt)) := fun q hq => by
        obtain ⟨x0, x1, x2, x3, x4, x5, x6, x7, x8, x9, x10⟩ := KB1.out q (hbel.trans (hq.mono hbel.size))
        exact ⟨x0, x1, x2, x3, x4, x5, x6, x7, x8, x9, x10, (hq.cell (p := ⟨w1.heap.size, k * 2, none⟩) row.lt).trans u0, (hq.cell (p := ⟨w1.heap.size, k * 2 + 1, none⟩) row.lt).trans u1⟩
      have bd : Below wr.heap.size wr wr.drew := below_drewN (Below.refl _ _) 1
      have S0 := KS.out _ bd
      have NX := HNX.out wr.drew k (some ⟨g1, 0, none⟩) xk (some ⟨g2, 0, none⟩) xt (hb1.trans ((hbel.trans (bd.mono hbel.size)).mono hb1.size)) (by omega) (lI.below bd (Nat.le_refl _)) (lO.below bd (Nat.le_refl _))
      have HNX2 : Hid (Calls Tryz.prog 104 #[.agg #[.int .i64 I, .int .i64 H, .int .i64 O, .int .u64 seed, .int .i64 B, .int .i64 steps, .int .i64 crate, .int .i64 decay, .int .i64 how, .int .i64 keep, .int .i64 clip], .slice a n cap, .agg #[.slice (some ⟨g1, 0, none⟩) N xk, .slice (some ⟨g2, 0, none⟩) N xt], .int .i64 k] wr.drew fun e w' => ∃ na d1 nb d2 bg R, e = .returned (.tuple #[.agg #[.slice (some ⟨na, 0, none⟩) N d1, .slice (some ⟨nb, 0, none⟩) N d2], .slice (some ⟨bg, 0, none⟩) B B, .int .i64 R]) ∧ wr.drew.heap.size ≤ na ∧ wr.drew.heap.size ≤ nb ∧ na ≠ nb ∧ (d1 ≤ maxLen ∧ d2 ≤ maxLen) ∧ Arr w' na d1 N (fun i => (DW (k + 1)).getD i 0) ∧ Arr w' nb d2 N (fun i => (DM (k + 1)).getD i 0) ∧ Below wr.drew.heap.size wr.drew w') := NX
      clear NX lI lO hxk
      go_wp2_with fail
      go_region_held3 (fun q => q.cell? ⟨w.heap.size, 0, none⟩ = some (.int .i64 I) ∧ q.cell? ⟨w.heap.size, 1, none⟩ = some (.int .i64 H) ∧ q.cell? ⟨w.heap.size, 2, none⟩ = some (.int .i64 O) ∧ q.cell? ⟨w.heap.size, 3, none⟩ = some (.int .u64 seed) ∧ q.cell? ⟨w.heap.size, 4, none⟩ = some (.int .i64 B) ∧ q.cell? ⟨w.heap.size, 5, none⟩ = some (.int .i64 steps) ∧ q.cell? ⟨w.heap.size, 6, none⟩ = some (.int .i64 crate) ∧ q.cell? ⟨w.heap.size, 7, none⟩ = some (.int .i64 decay) ∧ q.cell? ⟨w.heap.size, 8, none⟩ = some (.int .i64 how) ∧ q.cell? ⟨w.heap.size, 9, none⟩ = some (.int .i64 keep) ∧ q.cell? ⟨w.heap.size, 10, none⟩ = some (.int .i64 clip) ∧ q.cell? ⟨w1.heap.size, k * 2, none⟩ = some (.slice (some ⟨g1, 0, none⟩) N xk) ∧ q.cell? ⟨w1.heap.size, k * 2 + 1, none⟩ = some (.slice (some ⟨g2, 0, none⟩) N xt)) (first | with_reducible exact S0 | with_reducible exact S2 | with_reducible exact S1)
        (first | (go_at_call 104; refine HNX2.out.mono ?_; rintro e v1 ⟨na, d1, nb, d2, bg, R, rfl, q1d, q2d, q3, q4, lw, lm, hv1d⟩; have q1 : wr.heap.size ≤ na := q1d; have q2 : wr.heap.size ≤ nb := q2d; have hv1 := undrew hv1d; have S1 := KS.out _ hv1; have row1 := row.of_block (hv1.block _ row.lt); have o0 : v1.cell? ⟨w1.heap.size, m * 2, none⟩ = some (.slice none 0 0) := outF_new row1 (by have := HM.out; omega) (by omega); have o1 : v1.cell? ⟨w1.heap.size, m * 2 + 1, none⟩ = some (.slice none 0 0) := outF_new row1 (by have := HM.out; omega) (by omega); have p0 := row1.frozen (m * 2); have p1 := row1.frozen (m * 2 + 1); have rowm : v1.rowIs w1.heap.size 28 ((nn + 1) * 2) (outF Y m) := (by rw [HM.out]; exact row1); have row2 := outF_push rowm ⟨some ⟨na, 0, none⟩, N, d1, some ⟨nb, 0, none⟩, N, d2⟩; have o1' : (v1.setCell ⟨w1.heap.size, m * 2, none⟩ (.slice (some ⟨na, 0, none⟩) N d1)).cell? ⟨w1.heap.size, m * 2 + 1, none⟩ = some (.slice none 0 0) := (by have h := (rowm.set (m * 2) (.slice (some ⟨na, 0, none⟩) N d1)).cell (i := m * 2 + 1) (by omega); rw [if_neg (by omega)] at h; have h2 := o1; rw [rowm.cell (by omega)] at h2; exact h.trans h2); have p1' := (rowm.set (m * 2) (.slice (some ⟨na, 0, none⟩) N d1)).frozen (m * 2 + 1); have bel2 : Below w1.heap.size w1 ((v1.setCell ⟨w1.heap.size, m * 2, none⟩ (.slice (some ⟨na, 0, none⟩) N d1)).setCell ⟨w1.heap.size, m * 2 + 1, none⟩ (.slice (some ⟨nb, 0, none⟩) N d2)) := ((hbel.trans (hv1.mono hbel.size)).setCell (Nat.le_refl _) _).setCell (Nat.le_refl _) _; have S2 : (fun q : World => q.cell? ⟨w.heap.size, 0, none⟩ = some (.int .i64 I) ∧ q.cell? ⟨w.heap.size, 1, none⟩ = some (.int .i64 H) ∧ q.cell? ⟨w.heap.size, 2, none⟩ = some (.int .i64 O) ∧ q.cell? ⟨w.heap.size, 3, none⟩ = some (.int .u64 seed) ∧ q.cell? ⟨w.heap.size, 4, none⟩ = some (.int .i64 B) ∧ q.cell? ⟨w.heap.size, 5, none⟩ = some (.int .i64 steps) ∧ q.cell? ⟨w.heap.size, 6, none⟩ = some (.int .i64 crate) ∧ q.cell? ⟨w.heap.size, 7, none⟩ = some (.int .i64 decay) ∧ q.cell? ⟨w.heap.size, 8, none⟩ = some (.int .i64 how) ∧ q.cell? ⟨w.heap.size, 9, none⟩ = some (.int .i64 keep) ∧ q.cell? ⟨w.heap.size, 10, none⟩ = some (.int .i64 clip) ∧ q.cell? ⟨w1.heap.size, k * 2, none⟩ = some (.slice (some ⟨g1, 0, none⟩) N xk) ∧ q.cell? ⟨w1.heap.size, k * 2 + 1, none⟩ = some (.slice (some ⟨g2, 0, none⟩) N xt)) ((v1.setCell ⟨w1.heap.size, m * 2, none⟩ (.slice (some ⟨na, 0, none⟩) N d1)).setCell ⟨w1.heap.size, m * 2 + 1, none⟩ (.slice (some ⟨nb, 0, none⟩) N d2)) := (by obtain ⟨x0, x1, x2, x3, x4, x5, x6, x7, x8, x9, x10⟩ := KB1.out _ bel2; have hc := outF_at row2 (show k < m + 1 by have := HM.out; omega) (by omega); have hne : k ≠ m := (by have := HM.out; omega); have hk0 : w1.heap.size = w1.heap.size := rfl; exact ⟨x0, x1, x2, x3, x4, x5, x6, x7, x8, x9, x10, (World.cell?_setCell_other _ _ _ _ (by simp <;> omega)).trans ((World.cell?_setCell_other _ _ _ _ (by simp <;> omega)).trans S1.2.2.2.2.2.2.2.2.2.2.2.1), (World.cell?_setCell_other _ _ _ _ (by simp <;> omega)).trans ((World.cell?_setCell_other _ _ _ _ (by simp <;> omega)).trans S1.2.2.2.2.2.2.2.2.2.2.2.2)⟩); dsimp only at S2))
      have st2 := hst.below hv1
      have st4 := (st2.setO (m * 2) (.slice (some ⟨na, 0, none⟩) N d1)).setO (m * 2 + 1) (.slice (some ⟨nb, 0, none⟩) N d2)
      have hrl := row.lt
      have hble := hb1.size
      have lw4 := (lw.setOther (a := ⟨w1.heap.size, m * 2, none⟩) (show na ≠ w1.heap.size by omega) (.slice (some ⟨na, 0, none⟩) N d1)).setOther (a := ⟨w1.heap.size, m * 2 + 1, none⟩) (show na ≠ w1.heap.size by omega) (.slice (some ⟨nb, 0, none⟩) N d2)
      have lm4 := (lm.setOther (a := ⟨w1.heap.size, m * 2, none⟩) (show nb ≠ w1.heap.size by omega) (.slice (some ⟨na, 0, none⟩) N d1)).setOther (a := ⟨w1.heap.size, m * 2 + 1, none⟩) (show nb ≠ w1.heap.size by omega) (.slice (some ⟨nb, 0, none⟩) N d2)
      have st5 := st4.push (x := ⟨some ⟨na, 0, none⟩, N, d1, some ⟨nb, 0, none⟩, N, d2⟩) ⟨na, d1, nb, d2, rfl, by omega, by omega, by omega, by omega, q3, q4, lw4, lm4⟩ (fun t ht => (hst.1 t ht).apart q1 q2)
      rw [← HM.out] at st5
      clear S0 S1 S2 KS bd HNX2 o0 o1 o1' p0 p1 p1' u0 u1 st2 st4 lw lm lw4 lm4 hv1 hv1d row1 rowm hst hbel row
      go_wp2_with fail
      go_roundw
      case rel => exact ⟨m, _, by omega, by first | rfl | go_num, row2, st5, bel2⟩
      case measure => simp [intOf]; have := HM.out; omega
    · obtain rfl : k = nn := by omega
      go_wp2_with fail
      go_ret2
      exact ⟨w1.heap.size, Y, rfl, hb1.size, row, hst, hb1.trans (hbel.mono hb1.size)⟩

theorem tRun_good (I H O B : Nat) (seed crate decay how keep clip : Int) (hs : okW seed) (steps : Int) (hc : cfgB ⟨I, H, O, seed, B, steps, crate, decay, how, keep, clip⟩ = true) (N : Nat) (hN : N = H * I + H + O * H + O) (a : Option Addr) (n cap : Nat) (X : Nat → Exm) (DI DO : Nat → List Int) (nn : Nat) (w : World)
    (hx : Exs w a n cap X DI DO) (hn1 : 1 ≤ n) (hn2 : n ≤ 16) (hex : allEx ⟨I, H, O, seed, B, steps, crate, decay, how, keep, clip⟩ n X DI DO = true) (hnn : (nn : Int) ≤ steps) (HC : Hid (∀ q, Below w.heap.size w q → Calls Tryz.prog 54 #[Cfg.val ⟨I, H, O, seed, B, steps, crate, decay, how, keep, clip⟩, .slice a n cap] q fun e w' => e = .returned (.int .i64 0) ∧ Below q.heap.size q w')) :
    Calls Tryz.prog 48 #[Cfg.val ⟨I, H, O, seed, B, steps, crate, decay, how, keep, clip⟩, .slice a n cap, .int .i64 nn] w fun e w' => ∃ g Y, e = .returned (.tuple #[.slice (some ⟨g, 0, none⟩) (nn + 1) (nn + 1), .int .i64 0]) ∧ Exs w' (some ⟨g, 0, none⟩) (nn + 1) (nn + 1) Y (fun j => (stateP ⟨I, H, O, seed, B, steps, crate, decay, how, keep, clip⟩ n DI DO N j).1) (fun j => (stateP ⟨I, H, O, seed, B, steps, crate, decay, how, keep, clip⟩ n DI DO N j).2) ∧ Below w.heap.size w w' := by
  refine (tRun_own I H O B seed crate decay how keep clip hs steps hc N hN a n cap X DI DO nn w hx hn1 hn2 hex hnn HC).mono ?_
  rintro e w' ⟨g, Y, he, _, row, hst, hb⟩
  refine ⟨g, Y, he, ⟨Nat.le_refl _, .inr ⟨g, 0, rfl, row.lt, fun j hj => ?_⟩⟩, hb⟩
  have hcl := outF_at row hj (Nat.le_refl _)
  rw [Nat.zero_add]
  have hl := stateP_len ⟨I, H, O, seed, B, steps, crate, decay, how, keep, clip⟩ n DI DO N j
  exact ⟨hcl.1, hcl.2, (hst.1 j (by omega)).inEx hl.1 hl.2⟩
end Go.Proofs.YtimciamfgpdjlaaGreat.Fx
