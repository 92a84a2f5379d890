/- What optim.Step returns, whatever is handed in. -/
import Derived.Test.YtfcnnolpcnacoaaGreatDoorJ15
namespace Go.Proofs.YtfcnnolpcnacoaaGreatDoor.Fx
open Go.RowKit

def fn2 (v0 v1 : Value) (i : Nat) : Value := if i = 0 then v0 else v1
theorem fn2_set {w : World} {b t : Nat} {f : Nat → Value} (h : w.rowIs b t 2 f) (v0 v1 : Value) : ((w.setCell ⟨b, 0, none⟩ v0).setCell ⟨b, 1, none⟩ v1).rowIs b t 2 (fn2 v0 v1) := by
  refine ((h.set 0 v0).set 1 v1).congr (fun i hi => ?_)
  rcases (show i = 0 ∨ i = 1 from by omega) with rfl | rfl <;> rfl
theorem fn2_alloc (w : World) (v0 v1 : Value) (t : TypeId) : (w.alloc (.cells #[v0, v1] t)).rowIs w.heap.size t 2 (fn2 v0 v1) :=
  World.rowIs_alloc w #[v0, v1] t (fn2 v0 v1) (by
    intro i hi
    rcases (show i = 0 ∨ i = 1 from by have : i < 2 := hi
                                       omega) with rfl | rfl <;> rfl)
theorem fn2_cells {w : World} {b t : Nat} {v0 v1 : Value} (h : w.rowIs b t 2 (fn2 v0 v1)) : w.cell? ⟨b, 0, none⟩ = some v0 ∧ w.cell? ⟨b, 1, none⟩ = some v1 := ⟨h.cell (i := 0) (by omega), h.cell (i := 1) (by omega)⟩

/-- A config, a state and an empty state, laid one behind the other, in whatever world that left them. -/
structure StBox (w : World) (c : Cfg) (v0 v1 : Value) (wr : World) : Prop where
  cfg : BoxC wr w.heap.size c
  st : wr.rowIs (w.heap.size + 1) 65 2 (fn2 v0 v1)
  res : wr.rowIs (w.heap.size + 1 + 1) 65 2 (fn2 (.slice none 0 0) (.slice none 0 0))
  bel : Below w.heap.size w wr
theorem StBox.start (w : World) (c : Cfg) (v0 v1 : Value) : StBox w c v0 v1 (((w.alloc (.cells c.cells 24)).alloc (.cells #[v0, v1] 65)).alloc (.cells #[.slice none 0 0, .slice none 0 0] 65)) := by
  refine ⟨?_, ?_, ?_, (((Below.refl w.heap.size w).alloc (Nat.le_refl _) _).alloc (by simp) _).alloc (by simp; omega) _⟩
  · exact boxC (B := w.heap.size + 1) (((Below.refl _ _).alloc (by simp) _).alloc (by simp) _) (by omega)
  · have h := (fn2_alloc (w.alloc (.cells c.cells 24)) v0 v1 65).alloc (.cells #[.slice none 0 0, .slice none 0 0] 65)
    simpa using h
  · have h := fn2_alloc ((w.alloc (.cells c.cells 24)).alloc (.cells #[v0, v1] 65)) (.slice none 0 0) (.slice none 0 0) 65
    simpa using h
theorem StBox.below {w : World} {c : Cfg} {v0 v1 : Value} {wr w2 : World} (h : StBox w c v0 v1 wr) (hb : Below wr.heap.size wr w2) : StBox w c v0 v1 w2 := by
  have l2 := h.res.lt
  have k : ∀ i, w2.cell? ⟨w.heap.size, i, none⟩ = wr.cell? ⟨w.heap.size, i, none⟩ := fun i => hb.cell (p := ⟨w.heap.size, i, none⟩) (by show w.heap.size < _; omega)
  exact ⟨⟨(k 0).trans h.cfg.c0, (k 1).trans h.cfg.c1, (k 2).trans h.cfg.c2, (k 3).trans h.cfg.c3, (k 4).trans h.cfg.c4, (k 5).trans h.cfg.c5, (k 6).trans h.cfg.c6, (k 7).trans h.cfg.c7, (k 8).trans h.cfg.c8, (k 9).trans h.cfg.c9, (k 10).trans h.cfg.c10⟩,
    h.st.of_block (hb.block _ (by omega)), h.res.of_block (hb.block _ l2), h.bel.trans (hb.mono h.bel.size)⟩
theorem StBox.drewN {w : World} {c : Cfg} {v0 v1 : Value} {wr : World} (h : StBox w c v0 v1 wr) (n : Nat) : StBox w c v0 v1 (wr.drewN n) := h.below (below_drewN (Below.refl _ _) n)

set_option maxRecDepth 100000 in
set_option maxHeartbeats 1600000 in
theorem step_c (c : Cfg) (a1 : Option Addr) (n1 k1 : Nat) (a2 : Option Addr) (n2 k2 : Nat) (a3 : Option Addr) (n3 k3 : Nat)  (rate : Int) (w : World) (HC : Hid (∀ q, Calls Tryz.prog 30 #[c.val] q fun e w' => e = .returned (.int .i64 1) ∧ Below q.heap.size q w')) :
    Calls Tryz.prog 69 #[c.val, .agg #[.slice a1 n1 k1, .slice a2 n2 k2], .slice a3 n3 k3, .int .i64 rate] w fun e w' => e = .returned (.tuple #[.agg #[.slice none 0 0, .slice none 0 0], .int .i64 1]) ∧ Below w.heap.size w w' := by
  have sb0 := StBox.start w c (.slice a1 n1 k1) (.slice a2 n2 k2)
  obtain ⟨i, h, o, seed, batch, steps, crate, decay, how, keep, clip⟩ := c
  simp only [Cfg.val, Cfg.cells] at *
  go_enter Tryz.func69, Tryz.ntmps69
  go_wp2_with fail
  refine (HC.out _).mono ?_
  rintro e w1 ⟨rfl, hw1⟩
  have sb1 := sb0.below hw1
  clear hw1 sb0
  have ⟨⟨c0, c1, c2, c3, c4, c5, c6, c7, c8, c9, c10⟩, hs1, hr1, hb1⟩ := sb1
  dsimp only at c0 c1 c2 c3 c4 c5 c6 c7 c8 c9 c10
  obtain ⟨s0, s1⟩ := fn2_cells hs1
  obtain ⟨r0, r1⟩ := fn2_cells hr1
  have f0 := hr1.frozen 0
  have f1 := hr1.frozen 1
  go_wp2
  obtain ⟨q0, q1⟩ := fn2_cells (fn2_set hr1 (.slice none 0 0) (.slice none 0 0))
  exact bodyPost_ret (v := .tuple #[.agg #[.slice none 0 0, .slice none 0 0], .int .i64 1]) (by simp [results, Tryz.results69, go_sem, q0, q1]) rfl ⟨rfl, (hb1.setCell (show w.heap.size ≤ w.heap.size + 1 + 1 by omega) _).setCell (show w.heap.size ≤ w.heap.size + 1 + 1 by omega) _⟩

set_option maxRecDepth 100000 in
set_option maxHeartbeats 1600000 in
theorem step_w (c : Cfg) (a1 : Option Addr) (n1 k1 : Nat) (a2 : Option Addr) (n2 k2 : Nat) (a3 : Option Addr) (n3 k3 : Nat) (ws : List Int) (rate : Int) (w : World) (l1 : Lst w a1 n1 k1 ws) (HC : Hid (∀ q, Calls Tryz.prog 30 #[c.val] q fun e w' => e = .returned (.int .i64 0) ∧ Below q.heap.size q w')) (HP1 : Hid (∀ q, Lst q a1 n1 k1 ws → Calls Tryz.prog 98 #[c.val, .slice a1 n1 k1] q fun e w' => e = .returned (.bool false) ∧ Below q.heap.size q w')) :
    Calls Tryz.prog 69 #[c.val, .agg #[.slice a1 n1 k1, .slice a2 n2 k2], .slice a3 n3 k3, .int .i64 rate] w fun e w' => e = .returned (.tuple #[.agg #[.slice none 0 0, .slice none 0 0], .int .i64 5]) ∧ Below w.heap.size w w' := by
  have sb0 := StBox.start w c (.slice a1 n1 k1) (.slice a2 n2 k2)
  obtain ⟨i, h, o, seed, batch, steps, crate, decay, how, keep, clip⟩ := c
  simp only [Cfg.val, Cfg.cells] at *
  go_enter Tryz.func69, Tryz.ntmps69
  go_wp2_with fail
  refine (HC.out _).mono ?_
  rintro e w1 ⟨rfl, hw1⟩
  have sb1 := sb0.below hw1
  clear hw1 sb0
  have ⟨⟨c0, c1, c2, c3, c4, c5, c6, c7, c8, c9, c10⟩, hs1, hr1, hb1⟩ := sb1
  dsimp only at c0 c1 c2 c3 c4 c5 c6 c7 c8 c9 c10
  obtain ⟨s0, s1⟩ := fn2_cells hs1
  obtain ⟨r0, r1⟩ := fn2_cells hr1
  have f0 := hr1.frozen 0
  have f1 := hr1.frozen 1
  go_wp2_with fail
  refine (HP1.out _ (l1.below hb1 (Nat.le_refl _))).mono ?_
  rintro e w2 ⟨rfl, hw2⟩
  have sb2 := sb1.below hw2
  clear hw2 sb1 hs1 hr1 hb1
  clear c0 c1 c2 c3 c4 c5 c6 c7 c8 c9 c10 s0 s1 r0 r1 f0 f1
  have ⟨⟨c0, c1, c2, c3, c4, c5, c6, c7, c8, c9, c10⟩, hs2, hr2, hb2⟩ := sb2
  dsimp only at c0 c1 c2 c3 c4 c5 c6 c7 c8 c9 c10
  obtain ⟨s0, s1⟩ := fn2_cells hs2
  obtain ⟨r0, r1⟩ := fn2_cells hr2
  have f0 := hr2.frozen 0
  have f1 := hr2.frozen 1
  go_wp2
  obtain ⟨q0, q1⟩ := fn2_cells (fn2_set hr2 (.slice none 0 0) (.slice none 0 0))
  exact bodyPost_ret (v := .tuple #[.agg #[.slice none 0 0, .slice none 0 0], .int .i64 5]) (by simp [results, Tryz.results69, go_sem, q0, q1]) rfl ⟨rfl, (hb2.setCell (show w.heap.size ≤ w.heap.size + 1 + 1 by omega) _).setCell (show w.heap.size ≤ w.heap.size + 1 + 1 by omega) _⟩

set_option maxRecDepth 100000 in
set_option maxHeartbeats 1600000 in
theorem step_m (c : Cfg) (a1 : Option Addr) (n1 k1 : Nat) (a2 : Option Addr) (n2 k2 : Nat) (a3 : Option Addr) (n3 k3 : Nat) (ws ms : List Int) (rate : Int) (w : World) (l1 : Lst w a1 n1 k1 ws) (l2 : Lst w a2 n2 k2 ms) (HC : Hid (∀ q, Calls Tryz.prog 30 #[c.val] q fun e w' => e = .returned (.int .i64 0) ∧ Below q.heap.size q w')) (HP1 : Hid (∀ q, Lst q a1 n1 k1 ws → Calls Tryz.prog 98 #[c.val, .slice a1 n1 k1] q fun e w' => e = .returned (.bool true) ∧ Below q.heap.size q w')) (HP2 : Hid (∀ q, Lst q a2 n2 k2 ms → Calls Tryz.prog 98 #[c.val, .slice a2 n2 k2] q fun e w' => e = .returned (.bool false) ∧ Below q.heap.size q w')) :
    Calls Tryz.prog 69 #[c.val, .agg #[.slice a1 n1 k1, .slice a2 n2 k2], .slice a3 n3 k3, .int .i64 rate] w fun e w' => e = .returned (.tuple #[.agg #[.slice none 0 0, .slice none 0 0], .int .i64 5]) ∧ Below w.heap.size w w' := by
  have sb0 := StBox.start w c (.slice a1 n1 k1) (.slice a2 n2 k2)
  obtain ⟨i, h, o, seed, batch, steps, crate, decay, how, keep, clip⟩ := c
  simp only [Cfg.val, Cfg.cells] at *
  go_enter Tryz.func69, Tryz.ntmps69
  go_wp2_with fail
  refine (HC.out _).mono ?_
  rintro e w1 ⟨rfl, hw1⟩
  have sb1 := sb0.below hw1
  clear hw1 sb0
  have ⟨⟨c0, c1, c2, c3, c4, c5, c6, c7, c8, c9, c10⟩, hs1, hr1, hb1⟩ := sb1
  dsimp only at c0 c1 c2 c3 c4 c5 c6 c7 c8 c9 c10
  obtain ⟨s0, s1⟩ := fn2_cells hs1
  obtain ⟨r0, r1⟩ := fn2_cells hr1
  have f0 := hr1.frozen 0
  have f1 := hr1.frozen 1
  go_wp2_with fail
  refine (HP1.out _ (l1.below hb1 (Nat.le_refl _))).mono ?_
  rintro e w2 ⟨rfl, hw2⟩
  have sb2 := sb1.below hw2
  clear hw2 sb1 hs1 hr1 hb1
  clear c0 c1 c2 c3 c4 c5 c6 c7 c8 c9 c10 s0 s1 r0 r1 f0 f1
  have ⟨⟨c0, c1, c2, c3, c4, c5, c6, c7, c8, c9, c10⟩, hs2, hr2, hb2⟩ := sb2
  dsimp only at c0 c1 c2 c3 c4 c5 c6 c7 c8 c9 c10
  obtain ⟨s0, s1⟩ := fn2_cells hs2
  obtain ⟨r0, r1⟩ := fn2_cells hr2
  have f0 := hr2.frozen 0
  have f1 := hr2.frozen 1
  go_wp2_with fail
  refine (HP2.out _ (l2.below hb2 (Nat.le_refl _))).mono ?_
  rintro e w3 ⟨rfl, hw3⟩
  have sb3 := sb2.below hw3
  clear hw3 sb2 hs2 hr2 hb2
  clear c0 c1 c2 c3 c4 c5 c6 c7 c8 c9 c10 s0 s1 r0 r1 f0 f1
  have ⟨⟨c0, c1, c2, c3, c4, c5, c6, c7, c8, c9, c10⟩, hs3, hr3, hb3⟩ := sb3
  dsimp only at c0 c1 c2 c3 c4 c5 c6 c7 c8 c9 c10
  obtain ⟨s0, s1⟩ := fn2_cells hs3
  obtain ⟨r0, r1⟩ := fn2_cells hr3
  have f0 := hr3.frozen 0
  have f1 := hr3.frozen 1
  go_wp2
  obtain ⟨q0, q1⟩ := fn2_cells (fn2_set hr3 (.slice none 0 0) (.slice none 0 0))
  exact bodyPost_ret (v := .tuple #[.agg #[.slice none 0 0, .slice none 0 0], .int .i64 5]) (by simp [results, Tryz.results69, go_sem, q0, q1]) rfl ⟨rfl, (hb3.setCell (show w.heap.size ≤ w.heap.size + 1 + 1 by omega) _).setCell (show w.heap.size ≤ w.heap.size + 1 + 1 by omega) _⟩

set_option maxRecDepth 100000 in
set_option maxHeartbeats 1600000 in
theorem step_g (c : Cfg) (a1 : Option Addr) (n1 k1 : Nat) (a2 : Option Addr) (n2 k2 : Nat) (a3 : Option Addr) (n3 k3 : Nat) (ws ms : List Int) (rate : Int) (w : World) (l1 : Lst w a1 n1 k1 ws) (l2 : Lst w a2 n2 k2 ms) (HC : Hid (∀ q, Calls Tryz.prog 30 #[c.val] q fun e w' => e = .returned (.int .i64 0) ∧ Below q.heap.size q w')) (HP1 : Hid (∀ q, Lst q a1 n1 k1 ws → Calls Tryz.prog 98 #[c.val, .slice a1 n1 k1] q fun e w' => e = .returned (.bool true) ∧ Below q.heap.size q w')) (HP2 : Hid (∀ q, Lst q a2 n2 k2 ms → Calls Tryz.prog 98 #[c.val, .slice a2 n2 k2] q fun e w' => e = .returned (.bool true) ∧ Below q.heap.size q w')) (hlen : n3 ≠ n1) :
    Calls Tryz.prog 69 #[c.val, .agg #[.slice a1 n1 k1, .slice a2 n2 k2], .slice a3 n3 k3, .int .i64 rate] w fun e w' => e = .returned (.tuple #[.agg #[.slice none 0 0, .slice none 0 0], .int .i64 5]) ∧ Below w.heap.size w w' := by
  have sb0 := StBox.start w c (.slice a1 n1 k1) (.slice a2 n2 k2)
  obtain ⟨i, h, o, seed, batch, steps, crate, decay, how, keep, clip⟩ := c
  simp only [Cfg.val, Cfg.cells] at *
  go_enter Tryz.func69, Tryz.ntmps69
  go_wp2_with fail
  refine (HC.out _).mono ?_
  rintro e w1 ⟨rfl, hw1⟩
  have sb1 := sb0.below hw1
  clear hw1 sb0
  have ⟨⟨c0, c1, c2, c3, c4, c5, c6, c7, c8, c9, c10⟩, hs1, hr1, hb1⟩ := sb1
  dsimp only at c0 c1 c2 c3 c4 c5 c6 c7 c8 c9 c10
  obtain ⟨s0, s1⟩ := fn2_cells hs1
  obtain ⟨r0, r1⟩ := fn2_cells hr1
  have f0 := hr1.frozen 0
  have f1 := hr1.frozen 1
  go_wp2_with fail
  refine (HP1.out _ (l1.below hb1 (Nat.le_refl _))).mono ?_
  rintro e w2 ⟨rfl, hw2⟩
  have sb2 := sb1.below hw2
  clear hw2 sb1 hs1 hr1 hb1
  clear c0 c1 c2 c3 c4 c5 c6 c7 c8 c9 c10 s0 s1 r0 r1 f0 f1
  have ⟨⟨c0, c1, c2, c3, c4, c5, c6, c7, c8, c9, c10⟩, hs2, hr2, hb2⟩ := sb2
  dsimp only at c0 c1 c2 c3 c4 c5 c6 c7 c8 c9 c10
  obtain ⟨s0, s1⟩ := fn2_cells hs2
  obtain ⟨r0, r1⟩ := fn2_cells hr2
  have f0 := hr2.frozen 0
  have f1 := hr2.frozen 1
  go_wp2_with fail
  refine (HP2.out _ (l2.below hb2 (Nat.le_refl _))).mono ?_
  rintro e w3 ⟨rfl, hw3⟩
  have sb3 := sb2.below hw3
  clear hw3 sb2 hs2 hr2 hb2
  clear c0 c1 c2 c3 c4 c5 c6 c7 c8 c9 c10 s0 s1 r0 r1 f0 f1
  have ⟨⟨c0, c1, c2, c3, c4, c5, c6, c7, c8, c9, c10⟩, hs3, hr3, hb3⟩ := sb3
  dsimp only at c0 c1 c2 c3 c4 c5 c6 c7 c8 c9 c10
  obtain ⟨s0, s1⟩ := fn2_cells hs3
  obtain ⟨r0, r1⟩ := fn2_cells hr3
  have f0 := hr3.frozen 0
  have f1 := hr3.frozen 1
  have hne : ((n3 : Int) != (n1 : Int)) = true := by rw [bne_iff_ne]; omega
  go_wp2
  obtain ⟨q0, q1⟩ := fn2_cells (fn2_set hr3 (.slice none 0 0) (.slice none 0 0))
  exact bodyPost_ret (v := .tuple #[.agg #[.slice none 0 0, .slice none 0 0], .int .i64 5]) (by simp [results, Tryz.results69, go_sem, q0, q1]) rfl ⟨rfl, (hb3.setCell (show w.heap.size ≤ w.heap.size + 1 + 1 by omega) _).setCell (show w.heap.size ≤ w.heap.size + 1 + 1 by omega) _⟩

set_option maxRecDepth 100000 in
set_option maxHeartbeats 1600000 in
theorem step_r (c : Cfg) (a1 : Option Addr) (n1 k1 : Nat) (a2 : Option Addr) (n2 k2 : Nat) (a3 : Option Addr) (n3 k3 : Nat) (ws ms : List Int) (rate : Int) (w : World) (l1 : Lst w a1 n1 k1 ws) (l2 : Lst w a2 n2 k2 ms) (HC : Hid (∀ q, Calls Tryz.prog 30 #[c.val] q fun e w' => e = .returned (.int .i64 0) ∧ Below q.heap.size q w')) (HP1 : Hid (∀ q, Lst q a1 n1 k1 ws → Calls Tryz.prog 98 #[c.val, .slice a1 n1 k1] q fun e w' => e = .returned (.bool true) ∧ Below q.heap.size q w')) (HP2 : Hid (∀ q, Lst q a2 n2 k2 ms → Calls Tryz.prog 98 #[c.val, .slice a2 n2 k2] q fun e w' => e = .returned (.bool true) ∧ Below q.heap.size q w')) (hlen : n3 = n1) (HI : Hid (inB rate 0 2147483647 = false)) :
    Calls Tryz.prog 69 #[c.val, .agg #[.slice a1 n1 k1, .slice a2 n2 k2], .slice a3 n3 k3, .int .i64 rate] w fun e w' => e = .returned (.tuple #[.agg #[.slice none 0 0, .slice none 0 0], .int .i64 1]) ∧ Below w.heap.size w w' := by
  have sb0 := StBox.start w c (.slice a1 n1 k1) (.slice a2 n2 k2)
  subst hlen
  obtain ⟨i, h, o, seed, batch, steps, crate, decay, how, keep, clip⟩ := c
  simp only [Cfg.val, Cfg.cells] at *
  go_enter Tryz.func69, Tryz.ntmps69
  go_wp2_with fail
  refine (HC.out _).mono ?_
  rintro e w1 ⟨rfl, hw1⟩
  have sb1 := sb0.below hw1
  clear hw1 sb0
  have ⟨⟨c0, c1, c2, c3, c4, c5, c6, c7, c8, c9, c10⟩, hs1, hr1, hb1⟩ := sb1
  dsimp only at c0 c1 c2 c3 c4 c5 c6 c7 c8 c9 c10
  obtain ⟨s0, s1⟩ := fn2_cells hs1
  obtain ⟨r0, r1⟩ := fn2_cells hr1
  have f0 := hr1.frozen 0
  have f1 := hr1.frozen 1
  go_wp2_with fail
  refine (HP1.out _ (l1.below hb1 (Nat.le_refl _))).mono ?_
  rintro e w2 ⟨rfl, hw2⟩
  have sb2 := sb1.below hw2
  clear hw2 sb1 hs1 hr1 hb1
  clear c0 c1 c2 c3 c4 c5 c6 c7 c8 c9 c10 s0 s1 r0 r1 f0 f1
  have ⟨⟨c0, c1, c2, c3, c4, c5, c6, c7, c8, c9, c10⟩, hs2, hr2, hb2⟩ := sb2
  dsimp only at c0 c1 c2 c3 c4 c5 c6 c7 c8 c9 c10
  obtain ⟨s0, s1⟩ := fn2_cells hs2
  obtain ⟨r0, r1⟩ := fn2_cells hr2
  have f0 := hr2.frozen 0
  have f1 := hr2.frozen 1
  go_wp2_with fail
  refine (HP2.out _ (l2.below hb2 (Nat.le_refl _))).mono ?_
  rintro e w3 ⟨rfl, hw3⟩
  have sb3 := sb2.below hw3
  clear hw3 sb2 hs2 hr2 hb2
  clear c0 c1 c2 c3 c4 c5 c6 c7 c8 c9 c10 s0 s1 r0 r1 f0 f1
  have ⟨⟨c0, c1, c2, c3, c4, c5, c6, c7, c8, c9, c10⟩, hs3, hr3, hb3⟩ := sb3
  dsimp only at c0 c1 c2 c3 c4 c5 c6 c7 c8 c9 c10
  obtain ⟨s0, s1⟩ := fn2_cells hs3
  obtain ⟨r0, r1⟩ := fn2_cells hr3
  have f0 := hr3.frozen 0
  have f1 := hr3.frozen 1
  have hne : ((n3 : Int) != (n3 : Int)) = false := by simp
  go_wp2_with (go_at_call 44; refine (within_calls _ _ _ _).mono ?_; rintro e w' ⟨rfl, hw'⟩; replace hw' := hw'.symm; subst hw'; rw [HI.out])
  obtain ⟨q0, q1⟩ := fn2_cells (fn2_set hr3 (.slice none 0 0) (.slice none 0 0))
  exact bodyPost_ret (v := .tuple #[.agg #[.slice none 0 0, .slice none 0 0], .int .i64 1]) (by simp [results, Tryz.results69, go_sem, q0, q1]) rfl ⟨rfl, (hb3.setCell (show w.heap.size ≤ w.heap.size + 1 + 1 by omega) _).setCell (show w.heap.size ≤ w.heap.size + 1 + 1 by omega) _⟩

set_option maxRecDepth 100000 in
set_option maxHeartbeats 1600000 in
theorem step_mom_own (c : Cfg) (a1 : Option Addr) (n1 k1 : Nat) (a2 : Option Addr) (n2 k2 : Nat) (a3 : Option Addr) (n3 k3 : Nat) (ws ms gs : List Int) (rate : Int) (w : World) (l1 : Lst w a1 n1 k1 ws) (l2 : Lst w a2 n2 k2 ms) (HC : Hid (∀ q, Calls Tryz.prog 30 #[c.val] q fun e w' => e = .returned (.int .i64 0) ∧ Below q.heap.size q w')) (HP1 : Hid (∀ q, Lst q a1 n1 k1 ws → Calls Tryz.prog 98 #[c.val, .slice a1 n1 k1] q fun e w' => e = .returned (.bool true) ∧ Below q.heap.size q w')) (HP2 : Hid (∀ q, Lst q a2 n2 k2 ms → Calls Tryz.prog 98 #[c.val, .slice a2 n2 k2] q fun e w' => e = .returned (.bool true) ∧ Below q.heap.size q w')) (hlen : n3 = n1) (HI : Hid (inB rate 0 2147483647 = true)) (l3 : Lst w a3 n3 k3 gs) (hn : n2 = n1) (n40 : n1 ≤ 40) (n4 : 4 ≤ n1) (hhow : c.how = 1) :
    Calls Tryz.prog 69 #[c.val, .agg #[.slice a1 n1 k1, .slice a2 n2 k2], .slice a3 n3 k3, .int .i64 rate] w fun e w' => ∃ g1 d1 g2 d2, e = .returned (.tuple #[.agg #[.slice (some ⟨g1, 0, none⟩) n1 d1, .slice (some ⟨g2, 0, none⟩) n1 d2], .int .i64 0]) ∧ w.heap.size ≤ g1 ∧ w.heap.size ≤ g2 ∧ g1 ≠ g2 ∧ (d1 ≤ maxLen ∧ d2 ≤ maxLen) ∧ Arr w' g1 d1 n1 (movedG ws ((List.range n1).map (momG c.keep ms gs)) rate) ∧ Arr w' g2 d2 n1 (momG c.keep ms gs) ∧ Below w.heap.size w w' := by
  have sb0 := StBox.start w c (.slice a1 n1 k1) (.slice a2 n2 k2)
  subst hlen
  subst hn
  obtain ⟨i, h, o, seed, batch, steps, crate, decay, how, keep, clip⟩ := c
  simp only [Cfg.val, Cfg.cells] at *
  have hw0 : (how == 0) = false := by rw [beq_eq_false_iff_ne]; omega
  clear hhow
  go_enter Tryz.func69, Tryz.ntmps69
  go_wp2_with fail
  refine (HC.out _).mono ?_
  rintro e w1 ⟨rfl, hw1⟩
  have sb1 := sb0.below hw1
  clear hw1 sb0
  have ⟨⟨c0, c1, c2, c3, c4, c5, c6, c7, c8, c9, c10⟩, hs1, hr1, hb1⟩ := sb1
  dsimp only at c0 c1 c2 c3 c4 c5 c6 c7 c8 c9 c10
  obtain ⟨s0, s1⟩ := fn2_cells hs1
  obtain ⟨r0, r1⟩ := fn2_cells hr1
  have f0 := hr1.frozen 0
  have f1 := hr1.frozen 1
  go_wp2_with fail
  refine (HP1.out _ (l1.below hb1 (Nat.le_refl _))).mono ?_
  rintro e w2 ⟨rfl, hw2⟩
  have sb2 := sb1.below hw2
  clear hw2 sb1 hs1 hr1 hb1
  clear c0 c1 c2 c3 c4 c5 c6 c7 c8 c9 c10 s0 s1 r0 r1 f0 f1
  have ⟨⟨c0, c1, c2, c3, c4, c5, c6, c7, c8, c9, c10⟩, hs2, hr2, hb2⟩ := sb2
  dsimp only at c0 c1 c2 c3 c4 c5 c6 c7 c8 c9 c10
  obtain ⟨s0, s1⟩ := fn2_cells hs2
  obtain ⟨r0, r1⟩ := fn2_cells hr2
  have f0 := hr2.frozen 0
  have f1 := hr2.frozen 1
  go_wp2_with fail
  refine (HP2.out _ (l2.below hb2 (Nat.le_refl _))).mono ?_
  rintro e w3 ⟨rfl, hw3⟩
  have sb3 := sb2.below hw3
  clear hw3 sb2 hs2 hr2 hb2
  clear c0 c1 c2 c3 c4 c5 c6 c7 c8 c9 c10 s0 s1 r0 r1 f0 f1
  have ⟨⟨c0, c1, c2, c3, c4, c5, c6, c7, c8, c9, c10⟩, hs3, hr3, hb3⟩ := sb3
  dsimp only at c0 c1 c2 c3 c4 c5 c6 c7 c8 c9 c10
  obtain ⟨s0, s1⟩ := fn2_cells hs3
  obtain ⟨r0, r1⟩ := fn2_cells hr3
  have f0 := hr3.frozen 0
  have f1 := hr3.frozen 1
  have hne : ((n2 : Int) != (n2 : Int)) = false := by simp
  have m1 := l1.below hb3 (Nat.le_refl _)
  have m2 := l2.below hb3 (Nat.le_refl _)
  have m3 := l3.below hb3 (Nat.le_refl _)
  clear l1 l2 l3
  go_wp2_with (go_at_call 44; refine (within_calls _ _ _ _).mono ?_; rintro e w' ⟨rfl, hw'⟩; replace hw' := hw'.symm; subst hw'; rw [HI.out])
  refine (momentum_own _ _ _ _ _ _ _ _ _ m2 m3 (by omega)).mono ?_
  rintro e w4 ⟨rfl, g2, hw4⟩
  have z5 : w3.heap.size < w4.heap.size := g2.lt
  have sb4 := sb3.below hw4
  have z3 := hr3.lt
  have z4 := hw4.size
  replace m1 := m1.below hw4 (Nat.le_refl _)
  clear hw4 sb3 hs3 hr3 hb3 m2 m3
  clear c0 c1 c2 c3 c4 c5 c6 c7 c8 c9 c10 s0 s1 r0 r1 f0 f1
  have ⟨⟨c0, c1, c2, c3, c4, c5, c6, c7, c8, c9, c10⟩, hs4, hr4, hb4⟩ := sb4
  dsimp only at c0 c1 c2 c3 c4 c5 c6 c7 c8 c9 c10
  obtain ⟨s0, s1⟩ := fn2_cells hs4
  obtain ⟨r0, r1⟩ := fn2_cells hr4
  have f0 := hr4.frozen 0
  have f1 := hr4.frozen 1
  go_wp2_with fail
  refine (moved_own _ _ _ _ _ _ _ _ _ m1 g2.lst (by omega)).mono ?_
  rintro e w5 ⟨rfl, g1, hw5⟩
  have sb5 := sb4.below hw5
  replace g2 := g2.below hw5
  clear hw5 sb4 hs4 hr4 hb4 m1
  clear c0 c1 c2 c3 c4 c5 c6 c7 c8 c9 c10 s0 s1 r0 r1 f0 f1
  have ⟨⟨c0, c1, c2, c3, c4, c5, c6, c7, c8, c9, c10⟩, hs5, hr5, hb5⟩ := sb5
  dsimp only at c0 c1 c2 c3 c4 c5 c6 c7 c8 c9 c10
  obtain ⟨s0, s1⟩ := fn2_cells hs5
  obtain ⟨r0, r1⟩ := fn2_cells hr5
  have f0 := hr5.frozen 0
  have f1 := hr5.frozen 1
  go_wp2
  obtain ⟨q0, q1⟩ := fn2_cells (fn2_set hr5 (.slice (some ⟨w4.heap.size, 0, none⟩) n2 n2) (.slice (some ⟨w3.heap.size, 0, none⟩) n2 n2))
  refine bodyPost_ret (v := .tuple #[.agg #[.slice (some ⟨w4.heap.size, 0, none⟩) n2 n2, .slice (some ⟨w3.heap.size, 0, none⟩) n2 n2], .int .i64 0]) (by simp [results, Tryz.results69, go_sem, q0, q1]) rfl ⟨_, _, _, _, rfl, by omega, by omega, by omega, ⟨by unfold maxLen; omega, by unfold maxLen; omega⟩, ?_, ?_, (hb5.setCell (show w.heap.size ≤ w.heap.size + 1 + 1 by omega) _).setCell (show w.heap.size ≤ w.heap.size + 1 + 1 by omega) _⟩
  · exact (g1.setOther (show w4.heap.size ≠ w.heap.size + 1 + 1 by omega) _).setOther (show w4.heap.size ≠ w.heap.size + 1 + 1 by omega) _
  · exact (g2.setOther (show w3.heap.size ≠ w.heap.size + 1 + 1 by omega) _).setOther (show w3.heap.size ≠ w.heap.size + 1 + 1 by omega) _

theorem step_mom (c : Cfg) (a1 : Option Addr) (n1 k1 : Nat) (a2 : Option Addr) (n2 k2 : Nat) (a3 : Option Addr) (n3 k3 : Nat) (ws ms gs : List Int) (rate : Int) (w : World) (l1 : Lst w a1 n1 k1 ws) (l2 : Lst w a2 n2 k2 ms) (HC : Hid (∀ q, Calls Tryz.prog 30 #[c.val] q fun e w' => e = .returned (.int .i64 0) ∧ Below q.heap.size q w')) (HP1 : Hid (∀ q, Lst q a1 n1 k1 ws → Calls Tryz.prog 98 #[c.val, .slice a1 n1 k1] q fun e w' => e = .returned (.bool true) ∧ Below q.heap.size q w')) (HP2 : Hid (∀ q, Lst q a2 n2 k2 ms → Calls Tryz.prog 98 #[c.val, .slice a2 n2 k2] q fun e w' => e = .returned (.bool true) ∧ Below q.heap.size q w')) (hlen : n3 = n1) (HI : Hid (inB rate 0 2147483647 = true)) (l3 : Lst w a3 n3 k3 gs) (hn : n2 = n1) (n40 : n1 ≤ 40) (n4 : 4 ≤ n1) (hhow : c.how = 1) :
    Calls Tryz.prog 69 #[c.val, .agg #[.slice a1 n1 k1, .slice a2 n2 k2], .slice a3 n3 k3, .int .i64 rate] w fun e w' => ∃ b1 d1 b2 d2, e = .returned (.tuple #[.agg #[.slice b1 n1 d1, .slice b2 n1 d2], .int .i64 0]) ∧ Lst w' b1 n1 d1 ((List.range n1).map (movedG ws ((List.range n1).map (momG c.keep ms gs)) rate)) ∧ Lst w' b2 n1 d2 ((List.range n1).map (momG c.keep ms gs)) ∧ Below w.heap.size w w' :=
  (step_mom_own c a1 n1 k1 a2 n2 k2 a3 n3 k3 ws ms gs rate w l1 l2 HC HP1 HP2 hlen HI l3 hn n40 n4 hhow).mono fun _ _ ⟨g1, d1, g2, d2, he, _, _, _, _, h1, h2, h3⟩ => ⟨some ⟨g1, 0, none⟩, d1, some ⟨g2, 0, none⟩, d2, he, h1.lst, h2.lst, h3⟩

set_option maxRecDepth 100000 in
set_option maxHeartbeats 1600000 in
theorem step_plain_own (c : Cfg) (a1 : Option Addr) (n1 k1 : Nat) (a2 : Option Addr) (n2 k2 : Nat) (a3 : Option Addr) (n3 k3 : Nat) (ws ms gs : List Int) (rate : Int) (w : World) (l1 : Lst w a1 n1 k1 ws) (l2 : Lst w a2 n2 k2 ms) (HC : Hid (∀ q, Calls Tryz.prog 30 #[c.val] q fun e w' => e = .returned (.int .i64 0) ∧ Below q.heap.size q w')) (HP1 : Hid (∀ q, Lst q a1 n1 k1 ws → Calls Tryz.prog 98 #[c.val, .slice a1 n1 k1] q fun e w' => e = .returned (.bool true) ∧ Below q.heap.size q w')) (HP2 : Hid (∀ q, Lst q a2 n2 k2 ms → Calls Tryz.prog 98 #[c.val, .slice a2 n2 k2] q fun e w' => e = .returned (.bool true) ∧ Below q.heap.size q w')) (hlen : n3 = n1) (HI : Hid (inB rate 0 2147483647 = true)) (l3 : Lst w a3 n3 k3 gs) (hn : n2 = n1) (n40 : n1 ≤ 40) (n4 : 4 ≤ n1) (hhow : c.how = 0) :
    Calls Tryz.prog 69 #[c.val, .agg #[.slice a1 n1 k1, .slice a2 n2 k2], .slice a3 n3 k3, .int .i64 rate] w fun e w' => ∃ g1 d1 g2 d2, e = .returned (.tuple #[.agg #[.slice (some ⟨g1, 0, none⟩) n1 d1, .slice (some ⟨g2, 0, none⟩) n1 d2], .int .i64 0]) ∧ w.heap.size ≤ g1 ∧ w.heap.size ≤ g2 ∧ g1 ≠ g2 ∧ (d1 ≤ maxLen ∧ d2 ≤ maxLen) ∧ Arr w' g1 d1 n1 (movedG ws gs rate) ∧ Arr w' g2 d2 n1 (fun i => ms.getD i 0) ∧ Below w.heap.size w w' := by
  have sb0 := StBox.start w c (.slice a1 n1 k1) (.slice a2 n2 k2)
  subst hlen
  subst hn
  obtain ⟨bb, oo, rfl, _, _⟩ := l2.at (by omega)
  obtain ⟨i, h, o, seed, batch, steps, crate, decay, how, keep, clip⟩ := c
  simp only [Cfg.val, Cfg.cells] at *
  have hw0 : (how == 0) = true := by simpa using hhow
  clear hhow
  go_enter Tryz.func69, Tryz.ntmps69
  go_wp2_with fail
  refine (HC.out _).mono ?_
  rintro e w1 ⟨rfl, hw1⟩
  have sb1 := sb0.below hw1
  clear hw1 sb0
  have ⟨⟨c0, c1, c2, c3, c4, c5, c6, c7, c8, c9, c10⟩, hs1, hr1, hb1⟩ := sb1
  dsimp only at c0 c1 c2 c3 c4 c5 c6 c7 c8 c9 c10
  obtain ⟨s0, s1⟩ := fn2_cells hs1
  obtain ⟨r0, r1⟩ := fn2_cells hr1
  have f0 := hr1.frozen 0
  have f1 := hr1.frozen 1
  go_wp2_with fail
  refine (HP1.out _ (l1.below hb1 (Nat.le_refl _))).mono ?_
  rintro e w2 ⟨rfl, hw2⟩
  have sb2 := sb1.below hw2
  clear hw2 sb1 hs1 hr1 hb1
  clear c0 c1 c2 c3 c4 c5 c6 c7 c8 c9 c10 s0 s1 r0 r1 f0 f1
  have ⟨⟨c0, c1, c2, c3, c4, c5, c6, c7, c8, c9, c10⟩, hs2, hr2, hb2⟩ := sb2
  dsimp only at c0 c1 c2 c3 c4 c5 c6 c7 c8 c9 c10
  obtain ⟨s0, s1⟩ := fn2_cells hs2
  obtain ⟨r0, r1⟩ := fn2_cells hr2
  have f0 := hr2.frozen 0
  have f1 := hr2.frozen 1
  go_wp2_with fail
  refine (HP2.out _ (l2.below hb2 (Nat.le_refl _))).mono ?_
  rintro e w3 ⟨rfl, hw3⟩
  have sb3 := sb2.below hw3
  clear hw3 sb2 hs2 hr2 hb2
  clear c0 c1 c2 c3 c4 c5 c6 c7 c8 c9 c10 s0 s1 r0 r1 f0 f1
  have ⟨⟨c0, c1, c2, c3, c4, c5, c6, c7, c8, c9, c10⟩, hs3, hr3, hb3⟩ := sb3
  dsimp only at c0 c1 c2 c3 c4 c5 c6 c7 c8 c9 c10
  obtain ⟨s0, s1⟩ := fn2_cells hs3
  obtain ⟨r0, r1⟩ := fn2_cells hr3
  have f0 := hr3.frozen 0
  have f1 := hr3.frozen 1
  have hne : ((n2 : Int) != (n2 : Int)) = false := by simp
  have m1 := l1.below hb3 (Nat.le_refl _)
  have m2 := l2.below hb3 (Nat.le_refl _)
  have m3 := l3.below hb3 (Nat.le_refl _)
  clear l1 l2 l3
  have z3 := hr3.lt
  have S3 : w3.drew.cell? ⟨w.heap.size + 1, 0, none⟩ = some (.slice a1 n2 k1) ∧ w3.drew.cell? ⟨w.heap.size + 1, 1, none⟩ = some (.slice (some ⟨bb, oo, none⟩) n2 k2) := ⟨s0, s1⟩
  go_wp2_with (go_at_call 44; refine (within_calls _ _ _ _).mono ?_; rintro e w' ⟨rfl, hw'⟩; replace hw' := hw'.symm; subst hw'; rw [HI.out])
  go_region_held3 (fun q => q.cell? ⟨w.heap.size + 1, 0, none⟩ = some (.slice a1 n2 k1) ∧ q.cell? ⟨w.heap.size + 1, 1, none⟩ = some (.slice (some ⟨bb, oo, none⟩) n2 k2)) (first | with_reducible exact S6 | with_reducible exact S5 | with_reducible exact S4 | with_reducible exact S3)
    (first | (go_at_call 99; refine (moved_own _ _ _ _ _ _ _ _ _ m1.drew m3.drew (by omega)).mono ?_; rintro e w4 ⟨rfl, g1, hw4⟩; have z5 : w3.heap.size < w4.heap.size := g1.lt; have sb4 := StBox.below (show StBox _ _ _ _ w3.drew from sb3.drewN 1) hw4; have S4 := fn2_cells sb4.st; have m4 := m2.drew.below hw4 (Nat.le_refl _); have z4 : w3.heap.size ≤ w4.heap.size := hw4.size) | (go_at_call 100; refine (cloneL_own _ _ _ _ _ _ m4 (by omega) (by omega)).mono ?_; rintro e w5 ⟨b5, d5, rfl, hb5, g2, hcm, hw5⟩; have sb5 := sb4.below hw5; have S5 := fn2_cells sb5.st; have hr5 := sb5.res; obtain ⟨r0, r1⟩ := fn2_cells hr5; have f0 := hr5.frozen 0; have f1 := hr5.frozen 1; have S6 := fn2_cells ((sb5.st.setOther (show w.heap.size + 1 ≠ (⟨w.heap.size + 1 + 1, 0, none⟩ : Addr).block by simp) (.slice (some ⟨w3.heap.size, 0, none⟩) n2 n2)).setOther (show w.heap.size + 1 ≠ (⟨w.heap.size + 1 + 1, 1, none⟩ : Addr).block by simp) (.slice (some ⟨b5, 0, none⟩) n2 d5))))
  all_goals go_wp2_with fail
  obtain ⟨q0, q1⟩ := fn2_cells (fn2_set hr5 (.slice (some ⟨w3.heap.size, 0, none⟩) n2 n2) (.slice (some ⟨b5, 0, none⟩) n2 d5))
  refine bodyPost_ret (v := .tuple #[.agg #[.slice (some ⟨w3.heap.size, 0, none⟩) n2 n2, .slice (some ⟨b5, 0, none⟩) n2 d5], .int .i64 0]) (by simp [results, Tryz.results69, go_sem, q0, q1]) rfl ⟨_, _, _, _, rfl, by omega, by omega, by omega, ⟨by unfold maxLen; omega, hcm⟩, ?_, ?_, (sb5.bel.setCell (show w.heap.size ≤ w.heap.size + 1 + 1 by omega) _).setCell (show w.heap.size ≤ w.heap.size + 1 + 1 by omega) _⟩
  · have g1 : Arr w5 w3.heap.size n2 n2 (movedG ws gs rate) := g1.below hw5
    exact (g1.setOther (show w3.heap.size ≠ w.heap.size + 1 + 1 by omega) _).setOther (show w3.heap.size ≠ w.heap.size + 1 + 1 by omega) _
  · exact (g2.setOther (show b5 ≠ w.heap.size + 1 + 1 by omega) _).setOther (show b5 ≠ w.heap.size + 1 + 1 by omega) _

theorem step_plain (c : Cfg) (a1 : Option Addr) (n1 k1 : Nat) (a2 : Option Addr) (n2 k2 : Nat) (a3 : Option Addr) (n3 k3 : Nat) (ws ms gs : List Int) (rate : Int) (w : World) (l1 : Lst w a1 n1 k1 ws) (l2 : Lst w a2 n2 k2 ms) (HC : Hid (∀ q, Calls Tryz.prog 30 #[c.val] q fun e w' => e = .returned (.int .i64 0) ∧ Below q.heap.size q w')) (HP1 : Hid (∀ q, Lst q a1 n1 k1 ws → Calls Tryz.prog 98 #[c.val, .slice a1 n1 k1] q fun e w' => e = .returned (.bool true) ∧ Below q.heap.size q w')) (HP2 : Hid (∀ q, Lst q a2 n2 k2 ms → Calls Tryz.prog 98 #[c.val, .slice a2 n2 k2] q fun e w' => e = .returned (.bool true) ∧ Below q.heap.size q w')) (hlen : n3 = n1) (HI : Hid (inB rate 0 2147483647 = true)) (l3 : Lst w a3 n3 k3 gs) (hn : n2 = n1) (n40 : n1 ≤ 40) (n4 : 4 ≤ n1) (hhow : c.how = 0) :
    Calls Tryz.prog 69 #[c.val, .agg #[.slice a1 n1 k1, .slice a2 n2 k2], .slice a3 n3 k3, .int .i64 rate] w fun e w' => ∃ b1 d1 b2 d2, e = .returned (.tuple #[.agg #[.slice b1 n1 d1, .slice b2 n1 d2], .int .i64 0]) ∧ Lst w' b1 n1 d1 ((List.range n1).map (movedG ws gs rate)) ∧ Lst w' b2 n1 d2 ms ∧ Below w.heap.size w w' := by
  refine (step_plain_own c a1 n1 k1 a2 n2 k2 a3 n3 k3 ws ms gs rate w l1 l2 HC HP1 HP2 hlen HI l3 hn n40 n4 hhow).mono ?_
  rintro e w' ⟨g1, d1, g2, d2, he, _, _, _, _, h1, h2, h3⟩
  have hl := h2.lst
  rw [getD_self (by rw [l2.len, hn])] at hl
  exact ⟨some ⟨g1, 0, none⟩, d1, some ⟨g2, 0, none⟩, d2, he, h1.lst, hl, h3⟩

theorem fitB_len {c : Cfg} {len : Nat} {xs : List Int} (h : fitB c len xs = true) : (len : Int) = sizeN c := by
  simp only [fitB, Bool.and_eq_true, decide_eq_true_eq] at h
  exact h.1
theorem getD_rng (g : Nat → Int) {n i : Nat} (h : i < n) : ((List.range n).map g).getD i 0 = g i := by simp [h]

theorem step_calls (c : Cfg) (a1 : Option Addr) (n1 k1 : Nat) (a2 : Option Addr) (n2 k2 : Nat) (a3 : Option Addr) (n3 k3 : Nat) (ws ms gs : List Int) (rate : Int) (w : World) (l1 : Lst w a1 n1 k1 ws) (l2 : Lst w a2 n2 k2 ms) (l3 : Lst w a3 n3 k3 gs) :
    Calls Tryz.prog 69 #[c.val, .agg #[.slice a1 n1 k1, .slice a2 n2 k2], .slice a3 n3 k3, .int .i64 rate] w fun e w' => ∃ b1 m1 d1 b2 m2 d2, e = .returned (.tuple #[.agg #[.slice b1 m1 d1, .slice b2 m2 d2], .int .i64 (stepE c ws ms n1 n2 n3 rate)]) ∧ m1 ≤ 200 ∧ m2 ≤ 200 ∧ Lst w' b1 m1 d1 (stepW c ws ms gs n1 n2 n3 rate) ∧ Lst w' b2 m2 d2 (stepM c ws ms gs n1 n2 n3 rate) ∧ Below w.heap.size w w' := by
  have none_ : ∀ E : Int, E ≠ 0 → stepE c ws ms n1 n2 n3 rate = E → Calls Tryz.prog 69 #[c.val, .agg #[.slice a1 n1 k1, .slice a2 n2 k2], .slice a3 n3 k3, .int .i64 rate] w (fun e w' => e = .returned (.tuple #[.agg #[.slice none 0 0, .slice none 0 0], .int .i64 E]) ∧ Below w.heap.size w w') →
      Calls Tryz.prog 69 #[c.val, .agg #[.slice a1 n1 k1, .slice a2 n2 k2], .slice a3 n3 k3, .int .i64 rate] w fun e w' => ∃ b1 m1 d1 b2 m2 d2, e = .returned (.tuple #[.agg #[.slice b1 m1 d1, .slice b2 m2 d2], .int .i64 (stepE c ws ms n1 n2 n3 rate)]) ∧ m1 ≤ 200 ∧ m2 ≤ 200 ∧ Lst w' b1 m1 d1 (stepW c ws ms gs n1 n2 n3 rate) ∧ Lst w' b2 m2 d2 (stepM c ws ms gs n1 n2 n3 rate) ∧ Below w.heap.size w w' := by
    intro E hE he hcall
    refine hcall.mono ?_
    rintro e w' ⟨rfl, hb⟩
    unfold stepW stepM
    rw [he, if_neg hE, if_neg hE]
    exact ⟨none, 0, 0, none, 0, 0, rfl, by omega, by omega, Lst.nil _ _ _, Lst.nil _ _ _, hb⟩
  cases hc : cfgB c with
  | false => exact none_ 1 (by decide) (by unfold stepE; rw [hc]; rfl) (step_c c a1 n1 k1 a2 n2 k2 a3 n3 k3 rate w (fun q => by have := ocheck_calls c q; rw [cfgI_no hc] at this; exact this))
  | true =>
    have HC : ∀ q, Calls Tryz.prog 30 #[c.val] q fun e w' => e = .returned (.int .i64 0) ∧ Below q.heap.size q w' := fun q => by have := ocheck_calls c q; rw [cfgI_yes hc] at this; exact this
    have P1 : ∀ q, Lst q a1 n1 k1 ws → Calls Tryz.prog 98 #[c.val, .slice a1 n1 k1] q fun e w' => e = .returned (.bool (fitB c n1 ws)) ∧ Below q.heap.size q w' := fun q hq => isPup_calls c hc a1 n1 k1 ws q hq
    have P2 : ∀ q, Lst q a2 n2 k2 ms → Calls Tryz.prog 98 #[c.val, .slice a2 n2 k2] q fun e w' => e = .returned (.bool (fitB c n2 ms)) ∧ Below q.heap.size q w' := fun q hq => isPup_calls c hc a2 n2 k2 ms q hq
    cases f1 : fitB c n1 ws with
    | false =>
      rw [f1] at P1
      exact none_ 5 (by decide) (by unfold stepE stepF; rw [hc, f1]; rfl) (step_w c a1 n1 k1 a2 n2 k2 a3 n3 k3 ws rate w l1 HC P1)
    | true =>
      rw [f1] at P1
      have g1 := fit_len hc f1
      cases f2 : fitB c n2 ms with
      | false =>
        rw [f2] at P2
        exact none_ 5 (by decide) (by unfold stepE stepF; rw [hc, f1, f2]; rfl) (step_m c a1 n1 k1 a2 n2 k2 a3 n3 k3 ws ms rate w l1 l2 HC P1 P2)
      | true =>
        rw [f2] at P2
        have g2 := fit_len hc f2
        by_cases hl : n3 = n1
        · have hF : stepF c ws ms n1 n2 n3 = true := by unfold stepF; rw [f1, f2, decide_eq_true hl]; rfl
          cases hr : inB rate 0 2147483647 with
          | false => exact none_ 1 (by decide) (by unfold stepE; rw [hc, hF, hr]; rfl) (step_r c a1 n1 k1 a2 n2 k2 a3 n3 k3 ws ms rate w l1 l2 HC P1 P2 hl hr)
          | true =>
            have hE : stepE c ws ms n1 n2 n3 rate = 0 := by unfold stepE; rw [hc, hF, hr]; rfl
            have hn : n2 = n1 := by have := g1.1; have := g2.1; omega
            obtain ⟨_, _, _, _, _, _, _, ⟨w1, w2⟩, _⟩ := cfgB_is hc
            unfold stepW stepM
            rw [hE, if_pos rfl, if_pos rfl]
            by_cases hw : c.how = 0
            · refine (step_plain c a1 n1 k1 a2 n2 k2 a3 n3 k3 ws ms gs rate w l1 l2 HC P1 P2 hl hr l3 hn g1.2.1 g1.2.2.1 hw).mono ?_
              rintro e w' ⟨b1, d1, b2, d2, rfl, h1, h2, hb⟩
              have e1 : (List.range n1).map (movedG ws gs rate) = (List.range n3).map (goneG c ws ms gs rate) := by
                rw [hl]
                refine List.map_congr_left (fun i _ => ?_)
                unfold movedG goneG moveG
                rw [if_neg (by omega), mulI_clamp']
              have e2 : (List.range n3).map (keptG c ms gs) = ms := by
                rw [hl, ← hn, show keptG c ms gs = fun i => ms.getD i 0 from funext fun i => by unfold keptG; rw [if_neg (by omega)]]
                exact getD_self l2.len
              rw [e1] at h1
              rw [e2]
              exact ⟨b1, n1, d1, b2, n1, d2, rfl, by omega, by omega, h1, h2, hb⟩
            · have hw1 : c.how = 1 := by omega
              refine (step_mom c a1 n1 k1 a2 n2 k2 a3 n3 k3 ws ms gs rate w l1 l2 HC P1 P2 hl hr l3 hn g1.2.1 g1.2.2.1 hw1).mono ?_
              rintro e w' ⟨b1, d1, b2, d2, rfl, h1, h2, hb⟩
              have e2 : (List.range n1).map (momG c.keep ms gs) = (List.range n3).map (keptG c ms gs) := by
                rw [hl]
                refine List.map_congr_left (fun i _ => ?_)
                unfold momG keptG moveG
                rw [if_pos hw1, if_pos hw1]
              have e1 : (List.range n1).map (movedG ws ((List.range n1).map (momG c.keep ms gs)) rate) = (List.range n3).map (goneG c ws ms gs rate) := by
                rw [hl]
                refine List.map_congr_left (fun i hi => ?_)
                unfold movedG goneG moveG
                rw [if_pos hw1, getD_rng _ (List.mem_range.1 hi)]
                rfl
              rw [e1] at h1
              rw [e2] at h2
              exact ⟨b1, n1, d1, b2, n1, d2, rfl, by omega, by omega, h1, h2, hb⟩
        · exact none_ 5 (by decide) (by unfold stepE stepF; rw [hc, f1, f2, decide_eq_false hl]; rfl) (step_g c a1 n1 k1 a2 n2 k2 a3 n3 k3 ws ms rate w l1 l2 HC P1 P2 hl)

/-- Step of right things: its two lists lie in blocks of their own. -/
theorem step_own (c : Cfg) (hc : cfgB c = true) (a1 : Option Addr) (n k1 : Nat) (a2 : Option Addr) (k2 : Nat) (a3 : Option Addr) (k3 : Nat) (ws ms gs : List Int) (rate : Int) (w : World) (l1 : Lst w a1 n k1 ws) (l2 : Lst w a2 n k2 ms) (l3 : Lst w a3 n k3 gs) (f1 : fitB c n ws = true) (f2 : fitB c n ms = true) (hr : inB rate 0 2147483647 = true) :
    Calls Tryz.prog 69 #[c.val, .agg #[.slice a1 n k1, .slice a2 n k2], .slice a3 n k3, .int .i64 rate] w fun e w' => ∃ g1 d1 g2 d2, e = .returned (.tuple #[.agg #[.slice (some ⟨g1, 0, none⟩) n d1, .slice (some ⟨g2, 0, none⟩) n d2], .int .i64 0]) ∧ w.heap.size ≤ g1 ∧ w.heap.size ≤ g2 ∧ g1 ≠ g2 ∧ (d1 ≤ maxLen ∧ d2 ≤ maxLen) ∧ Arr w' g1 d1 n (goneG c ws ms gs rate) ∧ Arr w' g2 d2 n (keptG c ms gs) ∧ Below w.heap.size w w' := by
  have HC : ∀ q, Calls Tryz.prog 30 #[c.val] q fun e w' => e = .returned (.int .i64 0) ∧ Below q.heap.size q w' := fun q => by have := ocheck_calls c q; rw [cfgI_yes hc] at this; exact this
  have P1 : ∀ q, Lst q a1 n k1 ws → Calls Tryz.prog 98 #[c.val, .slice a1 n k1] q fun e w' => e = .returned (.bool true) ∧ Below q.heap.size q w' := fun q hq => by have := isPup_calls c hc a1 n k1 ws q hq; rw [f1] at this; exact this
  have P2 : ∀ q, Lst q a2 n k2 ms → Calls Tryz.prog 98 #[c.val, .slice a2 n k2] q fun e w' => e = .returned (.bool true) ∧ Below q.heap.size q w' := fun q hq => by have := isPup_calls c hc a2 n k2 ms q hq; rw [f2] at this; exact this
  have g1 := fit_len hc f1
  obtain ⟨_, _, _, _, _, _, _, ⟨w1, w2⟩, _⟩ := cfgB_is hc
  by_cases hw : c.how = 0
  · refine (step_plain_own c a1 n k1 a2 n k2 a3 n k3 ws ms gs rate w l1 l2 HC P1 P2 rfl hr l3 rfl g1.2.1 g1.2.2.1 hw).mono ?_
    rintro e w' ⟨x1, d1, x2, d2, he, q1, q2, q3, q4, h1, h2, hb⟩
    refine ⟨x1, d1, x2, d2, he, q1, q2, q3, q4, h1.congr (fun i _ => ?_), h2.congr (fun i _ => ?_), hb⟩
    · unfold movedG goneG moveG
      rw [if_neg (by omega), mulI_clamp']
    · unfold keptG
      rw [if_neg (by omega)]
  · have hw1 : c.how = 1 := by omega
    refine (step_mom_own c a1 n k1 a2 n k2 a3 n k3 ws ms gs rate w l1 l2 HC P1 P2 rfl hr l3 rfl g1.2.1 g1.2.2.1 hw1).mono ?_
    rintro e w' ⟨x1, d1, x2, d2, he, q1, q2, q3, q4, h1, h2, hb⟩
    refine ⟨x1, d1, x2, d2, he, q1, q2, q3, q4, h1.congr (fun i hi => ?_), h2.congr (fun i _ => ?_), hb⟩
    · unfold movedG goneG moveG
      rw [getD_rng _ hi, if_pos hw1]
      rfl
    · unfold momG keptG moveG
      rw [if_pos hw1, if_pos hw1]
end Go.Proofs.YtfcnnolpcnacoaaGreatDoor.Fx
