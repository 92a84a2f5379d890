/- What train.start, Start return. -/
import Derived.Test.YthmiojmlaclgaaaGreatDoorJ12
import Derived.Deep.RegionHeld3
import Derived.Test.YthmiojmlaclgaaaGreatDoorJ01
import Derived.Test.YthmiojmlaclgaaaGreatDoorJ00
namespace Go.Proofs.YthmiojmlaclgaaaGreatDoor.Fx
open Go.RowKit

theorem made_at (q : World) (z : Value) (n : Nat) (t : TypeId) {b : Nat} (hb : b = q.heap.size) : (q.alloc (.cells (madeCells #[z] n) t)).rowIs b t n (fun _ => z) := by
  subst hb; exact World.rowIs_made _ _ _ _
theorem undrew {w w1 : World} (h : Below w.drew.heap.size w.drew w1) : Below w.heap.size w w1 := (Below.drew (Below.refl w.heap.size w)).trans h
theorem fn2_at (q : World) (v0 v1 : Value) (t : TypeId) {b : Nat} (hb : b = q.heap.size) : (q.alloc (.cells #[v0, v1] t)).rowIs b t 2 (fn2 v0 v1) := by
  subst hb; exact fn2_alloc _ _ _ _
theorem al {B : Nat} {W q : World} (h : Below B W q) (hB : B ≤ W.heap.size) {o : Obj} : Below B W (q.alloc o) := h.alloc (Nat.le_trans hB h.size) o
theorem below_st2 {Bd : Nat} {W q : World} {b : Nat} (h : Below Bd W q) (hb : Bd ≤ b) (v0 v1 : Value) : Below Bd W ((q.setCell ⟨b, 0, none⟩ v0).setCell ⟨b, 1, none⟩ v1) := (h.setCell hb v0).setCell hb v1
theorem via5 {P : Prop} {F Q : Nat → Nat → Nat → World → Prop} (h1 : (∀ g1 g2 OB q, F g1 g2 OB q → Q g1 g2 OB q) → P) (h2 : ∀ g1 g2 OB q, F g1 g2 OB q → Q g1 g2 OB q) : P := h1 h2
/-- Behind the state's making: where it and its two lists lie. -/
structure StAt (W : World) (N : Nat) (g1 g2 OB : Nat) (q : World) : Prop where
  r1 : q.rowIs g1 3 N (fun _ => .int .i64 0)
  r2 : q.rowIs g2 3 N (fun _ => .int .i64 0)
  ro : q.rowIs OB 106 2 (fn2 (.slice (some ⟨g1, 0, none⟩) N N) (.slice (some ⟨g2, 0, none⟩) N N))
  n1 : g1 ≠ g2
  n2 : g1 ≠ OB
  n3 : g2 ≠ OB
  l1 : W.heap.size ≤ g1
  l2 : W.heap.size ≤ g2
  l3 : W.heap.size ≤ OB
  bel : Below W.heap.size W q

set_option maxRecDepth 100000 in
set_option maxHeartbeats 6400000 in
theorem tstart_own (c : Cfg) (hc : cfgB c = true) (hs : okW c.seed) (N : Nat) (hN : (N : Int) = sizeN c) (w : World) :
    Calls Tryz.prog 90 #[c.val] w fun e w' => ∃ ga gb, e = .returned (.agg #[.slice (some ⟨ga, 0, none⟩) N N, .slice (some ⟨gb, 0, none⟩) N N]) ∧ w.heap.size ≤ ga ∧ w.heap.size ≤ gb ∧ ga ≠ gb ∧ Arr w' ga N N (startG c.seed) ∧ Arr w' gb N N zeroG ∧ Below w.heap.size w w' := by
  have hNb := sizeN_bd hc
  have N4 : 4 ≤ N := by omega
  have N40 : N ≤ 40 := by omega
  have HCN : Hid (∀ q, Calls Tryz.prog 130 #[c.val] q fun e w' => e = .returned (.int .i64 (N : Int)) ∧ w' = q.alloc (.cells c.cells 50)) := fun q => by rw [hN]; exact tcount_calls c hc q
  have hmk := run_make_row' (P := Tryz.prog) 66 3 (.int .i64 0) 8 Tryz.underlying66 info3 rfl .i64 .i64 N (by omega) (by omega)
  have lb := LawBox.start w c (.slice none 0 0) (.slice none 0 0)
  obtain ⟨W, HW⟩ : ∃ q, Hid (q = ((w.alloc (.cells c.cells 50)).alloc (.cells #[.slice none 0 0, .slice none 0 0] 106))) := ⟨_, rfl⟩
  have lbW : LawBox w c (.slice none 0 0) (.slice none 0 0) W := by rw [HW.out]; exact lb
  clear lb
  have KB : Hid (∀ q, Below W.heap.size W q → LawBox w c (.slice none 0 0) (.slice none 0 0) q) := fun q hq => lbW.below hq
  have KS : Hid (∀ q, Below W.heap.size W q → q.cell? ⟨w.heap.size, 0, none⟩ = some (.int .i64 c.i) ∧ q.cell? ⟨w.heap.size, 1, none⟩ = some (.int .i64 c.h) ∧ q.cell? ⟨w.heap.size, 2, none⟩ = some (.int .i64 c.o) ∧ q.cell? ⟨w.heap.size, 3, none⟩ = some (.int .u64 c.seed) ∧ q.cell? ⟨w.heap.size, 4, none⟩ = some (.int .i64 c.batch) ∧ q.cell? ⟨w.heap.size, 5, none⟩ = some (.int .i64 c.steps) ∧ q.cell? ⟨w.heap.size, 6, none⟩ = some (.int .i64 c.rate) ∧ q.cell? ⟨w.heap.size, 7, none⟩ = some (.int .i64 c.decay) ∧ q.cell? ⟨w.heap.size, 8, none⟩ = some (.int .i64 c.how) ∧ q.cell? ⟨w.heap.size, 9, none⟩ = some (.int .i64 c.keep) ∧ q.cell? ⟨w.heap.size, 10, none⟩ = some (.int .i64 c.clip)) := fun q hq => by
    obtain ⟨x0, x1, x2, x3, x4, x5, x6, x7, x8, x9, x10⟩ := (KB.out q hq).cfg
    exact ⟨x0, x1, x2, x3, x4, x5, x6, x7, x8, x9, x10⟩
  have hlt := lbW.st.lt
  have T0 : Below W.heap.size W W := Below.refl _ _
  have b0 : Below W.heap.size W W.drew := below_drewN (Below.refl _ _) 1
  have L0 : W.heap.size ≤ W.heap.size := Nat.le_refl _
  have L1 : W.heap.size ≤ W.heap.size + 1 := by omega
  have L2 : W.heap.size ≤ W.heap.size + 1 + 1 := by omega
  have L3 : W.heap.size ≤ W.heap.size + 1 + 1 + 1 := by omega
  have L4 : W.heap.size ≤ W.heap.size + 1 + 1 + 1 + 1 := by omega
  have hle : W.heap.size ≤ W.heap.size := Nat.le_refl _
  have rst := lbW.st
  clear hc hNb hN lbW
  obtain ⟨i, h, o, seed, batch, steps, crate, decay, how, keep, clip⟩ := c
  simp only [Cfg.val, Cfg.cells] at *
  go_enter Tryz.func90, Tryz.ntmps90
  go_wp2_with fail
  rw [← HW.out]
  clear HW
  apply via5 (F := StAt W N)
  · intro key
    go_region_held3 (fun q => q.cell? ⟨w.heap.size, 0, none⟩ = some (.int .i64 i) ∧ q.cell? ⟨w.heap.size, 1, none⟩ = some (.int .i64 h) ∧ q.cell? ⟨w.heap.size, 2, none⟩ = some (.int .i64 o) ∧ q.cell? ⟨w.heap.size, 3, none⟩ = some (.int .u64 seed) ∧ q.cell? ⟨w.heap.size, 4, none⟩ = some (.int .i64 batch) ∧ q.cell? ⟨w.heap.size, 5, none⟩ = some (.int .i64 steps) ∧ q.cell? ⟨w.heap.size, 6, none⟩ = some (.int .i64 crate) ∧ q.cell? ⟨w.heap.size, 7, none⟩ = some (.int .i64 decay) ∧ q.cell? ⟨w.heap.size, 8, none⟩ = some (.int .i64 how) ∧ q.cell? ⟨w.heap.size, 9, none⟩ = some (.int .i64 keep) ∧ q.cell? ⟨w.heap.size, 10, none⟩ = some (.int .i64 clip))
      (first | with_reducible exact KS.out _ (Below.drew T0) | with_reducible exact KS.out _ (Below.drew (al T0 hle)) | with_reducible exact KS.out _ (Below.drew (al (al T0 hle) hle)) | with_reducible exact KS.out _ (Below.drew (al (al (al T0 hle) hle) hle)) | with_reducible exact KS.out _ (Below.drew (al (al (al (al T0 hle) hle) hle) hle)) | with_reducible exact KS.out _ (Below.drew (al (al (al (al (al T0 hle) hle) hle) hle) hle)) | with_reducible exact KS.out _ (al b0 hle) | with_reducible exact KS.out _ (al (al b0 hle) hle) | with_reducible exact KS.out _ (al (al (al b0 hle) hle) hle) | with_reducible exact KS.out _ (al (al (al (al b0 hle) hle) hle) hle) | with_reducible exact KS.out _ (al (al (al (al (al b0 hle) hle) hle) hle) hle) | with_reducible exact KS.out _ (Below.drew (below_st2 (al (al (al (al (al T0 hle) hle) hle) hle) hle) L0 _ _)) | with_reducible exact KS.out _ (Below.drew (below_st2 (al (al (al (al (al T0 hle) hle) hle) hle) hle) L1 _ _)) | with_reducible exact KS.out _ (Below.drew (below_st2 (al (al (al (al (al T0 hle) hle) hle) hle) hle) L2 _ _)) | with_reducible exact KS.out _ (Below.drew (below_st2 (al (al (al (al (al T0 hle) hle) hle) hle) hle) L3 _ _)) | with_reducible exact KS.out _ (Below.drew (below_st2 (al (al (al (al (al T0 hle) hle) hle) hle) hle) L4 _ _)))
      (first | (go_at_call 130; refine (HCN.out _).mono ?_; rintro e w1 ⟨rfl, rfl⟩))
    · have f : StAt W N (W.heap.size + 1) (W.heap.size + 1 + 1 + 1) (W.heap.size + 1 + 1 + 1 + 1) ((((((W.alloc (.cells #[.int .i64 i, .int .i64 h, .int .i64 o, .int .u64 seed, .int .i64 batch, .int .i64 steps, .int .i64 crate, .int .i64 decay, .int .i64 how, .int .i64 keep, .int .i64 clip] 50)).alloc (.cells (madeCells #[.int .i64 0] N) 3)).alloc (.cells #[.int .i64 i, .int .i64 h, .int .i64 o, .int .u64 seed, .int .i64 batch, .int .i64 steps, .int .i64 crate, .int .i64 decay, .int .i64 how, .int .i64 keep, .int .i64 clip] 50)).alloc (.cells (madeCells #[.int .i64 0] N) 3)).alloc (.cells #[.slice (some ⟨W.heap.size + 1, 0, none⟩) N N, .slice (some ⟨W.heap.size + 1 + 1 + 1, 0, none⟩) N N] 106))).drew := by
        refine ⟨World.rowIs.drew ?_, World.rowIs.drew ?_, World.rowIs.drew ?_, by omega, by omega, by omega, by omega, by omega, by omega, Below.drew (al (al (al (al (al T0 hle) hle) hle) hle) hle)⟩
        · iterate 6 (first | done | (refine made_at _ _ _ _ ?_; simp; done) | refine World.rowIs.alloc ?_ _)
        · iterate 6 (first | done | (refine made_at _ _ _ _ ?_; simp; done) | refine World.rowIs.alloc ?_ _)
        · iterate 6 (first | done | (refine fn2_at _ _ _ _ ?_; simp; done) | refine World.rowIs.alloc ?_ _)
      generalize ((((((W.alloc (.cells #[.int .i64 i, .int .i64 h, .int .i64 o, .int .u64 seed, .int .i64 batch, .int .i64 steps, .int .i64 crate, .int .i64 decay, .int .i64 how, .int .i64 keep, .int .i64 clip] 50)).alloc (.cells (madeCells #[.int .i64 0] N) 3)).alloc (.cells #[.int .i64 i, .int .i64 h, .int .i64 o, .int .u64 seed, .int .i64 batch, .int .i64 steps, .int .i64 crate, .int .i64 decay, .int .i64 how, .int .i64 keep, .int .i64 clip] 50)).alloc (.cells (madeCells #[.int .i64 0] N) 3)).alloc (.cells #[.slice (some ⟨W.heap.size + 1, 0, none⟩) N N, .slice (some ⟨W.heap.size + 1 + 1 + 1, 0, none⟩) N N] 106))).drew = q at f ⊢
      generalize W.heap.size + 1 + 1 + 1 + 1 = OB at f ⊢
      generalize W.heap.size + 1 + 1 + 1 = g2 at f ⊢
      generalize W.heap.size + 1 = g1 at f ⊢
      exact key g1 g2 OB q f
    all_goals
      refine key _ _ _ _ ?_
      refine ⟨World.rowIs.drew ?_, World.rowIs.drew ?_, World.rowIs.drew ?_, by omega, by omega, by omega, by omega, by omega, by omega, Below.drew (al (al (al (al (al T0 hle) hle) hle) hle) hle)⟩
      · iterate 6 (first | done | (refine made_at _ _ _ _ ?_; simp; done) | refine World.rowIs.alloc ?_ _)
      · iterate 6 (first | done | (refine made_at _ _ _ _ ?_; simp; done) | refine World.rowIs.alloc ?_ _)
      · iterate 6 (first | done | (refine fn2_at _ _ _ _ ?_; simp; done) | refine World.rowIs.alloc ?_ _)
  · rintro g1 g2 OB q ⟨r1, r2, ro, n1, n2, n3, l1, l2, l3, bel⟩
    clear hmk HCN b0 L0 L1 L2 L3 L4
    obtain ⟨q0, q1⟩ := fn2_cells ro
    go_wp2_with fail
    go_loopw [15] (fun v wr => ∃ k : Nat, k ≤ N ∧ v = .int .i64 k ∧ wr.rowIs g1 3 N (rowTo (startG seed) k) ∧ wr.rowIs g2 3 N (fun _ => .int .i64 0) ∧ wr.rowIs OB 106 2 (fn2 (.slice (some ⟨g1, 0, none⟩) N N) (.slice (some ⟨g2, 0, none⟩) N N)) ∧ Below W.heap.size W wr) (fun v _ => N - (intOf v).toNat)
    case atStart => exact ⟨0, Nat.zero_le _, rfl, rowTo_made r1, r2, ro, bel⟩
    case round =>
      clear q0 q1 r1 r2 ro bel
      obtain ⟨k, hk, rfl, r1, r2, ro, bel⟩ := hrel
      obtain ⟨q0, q1⟩ := fn2_cells ro
      have lb := KB.out _ bel
      by_cases hlt2 : k < N
      · have i0 : (0 : Int) ≤ (k : Int) := by omega
        have i1 : (k : Int) < (N : Int) := by omega
        have c3 := rowTo_cell r1 hlt2
        have f3 := r1.frozen k
        have KC : Hid (∀ q, Below wr.heap.size wr q → q.cell? ⟨OB, 0, none⟩ = some (.slice (some ⟨g1, 0, none⟩) N N) ∧ q.cell? ⟨w.heap.size, 3, none⟩ = some (.int .u64 seed)) := fun q hq =>
          ⟨(fn2_cells (ro.of_block (hq.block _ ro.lt))).1, (lb.below hq).cfg.c3⟩
        have bd : Below wr.heap.size wr wr.drew := below_drewN (Below.refl _ _) 1
        have S0 := KC.out _ bd
        go_wp2_with fail
        go_region_held3 (fun q => q.cell? ⟨OB, 0, none⟩ = some (.slice (some ⟨g1, 0, none⟩) N N) ∧ q.cell? ⟨w.heap.size, 3, none⟩ = some (.int .u64 seed))
          (first | with_reducible exact S0 | with_reducible exact S1 | with_reducible exact S2)
          (first | (go_at_call 131; refine (tfirst_calls seed hs k (by omega) _).mono ?_; rintro e w1 ⟨rfl, hw1d⟩; have hw1 := undrew hw1d; have S1 := KC.out w1 hw1; have d3 := (hw1.cell (p := ⟨g1, k, none⟩) r1.lt).trans c3; have e3 := (hw1.frozen (p := ⟨g1, k, none⟩) r1.lt).trans f3; have S2 : (w1.setCell ⟨g1, k, none⟩ (.int .i64 (startG seed k))).cell? ⟨OB, 0, none⟩ = some (.slice (some ⟨g1, 0, none⟩) N N) ∧ (w1.setCell ⟨g1, k, none⟩ (.int .i64 (startG seed k))).cell? ⟨w.heap.size, 3, none⟩ = some (.int .u64 seed) := ⟨(World.cell?_setCell_far _ _ _ _ (show g1 ≠ OB from n2)).trans S1.1, (World.cell?_setCell_far _ _ _ _ (show g1 ≠ w.heap.size by omega)).trans S1.2⟩))
        all_goals go_wp2_with fail
        all_goals
          go_roundw
          case rel =>
            have z1 := r1.of_block (hw1.block _ r1.lt)
            have z2 := r2.of_block (hw1.block _ r2.lt)
            have zo := ro.of_block (hw1.block _ ro.lt)
            exact ⟨k + 1, by omega, by go_num, rowTo_step z1, z2.setOther (a := ⟨g1, k, none⟩) (show g2 ≠ g1 from fun e => n1 e.symm) _, zo.setOther (a := ⟨g1, k, none⟩) (show OB ≠ g1 from fun e => n2 e.symm) _, (bel.trans (hw1.mono bel.size)).setCell (p := ⟨g1, k, none⟩) l1 _⟩
          case measure => simp [intOf]; omega
      · obtain rfl : k = N := by omega
        have hr := lb.st
        obtain ⟨x0, x1⟩ := fn2_cells hr
        have f0 := hr.frozen 0
        have f1 := hr.frozen 1
        go_wp2_with fail
        obtain ⟨y0, y1⟩ := fn2_cells (fn2_set hr (.slice (some ⟨g1, 0, none⟩) k k) (.slice (some ⟨g2, 0, none⟩) k k))
        refine bodyPost_ret (v := .agg #[.slice (some ⟨g1, 0, none⟩) k k, .slice (some ⟨g2, 0, none⟩) k k]) (by simp [results, Tryz.results90, go_sem, y0, y1]) rfl ⟨_, _, rfl, by omega, by omega, n1, ?_, ?_, (lb.bel.setCell (show w.heap.size ≤ w.heap.size + 1 by omega) _).setCell (show w.heap.size ≤ w.heap.size + 1 by omega) _⟩
        · exact ((Arr.row r1).setOther (show g1 ≠ w.heap.size + 1 by omega) _).setOther (show g1 ≠ w.heap.size + 1 by omega) _
        · have r2' : wr.rowIs g2 3 k (rowTo zeroG k) := r2.congr (fun j hj => by unfold rowTo zeroG; rw [if_pos hj])
          exact ((Arr.row r2').setOther (show g2 ≠ w.heap.size + 1 by omega) _).setOther (show g2 ≠ w.heap.size + 1 by omega) _

theorem tstart_calls (c : Cfg) (hc : cfgB c = true) (hs : okW c.seed) (N : Nat) (hN : (N : Int) = sizeN c) (w : World) :
    Calls Tryz.prog 90 #[c.val] w fun e w' => ∃ ga gb, e = .returned (.agg #[.slice (some ⟨ga, 0, none⟩) N N, .slice (some ⟨gb, 0, none⟩) N N]) ∧ w.heap.size ≤ ga ∧ w.heap.size ≤ gb ∧ Lst w' (some ⟨ga, 0, none⟩) N N ((List.range N).map (startG c.seed)) ∧ Lst w' (some ⟨gb, 0, none⟩) N N ((List.range N).map zeroG) ∧ Below w.heap.size w w' :=
  (tstart_own c hc hs N hN w).mono fun _ _ ⟨ga, gb, he, h1, h2, _, h3, h4, h5⟩ => ⟨ga, gb, he, h1, h2, h3.lst, h4.lst, h5⟩
end Go.Proofs.YthmiojmlaclgaaaGreatDoor.Fx

/- What the functions of package coachref that speak of fixed points return, called with whatever integers: the same plain numbers as those of package fix. -/
namespace Go.Proofs.YthmiojmlaclgaaaGreatDoor.Fx
open Go.RowKit

end Go.Proofs.YthmiojmlaclgaaaGreatDoor.Fx

/- What coachref's In and Right return, whatever is handed in. -/
namespace Go.Proofs.YthmiojmlaclgaaaGreatDoor.Fx
open Go.RowKit

end Go.Proofs.YthmiojmlaclgaaaGreatDoor.Fx
