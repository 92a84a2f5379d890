/- What package desk's taken, number and newDesk return. -/
import Derived.Test.YthmiojmlaclgaaaGreatDoorJ25
import Derived.Deep.QuietTactic
import Derived.BigQuiet
import Derived.Deep.RegionHeld3
namespace Go.Proofs.YthmiojmlaclgaaaGreatDoor.Fx
open Go.RowKit

variable {base : Nat} {w w' : World} {b s : Nat} {d : Dsk} {a : Option Addr} {cap : Nat} {X : Nat → Exm}

set_option maxRecDepth 100000 in
theorem taken_calls (h : DkIn base w b s d a cap X) : Calls Tryz.prog 57 #[.pointer (some ⟨b, 0, none⟩)] w fun e w' => e = .returned (.int .i64 d.k) ∧ Below w.heap.size w w' := by
  have RC := Lib.hid (records_calls s d.T 4096 d.sy (by have := h.ok.T; omega) w h.st h.ld)
  have c12 := h.cells.2.2
  have HKD : Hid (d.k = (begL d.T).length) := rfl
  go_enter Tryz.func57, Tryz.ntmps57
  go_wp2_with fail
  refine RC.out.mono ?_
  rintro e w1 ⟨⟨ls, a1, c1, R, hB, _, _, _, rfl⟩, hw1⟩
  have HK : Hid (d.k = ls.length) := by show _ = _; rw [HKD.out, begL_of hB]
  clear hB RC
  go_wp2_with fail
  go_ret
  exact ⟨by rw [HK.out]; rfl, hw1⟩

theorem dNum_d (n e0 : Int) (d : Dsk) : (dNum n e0 d).d = d := by unfold dNum; split <;> rfl

set_option maxRecDepth 100000 in
theorem number_calls (n e0 : Int) (h0 : -9223372036854775808 ≤ n) (h1 : n ≤ 9223372036854775807) (d : Dsk) (w : World) (hL : LD w) :
    Calls Tryz.prog 35 #[.int .i64 n, .int .i64 e0] w fun e w' => e = .returned (.tuple #[.string ⟨(dNum n e0 d).told.toArray⟩, .int .i64 (dNum n e0 d).e]) ∧ Below w.heap.size w w' := by
  by_cases he : e0 = 0
  · subst he
    have HI := itoaZ_calls n h0 h1 w hL
    have HD : Hid (dNum n 0 d = ⟨Lib.itoa n, 0, d⟩) := if_pos rfl
    rw [HD.out]
    obtain ⟨Z, HZ⟩ : ∃ X : ByteArray, Hid ((⟨(Lib.itoa n).toArray⟩ : ByteArray) = X) := ⟨_, rfl⟩
    dsimp only
    rw [HZ.out] at HI
    rw [HZ.out]
    go_enter Tryz.func35, Tryz.ntmps35
    go_wp2_with fail
    refine HI.mono ?_
    rintro e w1 ⟨rfl, hw1⟩
    go_wp2_with fail
    go_ret2
    exact ⟨rfl, hw1⟩
  · have HD : Hid (dNum n e0 d = ⟨[], e0, d⟩) := if_neg he
    have k1 : (e0 == 0) = false := by rw [beq_eq_false_iff_ne]; exact he
    rw [HD.out]
    go_enter Tryz.func35, Tryz.ntmps35
    go_wp2_with fail
    go_ret2
    exact ⟨rfl, Below.refl _ _⟩

set_option maxRecDepth 100000 in
set_option maxHeartbeats 1600000 in
theorem newDesk_calls (w : World) (hL : LD w) : Calls Tryz.prog 15 #[] w fun e w' => ∃ b s X, e = .returned (.pointer (some ⟨b, 0, none⟩)) ∧ DkIn w.heap.size w' b s d0 none 0 X ∧ Below w.heap.size w w' := by
  have NG := new_good 4096 (by omega) (by omega) w
  go_enter Tryz.func15, Tryz.ntmps15
  go_wp2_with (go_at_call 29; refine NG.mono ?_; rintro e w' ⟨rfl, rfl⟩)
  go_ret
  have B1 := low_alloc w (.cells #[.string ⟨#[]⟩, .int .i64 4096, .int .i64 0] 88)
  have B2 := B1.alloc B1.size (.cells #[.int .i64 1, .int .i64 1, .int .i64 1, .int .u64 1, .int .i64 1, .int .i64 3, .int .i64 6554, .int .i64 0, .int .i64 0, .int .i64 0, .int .i64 0] 50)
  have B3 := B2.alloc B2.size (.cells #[.int .i64 1, .int .i64 1, .int .i64 1, .int .u64 1, .int .i64 1, .int .i64 3, .int .i64 6554, .int .i64 0, .int .i64 0, .int .i64 0, .int .i64 0, .slice none 0 0, .pointer (some ⟨w.heap.size, 0, none⟩)] 64)
  have R := World.rowIs_alloc ((w.alloc (.cells #[.string ⟨#[]⟩, .int .i64 4096, .int .i64 0] 88)).alloc (.cells #[.int .i64 1, .int .i64 1, .int .i64 1, .int .u64 1, .int .i64 1, .int .i64 3, .int .i64 6554, .int .i64 0, .int .i64 0, .int .i64 0, .int .i64 0] 50)) #[.int .i64 1, .int .i64 1, .int .i64 1, .int .u64 1, .int .i64 1, .int .i64 3, .int .i64 6554, .int .i64 0, .int .i64 0, .int .i64 0, .int .i64 0, .slice none 0 0, .pointer (some ⟨w.heap.size, 0, none⟩)] 64 (dcell d0.c (.slice none 0 0) (.pointer (some ⟨w.heap.size, 0, none⟩))) (by
    intro i hi
    have hi' : i < 13 := by simpa using hi
    rcases (show i = 0 ∨ i = 1 ∨ i = 2 ∨ i = 3 ∨ i = 4 ∨ i = 5 ∨ i = 6 ∨ i = 7 ∨ i = 8 ∨ i = 9 ∨ i = 10 ∨ i = 11 ∨ i = 12 by omega) with rfl | rfl | rfl | rfl | rfl | rfl | rfl | rfl | rfl | rfl | rfl | rfl | rfl <;> rfl)
  rw [World.size_alloc, World.size_alloc] at R
  refine ⟨_, w.heap.size, noEx, rfl, ⟨R, ((StoAt.made w 4096).below (low_alloc _ _)).below (low_alloc _ _), World.ownsRow_nil _ _ _ _, fun i hi => absurd hi (Nat.not_lt_zero _), fun i hi => absurd hi (Nat.not_lt_zero _), fun i hi => absurd hi (Nat.not_lt_zero _), by omega, Nat.le_refl _, d0_ok, ⟨w, hL, Nat.le_refl _, B3⟩⟩, B3⟩

theorem cfgOf_ok {z : List Int} (h : cfgI (cfgOf z) = 0) : cfgB (cfgOf z) = true := by
  unfold cfgI at h
  by_cases e : cfgB (cfgOf z) = true
  · exact e
  · rw [if_neg e] at h; cases h
/-- A desk with another config. -/
theorem DkIn.setB (h : DkIn base w b s d a cap X) (hsz : w.heap.size ≤ w'.heap.size) (hk : ∀ k, k < w.heap.size → k ≠ b → w'.heap[k]? = w.heap[k]?) {c' : Cfg} (row : w'.rowIs b 64 13 (dcell c' (.slice a d.n cap) (.pointer (some ⟨s, 0, none⟩)))) (hok : Dsk.ok { d with c := c' }) (hL : LDb base w') : DkIn base w' b s { d with c := c' } a cap X := by
  have hne := h.ne
  have kept : ∀ (aa : Option Addr) (n c : Nat) (xs : List Int), Lst w aa n c xs → (∀ g o, aa = some ⟨g, o, none⟩ → base ≤ g ∧ g ≠ b ∧ g ≠ s ∧ (Value.slice a d.n cap).ownBlock ≠ some g ∧ TyI w g) → Lst w' aa n c xs := fun aa n c xs hl hf => by
    refine ⟨hl.1, hl.2.1, ?_⟩
    rcases hl.2.2 with h0 | ⟨g, off, e, hs', hc⟩
    · exact .inl h0
    · exact .inr ⟨g, off, e, Nat.lt_of_lt_of_le hs' hsz, fun i hi => (World.cell?_of_block (a := ⟨g, off + i, none⟩) (hk g hs' (hf g off e).2.1)).trans (hc i hi)⟩
  refine ⟨row, World.rowIs.of_block h.st (hk s h.st.lt (fun e => hne e.symm)), ⟨h.own.1, ?_⟩, fun i hi => ⟨kept _ _ _ _ (h.ex i hi).i (h.fa i hi), kept _ _ _ _ (h.ex i hi).o (h.fb i hi)⟩, fun i hi g o e => ⟨(h.fa i hi g o e).1, (h.fa i hi g o e).2.1, (h.fa i hi g o e).2.2.1, (h.fa i hi g o e).2.2.2.1, (h.fa i hi g o e).2.2.2.2.of (hk g (h.fa i hi g o e).2.2.2.2.lt (h.fa i hi g o e).2.1)⟩, fun i hi g o e => ⟨(h.fb i hi g o e).1, (h.fb i hi g o e).2.1, (h.fb i hi g o e).2.2.1, (h.fb i hi g o e).2.2.2.1, (h.fb i hi g o e).2.2.2.2.of (hk g (h.fb i hi g o e).2.2.2.2.lt (h.fb i hi g o e).2.1)⟩, h.hb, h.hs, hok, hL⟩
  rcases h.own.2 with h0 | ⟨g, cp, cur, hv, hg, hh, r⟩
  · exact .inl h0
  · refine .inr ⟨g, cp, cur, hv, hg, ?_, r⟩
    rw [hk g (Array.getElem?_eq_some_iff.1 hh).1 (h.ownb (by rw [hv]; rfl)).2.1]
    exact hh
def set11 (w : World) (b : Nat) (c : Cfg) : World := ((((((((((w.setCell ⟨b, 0, none⟩ (.int .i64 c.i)).setCell ⟨b, 1, none⟩ (.int .i64 c.h)).setCell ⟨b, 2, none⟩ (.int .i64 c.o)).setCell ⟨b, 3, none⟩ (.int .u64 c.seed)).setCell ⟨b, 4, none⟩ (.int .i64 c.batch)).setCell ⟨b, 5, none⟩ (.int .i64 c.steps)).setCell ⟨b, 6, none⟩ (.int .i64 c.rate)).setCell ⟨b, 7, none⟩ (.int .i64 c.decay)).setCell ⟨b, 8, none⟩ (.int .i64 c.how)).setCell ⟨b, 9, none⟩ (.int .i64 c.keep)).setCell ⟨b, 10, none⟩ (.int .i64 c.clip)
theorem set11_row {c c' : Cfg} {v p : Value} {t : TypeId} (h : w.rowIs b t 13 (dcell c v p)) : (set11 w b c').rowIs b t 13 (dcell c' v p) := by
  unfold set11
  refine ((((((((((((h.set 0 _).set 1 _).set 2 _).set 3 _).set 4 _).set 5 _).set 6 _).set 7 _).set 8 _).set 9 _).set 10 _)).congr (fun i hi => ?_)
  rcases (show i = 0 ∨ i = 1 ∨ i = 2 ∨ i = 3 ∨ i = 4 ∨ i = 5 ∨ i = 6 ∨ i = 7 ∨ i = 8 ∨ i = 9 ∨ i = 10 ∨ i = 11 ∨ i = 12 by omega) with rfl | rfl | rfl | rfl | rfl | rfl | rfl | rfl | rfl | rfl | rfl | rfl | rfl <;> rfl
theorem set11_size (w : World) (b : Nat) (c : Cfg) : (set11 w b c).heap.size = w.heap.size := by unfold set11; simp only [World.size_setCell]
theorem set11_other (w : World) (b : Nat) (c : Cfg) (k : Nat) (hk : k ≠ b) : (set11 w b c).heap[k]? = w.heap[k]? := by
  unfold set11
  iterate 11 (refine (Go.Deep.blk_setCell_other _ _ _ k (by exact hk)).trans ?_)
  rfl
theorem set11_below {B : Nat} {W : World} (h : Below B W w) (hb : B ≤ b) (c : Cfg) : Below B W (set11 w b c) := by
  unfold set11
  iterate 11 (refine Below.setCell (p := ⟨b, _, none⟩) ?_ hb _)
  exact h
theorem DkCh.setB {c : Cfg} {v p : Value} (h : w.rowIs b 64 13 (dcell c v p)) (hb : base ≤ b) (c' : Cfg) : DkCh base w (set11 w b c') := by
  refine ⟨set11_below (Below.refl _ _) hb c', fun k cs t fz hk h1 _ _ => (set11_other w b c' k (fun e => ?_)).trans hk⟩
  subst e
  obtain ⟨cc, g1, _⟩ := h
  rw [g1] at hk
  cases hk
  exact h1 rfl

set_option maxRecDepth 100000 in
set_option maxHeartbeats 3200000 in
theorem configure_calls (h : DkIn base w b s d a cap X) (gz : Nat) (z : List Int) (hz : Lst w (some ⟨gz, 0, none⟩) 11 11 z) (hzb : ∀ i, -10000000000 < z.getD i 0 ∧ z.getD i 0 < 10000000000) :
    Calls Tryz.prog 33 #[.pointer (some ⟨b, 0, none⟩), .slice (some ⟨gz, 0, none⟩) 11 11] w fun e w' => DoR base b s w (dConf z d) e w' := by
  obtain ⟨g', o', e', hlt, hc⟩ := hz.at (by omega)
  simp only [Option.some.injEq, Addr.mk.injEq, and_true] at e'
  obtain ⟨rfl, rfl⟩ := e'
  have z0 := hc 0 (by omega)
  have z1 := hc 1 (by omega)
  have z2 := hc 2 (by omega)
  have z3 := hc 3 (by omega)
  have z4 := hc 4 (by omega)
  have z5 := hc 5 (by omega)
  have z6 := hc 6 (by omega)
  have z7 := hc 7 (by omega)
  have z8 := hc 8 (by omega)
  have z9 := hc 9 (by omega)
  have z10 := hc 10 (by omega)
  simp only [Nat.zero_add] at z0 z1 z2 z3 z4 z5 z6 z7 z8 z9 z10
  have hb3 := hzb 3
  have HC : Hid (cfgOf z = ⟨z.getD 0 0, z.getD 1 0, z.getD 2 0, max (z.getD 3 0) 0, z.getD 4 0, z.getD 5 0, z.getD 6 0, z.getD 7 0, z.getD 8 0, z.getD 9 0, z.getD 10 0⟩) := rfl
  have HD : Hid (dConf z d = if cfgI (cfgOf z) = 0 then ⟨okA, 0, { d with c := cfgOf z }⟩ else ⟨[], cfgI (cfgOf z), d⟩) := rfl
  generalize z.getD 0 0 = y0 at *
  generalize z.getD 1 0 = y1 at *
  generalize z.getD 2 0 = y2 at *
  generalize z.getD 3 0 = y3 at *
  generalize z.getD 4 0 = y4 at *
  generalize z.getD 5 0 = y5 at *
  generalize z.getD 6 0 = y6 at *
  generalize z.getD 7 0 = y7 at *
  generalize z.getD 8 0 = y8 at *
  generalize z.getD 9 0 = y9 at *
  generalize z.getD 10 0 = y10 at *
  clear hc hzb hz
  have hle : w.heap.size ≤ w.heap.size := Nat.le_refl _
  have T0 : Below w.heap.size w w := Below.refl _ _
  have KS : Hid (∀ q, Below w.heap.size w q → q.cell? ⟨gz, 0, none⟩ = some (.int .i64 y0) ∧ q.cell? ⟨gz, 1, none⟩ = some (.int .i64 y1) ∧ q.cell? ⟨gz, 2, none⟩ = some (.int .i64 y2) ∧ q.cell? ⟨gz, 3, none⟩ = some (.int .i64 y3) ∧ q.cell? ⟨gz, 4, none⟩ = some (.int .i64 y4) ∧ q.cell? ⟨gz, 5, none⟩ = some (.int .i64 y5) ∧ q.cell? ⟨gz, 6, none⟩ = some (.int .i64 y6) ∧ q.cell? ⟨gz, 7, none⟩ = some (.int .i64 y7) ∧ q.cell? ⟨gz, 8, none⟩ = some (.int .i64 y8) ∧ q.cell? ⟨gz, 9, none⟩ = some (.int .i64 y9) ∧ q.cell? ⟨gz, 10, none⟩ = some (.int .i64 y10)) := fun q hq => ⟨(hq.cell (p := ⟨gz, 0, none⟩) hlt).trans z0, (hq.cell (p := ⟨gz, 1, none⟩) hlt).trans z1, (hq.cell (p := ⟨gz, 2, none⟩) hlt).trans z2, (hq.cell (p := ⟨gz, 3, none⟩) hlt).trans z3, (hq.cell (p := ⟨gz, 4, none⟩) hlt).trans z4, (hq.cell (p := ⟨gz, 5, none⟩) hlt).trans z5, (hq.cell (p := ⟨gz, 6, none⟩) hlt).trans z6, (hq.cell (p := ⟨gz, 7, none⟩) hlt).trans z7, (hq.cell (p := ⟨gz, 8, none⟩) hlt).trans z8, (hq.cell (p := ⟨gz, 9, none⟩) hlt).trans z9, (hq.cell (p := ⟨gz, 10, none⟩) hlt).trans z10⟩
  clear z0 z1 z2 z3 z4 z5 z6 z7 z8 z9 z10
  go_enter Tryz.func33, Tryz.ntmps33
  go_wp2_with fail
  refine wp_region_held_drew (S := fun q => q.cell? ⟨gz, 0, none⟩ = some (.int .i64 y0) ∧ q.cell? ⟨gz, 1, none⟩ = some (.int .i64 y1) ∧ q.cell? ⟨gz, 2, none⟩ = some (.int .i64 y2) ∧ q.cell? ⟨gz, 3, none⟩ = some (.int .i64 y3) ∧ q.cell? ⟨gz, 4, none⟩ = some (.int .i64 y4) ∧ q.cell? ⟨gz, 5, none⟩ = some (.int .i64 y5) ∧ q.cell? ⟨gz, 6, none⟩ = some (.int .i64 y6) ∧ q.cell? ⟨gz, 7, none⟩ = some (.int .i64 y7) ∧ q.cell? ⟨gz, 8, none⟩ = some (.int .i64 y8) ∧ q.cell? ⟨gz, 9, none⟩ = some (.int .i64 y9) ∧ q.cell? ⟨gz, 10, none⟩ = some (.int .i64 y10)) (by kernel_rfl) (by with_reducible exact (KS.out _ (Below.drew T0))) (fun hHeld => ?_)
  refine wpAnyH_take (i := 0) (oi := _) (v := ?_) rfl (by kernel_rfl) (by kernel_rfl) (by kernel_rfl) (fun _ _ _ h => h) (Or.inl ⟨by rfl, ?_⟩) (by assumption) ?_
  rotate_left
  · intro w hSw
    try dsimp only at hSw
    go_simp
    try with_reducible rfl
  simp only [Act.put, List.getElem_toArray, List.getElem_cons_zero, List.setIfInBounds_toArray, List.set_cons_zero, List.set_cons_succ]
  refine wpAnyH_take (i := 1) (oi := _) (v := ?_) rfl (by kernel_rfl) (by kernel_rfl) (by kernel_rfl) (fun _ _ _ h => h) (Or.inl ⟨by rfl, ?_⟩) (by assumption) ?_
  rotate_left
  · intro w hSw
    try dsimp only at hSw
    go_simp
    try with_reducible rfl
  simp only [Act.put, List.getElem_toArray, List.getElem_cons_zero, List.getElem_cons_succ, List.setIfInBounds_toArray, List.set_cons_zero, List.set_cons_succ]
  refine wpAnyH_take (i := 2) (oi := _) (v := ?_) rfl (by kernel_rfl) (by kernel_rfl) (by kernel_rfl) (fun _ _ _ h => h) (Or.inl ⟨by rfl, ?_⟩) (by assumption) ?_
  rotate_left
  · intro w hSw
    try dsimp only at hSw
    go_simp
    try with_reducible rfl
  simp only [Act.put, List.getElem_toArray, List.getElem_cons_zero, List.getElem_cons_succ, List.setIfInBounds_toArray, List.set_cons_zero, List.set_cons_succ]
  refine wpAnyH_take (i := 3) (oi := _) (v := ?_) rfl (by kernel_rfl) (by kernel_rfl) (by kernel_rfl) (fun _ _ _ h => h) (Or.inl ⟨by rfl, ?_⟩) (by assumption) ?_
  rotate_left
  · intro w hSw
    try dsimp only at hSw
    go_simp
    try with_reducible rfl
  simp only [Act.put, List.getElem_toArray, List.getElem_cons_zero, List.getElem_cons_succ, List.setIfInBounds_toArray, List.set_cons_zero, List.set_cons_succ]
  refine wpAnyH_take (i := 4) (oi := _) (v := ?_) rfl (by kernel_rfl) (by kernel_rfl) (by kernel_rfl) (fun _ _ _ h => h) (Or.inl ⟨by rfl, ?_⟩) (by assumption) ?_
  rotate_left
  · intro w hSw
    try dsimp only at hSw
    go_simp
    try with_reducible rfl
  simp only [Act.put, List.getElem_toArray, List.getElem_cons_zero, List.getElem_cons_succ, List.setIfInBounds_toArray, List.set_cons_zero, List.set_cons_succ]
  refine wpAnyH_take (i := 5) (oi := _) (v := ?_) rfl (by kernel_rfl) (by kernel_rfl) (by kernel_rfl) (fun _ _ _ h => h) (Or.inl ⟨by rfl, ?_⟩) (by assumption) ?_
  rotate_left
  · intro w hSw
    try dsimp only at hSw
    go_simp
    try with_reducible rfl
  simp only [Act.put, List.getElem_toArray, List.getElem_cons_zero, List.getElem_cons_succ, List.setIfInBounds_toArray, List.set_cons_zero, List.set_cons_succ]
  refine wpAnyH_take (i := 6) (oi := _) (v := ?_) rfl (by kernel_rfl) (by kernel_rfl) (by kernel_rfl) (fun _ _ _ h => h) (Or.inl ⟨by rfl, ?_⟩) (by assumption) ?_
  rotate_left
  · intro w hSw
    try dsimp only at hSw
    go_simp
    try with_reducible rfl
  simp only [Act.put, List.getElem_toArray, List.getElem_cons_zero, List.getElem_cons_succ, List.setIfInBounds_toArray, List.set_cons_zero, List.set_cons_succ]
  refine wpAnyH_take (i := 7) (oi := _) (v := ?_) rfl (by kernel_rfl) (by kernel_rfl) (by kernel_rfl) (fun _ _ _ h => h) (Or.inl ⟨by rfl, ?_⟩) (by assumption) ?_
  rotate_left
  · intro w hSw
    try dsimp only at hSw
    go_simp
    try with_reducible rfl
  simp only [Act.put, List.getElem_toArray, List.getElem_cons_zero, List.getElem_cons_succ, List.setIfInBounds_toArray, List.set_cons_zero, List.set_cons_succ]
  refine wpAnyH_take (i := 8) (oi := _) (v := ?_) rfl (by kernel_rfl) (by kernel_rfl) (by kernel_rfl) (fun _ _ _ h => h) (Or.inl ⟨by rfl, ?_⟩) (by assumption) ?_
  rotate_left
  · intro w hSw
    try dsimp only at hSw
    go_simp
    try with_reducible rfl
  simp only [Act.put, List.getElem_toArray, List.getElem_cons_zero, List.getElem_cons_succ, List.setIfInBounds_toArray, List.set_cons_zero, List.set_cons_succ]
  refine wpAnyH_take (i := 9) (oi := _) (v := ?_) rfl (by kernel_rfl) (by kernel_rfl) (by kernel_rfl) (fun _ _ _ h => h) (Or.inl ⟨by rfl, ?_⟩) (by assumption) ?_
  rotate_left
  · intro w hSw
    try dsimp only at hSw
    go_simp
    try with_reducible rfl
  simp only [Act.put, List.getElem_toArray, List.getElem_cons_zero, List.getElem_cons_succ, List.setIfInBounds_toArray, List.set_cons_zero, List.set_cons_succ]
  refine wpAnyH_take (i := 10) (oi := _) (v := ?_) rfl (by kernel_rfl) (by kernel_rfl) (by kernel_rfl) (fun _ _ _ h => h) (Or.inl ⟨by rfl, ?_⟩) (by assumption) ?_
  rotate_left
  · intro w hSw
    try dsimp only at hSw
    go_simp
    try with_reducible rfl
  simp only [Act.put, List.getElem_toArray, List.getElem_cons_zero, List.getElem_cons_succ, List.setIfInBounds_toArray, List.set_cons_zero, List.set_cons_succ]
  refine wpAnyH_take (i := 11) (oi := _) (v := ?_) rfl (by kernel_rfl) (by kernel_rfl) (by kernel_rfl) (fun _ _ _ h => h) (Or.inl ⟨by rfl, ?_⟩) (by assumption) ?_
  rotate_left
  · intro w hSw
    try dsimp only at hSw
    go_simp
    try with_reducible rfl
  simp only [Act.put, List.getElem_toArray, List.getElem_cons_zero, List.getElem_cons_succ, List.setIfInBounds_toArray, List.set_cons_zero, List.set_cons_succ]
  refine wpAnyH_take (i := 12) (oi := _) (v := ?_) rfl (by kernel_rfl) (by kernel_rfl) (by kernel_rfl) (fun _ _ _ h => h) (Or.inl ⟨by rfl, ?_⟩) (by assumption) ?_
  rotate_left
  · intro w hSw
    try dsimp only at hSw
    go_simp
    try with_reducible rfl
  simp only [Act.put, List.getElem_toArray, List.getElem_cons_zero, List.getElem_cons_succ, List.setIfInBounds_toArray, List.set_cons_zero, List.set_cons_succ]
  refine wpAnyH_take (i := 13) (oi := _) (v := ?_) rfl (by kernel_rfl) (by kernel_rfl) (by kernel_rfl) (fun _ _ _ h => h) (Or.inl ⟨by rfl, ?_⟩) (by assumption) ?_
  rotate_left
  · intro w hSw
    try dsimp only at hSw
    go_simp
    try with_reducible rfl
  simp only [Act.put, List.getElem_toArray, List.getElem_cons_zero, List.getElem_cons_succ, List.setIfInBounds_toArray, List.set_cons_zero, List.set_cons_succ]
  refine wpAnyH_take (i := 14) (oi := _) (v := ?_) rfl (by kernel_rfl) (by kernel_rfl) (by kernel_rfl) (fun _ _ _ h => h) (Or.inl ⟨by rfl, ?_⟩) (by assumption) ?_
  rotate_left
  · intro w hSw
    try dsimp only at hSw
    go_simp
    try with_reducible rfl
  simp only [Act.put, List.getElem_toArray, List.getElem_cons_zero, List.getElem_cons_succ, List.setIfInBounds_toArray, List.set_cons_zero, List.set_cons_succ]
  refine wpAnyH_take (i := 15) (oi := _) (v := ?_) rfl (by kernel_rfl) (by kernel_rfl) (by kernel_rfl) (fun _ _ _ h => h) (Or.inl ⟨by rfl, ?_⟩) (by assumption) ?_
  rotate_left
  · intro w hSw
    try dsimp only at hSw
    go_simp
    try with_reducible rfl
  simp only [Act.put, List.getElem_toArray, List.getElem_cons_zero, List.getElem_cons_succ, List.setIfInBounds_toArray, List.set_cons_zero, List.set_cons_succ]
  refine wpAnyH_take (i := 16) (oi := _) (v := ?_) rfl (by kernel_rfl) (by kernel_rfl) (by kernel_rfl) (fun _ _ _ h => h) (Or.inl ⟨by rfl, ?_⟩) (by assumption) ?_
  rotate_left
  · intro w hSw
    try dsimp only at hSw
    go_simp
    try with_reducible rfl
  simp only [Act.put, List.getElem_toArray, List.getElem_cons_zero, List.getElem_cons_succ, List.setIfInBounds_toArray, List.set_cons_zero, List.set_cons_succ]
  refine wpAnyH_take (i := 17) (oi := _) (v := ?_) rfl (by kernel_rfl) (by kernel_rfl) (by kernel_rfl) (fun _ _ _ h => h) (Or.inl ⟨by rfl, ?_⟩) (by assumption) ?_
  rotate_left
  · intro w hSw
    try dsimp only at hSw
    go_simp
    try with_reducible rfl
  simp only [Act.put, List.getElem_toArray, List.getElem_cons_zero, List.getElem_cons_succ, List.setIfInBounds_toArray, List.set_cons_zero, List.set_cons_succ]
  refine wpAnyH_take (i := 18) (oi := _) (v := ?_) rfl (by kernel_rfl) (by kernel_rfl) (by kernel_rfl) (fun _ _ _ h => h) (Or.inl ⟨by rfl, ?_⟩) (by assumption) ?_
  rotate_left
  · intro w hSw
    try dsimp only at hSw
    go_simp
    try with_reducible rfl
  simp only [Act.put, List.getElem_toArray, List.getElem_cons_zero, List.getElem_cons_succ, List.setIfInBounds_toArray, List.set_cons_zero, List.set_cons_succ]
  refine wpAnyH_take (i := 19) (oi := _) (v := ?_) rfl (by kernel_rfl) (by kernel_rfl) (by kernel_rfl) (fun _ _ _ h => h) (Or.inl ⟨by rfl, ?_⟩) (by assumption) ?_
  rotate_left
  · intro w hSw
    try dsimp only at hSw
    go_simp
    try with_reducible rfl
  simp only [Act.put, List.getElem_toArray, List.getElem_cons_zero, List.getElem_cons_succ, List.setIfInBounds_toArray, List.set_cons_zero, List.set_cons_succ]
  refine wpAnyH_take (i := 20) (oi := _) (v := ?_) rfl (by kernel_rfl) (by kernel_rfl) (by kernel_rfl) (fun _ _ _ h => h) (Or.inl ⟨by rfl, ?_⟩) (by assumption) ?_
  rotate_left
  · intro w hSw
    try dsimp only at hSw
    go_simp
    try with_reducible rfl
  simp only [Act.put, List.getElem_toArray, List.getElem_cons_zero, List.getElem_cons_succ, List.setIfInBounds_toArray, List.set_cons_zero, List.set_cons_succ]
  refine wpAnyH_take (i := 21) (oi := _) (v := ?_) rfl (by kernel_rfl) (by kernel_rfl) (by kernel_rfl) (fun _ _ _ h => h) (Or.inl ⟨by rfl, ?_⟩) (by assumption) ?_
  rotate_left
  · intro w hSw
    try dsimp only at hSw
    go_simp
    try with_reducible rfl
  simp only [Act.put, List.getElem_toArray, List.getElem_cons_zero, List.getElem_cons_succ, List.setIfInBounds_toArray, List.set_cons_zero, List.set_cons_succ]
  refine wpAnyH_take (i := 22) (oi := _) (v := ?_) rfl (by kernel_rfl) (by kernel_rfl) (by kernel_rfl) (fun _ _ _ h => h) (Or.inl ⟨by rfl, ?_⟩) (by assumption) ?_
  rotate_left
  · intro w hSw
    try dsimp only at hSw
    go_simp
    try with_reducible rfl
  simp only [Act.put, List.getElem_toArray, List.getElem_cons_zero, List.getElem_cons_succ, List.setIfInBounds_toArray, List.set_cons_zero, List.set_cons_succ]
  refine wpAnyH_take (i := 23) (oi := _) (v := ?_) rfl (by kernel_rfl) (by kernel_rfl) (by kernel_rfl) (fun _ _ _ h => h) (Or.inl ⟨by rfl, ?_⟩) (by assumption) ?_
  rotate_left
  · intro w hSw
    try dsimp only at hSw
    go_simp
    try with_reducible rfl
  simp only [Act.put, List.getElem_toArray, List.getElem_cons_zero, List.getElem_cons_succ, List.setIfInBounds_toArray, List.set_cons_zero, List.set_cons_succ]
  refine wpAnyH_take (i := 24) (oi := _) (v := ?_) rfl (by kernel_rfl) (by kernel_rfl) (by kernel_rfl) (fun _ _ _ h => h) (Or.inl ⟨by rfl, ?_⟩) (by assumption) ?_
  rotate_left
  · intro w hSw
    try dsimp only at hSw
    go_simp
    try with_reducible rfl
  simp only [Act.put, List.getElem_toArray, List.getElem_cons_zero, List.getElem_cons_succ, List.setIfInBounds_toArray, List.set_cons_zero, List.set_cons_succ]
  refine wpAnyH_take (i := 25) (oi := _) (v := ?_) rfl (by kernel_rfl) (by kernel_rfl) (by kernel_rfl) (fun _ _ _ h => h) (Or.inl ⟨by rfl, ?_⟩) (by assumption) ?_
  rotate_left
  · intro w hSw
    try dsimp only at hSw
    go_simp
    try with_reducible rfl
  simp only [Act.put, List.getElem_toArray, List.getElem_cons_zero, List.getElem_cons_succ, List.setIfInBounds_toArray, List.set_cons_zero, List.set_cons_succ]
  refine wpAnyH_take (i := 26) (oi := _) (v := ?_) rfl (by kernel_rfl) (by kernel_rfl) (by kernel_rfl) (fun _ _ _ h => h) (Or.inl ⟨by rfl, ?_⟩) (by assumption) ?_
  rotate_left
  · intro w hSw
    try dsimp only at hSw
    go_simp
    try with_reducible rfl
  simp only [Act.put, List.getElem_toArray, List.getElem_cons_zero, List.getElem_cons_succ, List.setIfInBounds_toArray, List.set_cons_zero, List.set_cons_succ]
  refine wpAnyH_take (i := 27) (oi := _) (v := ?_) rfl (by kernel_rfl) (by kernel_rfl) (by kernel_rfl) (fun _ _ _ h => h) (Or.inl ⟨by rfl, ?_⟩) (by assumption) ?_
  rotate_left
  · intro w hSw
    try dsimp only at hSw
    go_simp
    try with_reducible rfl
  simp only [Act.put, List.getElem_toArray, List.getElem_cons_zero, List.getElem_cons_succ, List.setIfInBounds_toArray, List.set_cons_zero, List.set_cons_succ]
  refine wpAnyH_take (i := 28) (oi := _) (v := ?_) rfl (by kernel_rfl) (by kernel_rfl) (by kernel_rfl) (fun _ _ _ h => h) (Or.inl ⟨by rfl, ?_⟩) (by assumption) ?_
  rotate_left
  · intro w hSw
    try dsimp only at hSw
    go_simp
    try with_reducible rfl
  simp only [Act.put, List.getElem_toArray, List.getElem_cons_zero, List.getElem_cons_succ, List.setIfInBounds_toArray, List.set_cons_zero, List.set_cons_succ]
  refine wpAnyH_take (i := 29) (oi := _) (v := ?_) rfl (by kernel_rfl) (by kernel_rfl) (by kernel_rfl) (fun _ _ _ h => h) (Or.inl ⟨by rfl, ?_⟩) (by assumption) ?_
  rotate_left
  · intro w hSw
    try dsimp only at hSw
    go_simp
    try with_reducible rfl
  simp only [Act.put, List.getElem_toArray, List.getElem_cons_zero, List.getElem_cons_succ, List.setIfInBounds_toArray, List.set_cons_zero, List.set_cons_succ]
  refine wpAnyH_take (i := 30) (oi := _) (v := ?_) rfl (by kernel_rfl) (by kernel_rfl) (by kernel_rfl) (fun _ _ _ h => h) (Or.inl ⟨by rfl, ?_⟩) (by assumption) ?_
  rotate_left
  · intro w hSw
    try dsimp only at hSw
    go_simp
    try with_reducible rfl
  simp only [Act.put, List.getElem_toArray, List.getElem_cons_zero, List.getElem_cons_succ, List.setIfInBounds_toArray, List.set_cons_zero, List.set_cons_succ]
  refine wpAnyH_take (i := 31) (oi := _) (v := ?_) rfl (by kernel_rfl) (by kernel_rfl) (by kernel_rfl) (fun _ _ _ h => h) (Or.inl ⟨by rfl, ?_⟩) (by assumption) ?_
  rotate_left
  · intro w hSw
    try dsimp only at hSw
    go_simp
    try with_reducible rfl
  simp only [Act.put, List.getElem_toArray, List.getElem_cons_zero, List.getElem_cons_succ, List.setIfInBounds_toArray, List.set_cons_zero, List.set_cons_succ]
  refine wpAnyH_take (i := 32) (oi := _) (v := ?_) rfl (by kernel_rfl) (by kernel_rfl) (by kernel_rfl) (fun _ _ _ h => h) (Or.inl ⟨by rfl, ?_⟩) (by assumption) ?_
  rotate_left
  · intro w hSw
    try dsimp only at hSw
    go_simp
    try with_reducible rfl
  simp only [Act.put, List.getElem_toArray, List.getElem_cons_zero, List.getElem_cons_succ, List.setIfInBounds_toArray, List.set_cons_zero, List.set_cons_succ]
  refine wpAnyH_take (i := 33) (oi := _) (v := ?_) rfl (by kernel_rfl) (by kernel_rfl) (by kernel_rfl) (fun _ _ _ h => h) (Or.inl ⟨by rfl, ?_⟩) (by assumption) ?_
  rotate_left
  · intro w hSw
    try dsimp only at hSw
    go_simp
    try with_reducible rfl
  simp only [Act.put, List.getElem_toArray, List.getElem_cons_zero, List.getElem_cons_succ, List.setIfInBounds_toArray, List.set_cons_zero, List.set_cons_succ]
  refine wpAnyH_take (i := 34) (oi := _) (v := ?_) rfl (by kernel_rfl) (by kernel_rfl) (by kernel_rfl) (fun _ _ _ h => h) (Or.inl ⟨by rfl, ?_⟩) (by assumption) ?_
  rotate_left
  · intro w hSw
    try dsimp only at hSw
    go_simp
    try with_reducible rfl
  simp only [Act.put, List.getElem_toArray, List.getElem_cons_zero, List.getElem_cons_succ, List.setIfInBounds_toArray, List.set_cons_zero, List.set_cons_succ]
  refine wpAnyH_take (i := 35) (oi := _) (v := ?_) rfl (by kernel_rfl) (by kernel_rfl) (by kernel_rfl) (fun _ _ _ h => h) (Or.inl ⟨by rfl, ?_⟩) (by assumption) ?_
  rotate_left
  · intro w hSw
    try dsimp only at hSw
    go_simp
    try with_reducible rfl
  simp only [Act.put, List.getElem_toArray, List.getElem_cons_zero, List.getElem_cons_succ, List.setIfInBounds_toArray, List.set_cons_zero, List.set_cons_succ]
  refine wpAnyH_ready (rs := [36]) (by kernel_rfl) (by simp) ?_
  refine AllReadyH.cons (o := _) rfl (fun K hK => ?_) AllReadyH.nil
  clear hHeld
  go_simp
  refine hK.out _ _ ?_ (fun hHeld => ?_)
  · with_reducible exact (KS.out _ (Below.drew (alS T0 hle)))
  clear hK K
  try simp only [Act.put, List.setIfInBounds_toArray, List.set_cons_zero, List.set_cons_succ]
  refine wpAnyH_ready (rs := [37]) (by kernel_rfl) (by simp) ?_
  refine AllReadyH.cons (o := _) rfl (fun K hK => ?_) AllReadyH.nil
  clear hHeld
  go_simp
  refine hK.out _ _ ?_ (fun hHeld => ?_)
  · with_reducible exact (KS.out _ (Below.drew (alS T0 hle)))
  clear hK K
  try simp only [Act.put, List.setIfInBounds_toArray, List.set_cons_zero, List.set_cons_succ]
  refine wpAnyH_done (by kernel_rfl) ?_ _
  have hw3 : IntKind.u64.wrap (max y3 0) = max y3 0 := by rw [IntKind.wrap_u64]; omega
  rw [hw3]
  obtain ⟨C, HCC⟩ : ∃ t, Hid (cfgOf z = t) := ⟨_, rfl⟩
  have HC2 : Hid (C = ⟨y0, y1, y2, max y3 0, y4, y5, y6, y7, y8, y9, y10⟩) := by show _ = _; rw [← HCC.out]; exact HC.out
  rw [HCC.out] at HD
  have TA : Below w.heap.size w (w.alloc (.cells C.cells 50)).drew := Below.drew (alS T0 hle)
  have OC := ocheck_calls C (w.alloc (.cells C.cells 50)).drew
  have hbx : BoxC (w.alloc (.cells C.cells 50)).drew w.heap.size C := boxC (B := w.heap.size + 1) (Below.drew (Below.refl _ _)) (Nat.lt_succ_self _)
  have hdk := h.below TA
  have hseed : 0 ≤ C.seed ∧ C.seed < 18446744073709551616 := by rw [HC2.out]; dsimp only; omega
  have hCC : (.cells #[.int .i64 y0, .int .i64 y1, .int .i64 y2, .int .u64 (max y3 0), .int .i64 y4, .int .i64 y5, .int .i64 y6, .int .i64 y7, .int .i64 y8, .int .i64 y9, .int .i64 y10] 50 : Obj) = .cells C.cells 50 := by rw [HC2.out]; rfl
  rw [hCC]
  generalize (w.alloc (.cells C.cells 50)).drew = W1 at *
  clear KS
  have hW1 : w.heap.size < W1.heap.size := World.block_lt_of_cell? _ _ hbx.c0
  have KB : Hid (∀ q, Below W1.heap.size W1 q → BoxC q w.heap.size C) := fun q hq => ⟨(hq.cell (p := ⟨w.heap.size, 0, none⟩) hW1).trans hbx.c0, (hq.cell (p := ⟨w.heap.size, 1, none⟩) hW1).trans hbx.c1, (hq.cell (p := ⟨w.heap.size, 2, none⟩) hW1).trans hbx.c2, (hq.cell (p := ⟨w.heap.size, 3, none⟩) hW1).trans hbx.c3, (hq.cell (p := ⟨w.heap.size, 4, none⟩) hW1).trans hbx.c4, (hq.cell (p := ⟨w.heap.size, 5, none⟩) hW1).trans hbx.c5, (hq.cell (p := ⟨w.heap.size, 6, none⟩) hW1).trans hbx.c6, (hq.cell (p := ⟨w.heap.size, 7, none⟩) hW1).trans hbx.c7, (hq.cell (p := ⟨w.heap.size, 8, none⟩) hW1).trans hbx.c8, (hq.cell (p := ⟨w.heap.size, 9, none⟩) hW1).trans hbx.c9, (hq.cell (p := ⟨w.heap.size, 10, none⟩) hW1).trans hbx.c10⟩
  obtain ⟨q0, q1, q2, q3, q4, q5, q6, q7, q8, q9, q10⟩ := hbx
  clear hCC HC HC2 hw3 hb3 hlt
  have hstep := hdk
  by_cases hE : cfgI C = 0
  · rw [if_pos hE] at HD
    rw [hE] at OC
    have hok : Dsk.ok { d with c := C } := ⟨cfgOf_ok (z := z) (by rw [HCC.out]; exact hE) |> fun e => by rw [HCC.out] at e; exact e, hseed, h.ok.n, h.ok.T, h.ok.sy⟩
    simp only [Cfg.val, Cfg.cells] at OC
    go_wp2_with (go_at_call 55; refine OC.mono ?_; rintro e w2 ⟨rfl, hw2⟩; have hdk2 := hdk.below hw2; obtain ⟨m0, m1, m2, m3, m4, m5, m6, m7, m8, m9, m10⟩ := KB.out _ hw2; obtain ⟨⟨n0, n1, n2, n3, n4, n5, n6, n7, n8, n9, n10⟩, _, _⟩ := hdk2.cells; have f0 := hdk2.row.frozen 0; have f1 := hdk2.row.frozen 1; have f2 := hdk2.row.frozen 2; have f3 := hdk2.row.frozen 3; have f4 := hdk2.row.frozen 4; have f5 := hdk2.row.frozen 5; have f6 := hdk2.row.frozen 6; have f7 := hdk2.row.frozen 7; have f8 := hdk2.row.frozen 8; have f9 := hdk2.row.frozen 9; have f10 := hdk2.row.frozen 10)
    go_ret2
    have hset : DkIn base (set11 w2 b C) b s { d with c := C } a cap X := hdk2.setB (by rw [set11_size]; exact Nat.le_refl _) (fun k _ hk => set11_other w2 b C k hk) (set11_row hdk2.row) hok (hdk2.ldb.low (set11_below (Below.refl base w2) hdk2.hb C))
    refine ⟨by rw [HD.out]; rfl, ⟨a, cap, X, by rw [HD.out]; exact hset⟩, ?_⟩
    exact ((DkCh.ofBelow TA h.lt).trans (DkCh.ofBelow hw2 hdk.lt)).trans (DkCh.setB hdk2.row hdk2.hb C)
  · rw [if_neg hE] at HD
    obtain ⟨E, HEE⟩ : ∃ t, Hid (cfgI C = t) := ⟨_, rfl⟩
    rw [HEE.out] at OC hE HD
    have k1 : (E == 0) = false := by rw [beq_eq_false_iff_ne]; exact hE
    simp only [Cfg.val, Cfg.cells] at OC
    go_wp2_with (go_at_call 55; refine OC.mono ?_; rintro e w2 ⟨rfl, hw2⟩)
    go_ret2
    refine ⟨by rw [HD.out]; rfl, ⟨a, cap, X, by rw [HD.out]; exact hdk.below hw2⟩, ?_⟩
    exact (DkCh.ofBelow TA h.lt).trans (DkCh.ofBelow hw2 hdk.lt)
end Go.Proofs.YthmiojmlaclgaaaGreatDoor.Fx
