/- What train.Run returns, whatever is handed in. -/
import Derived.Test.YtimciamfgpdjlaaGreatJ15
import Derived.Test.YtimciamfgpdjlaaGreatJ17
import Derived.Test.YtimciamfgpdjlaaGreatJ06
import Derived.Test.YtimciamfgpdjlaaGreatJ05
import Derived.Test.YtimciamfgpdjlaaGreatJ10
import Derived.Test.YtimciamfgpdjlaaGreatJ04
import Derived.Test.YtimciamfgpdjlaaGreatJ16
namespace Go.Proofs.YtimciamfgpdjlaaGreat.Fx
open Go.RowKit

theorem made2 (w : World) (z : Value) (m : Nat) (t : TypeId) : (w.alloc (.cells (madeCells #[z, z] m) t)).rowIs w.heap.size t m (fun _ => z) := by
  refine ⟨_, Go.Deep.blk_alloc_new _ _, size_madeCells _ _, fun i hi => ?_⟩
  have h2 : i % 2 = 0 ∨ i % 2 = 1 := by omega
  rcases h2 with h2 | h2 <;> simp [madeCells, hi, h2]
/-- The cells of a list of states, of which the first K are X's. -/
def outF (X : Nat → Exm) (K i : Nat) : Value := if i < K * 2 then (if i % 2 = 0 then .slice (X (i / 2)).a (X (i / 2)).n (X (i / 2)).k else .slice (X (i / 2)).b (X (i / 2)).m (X (i / 2)).t) else .slice none 0 0
theorem outF_zero {w : World} {b t n : Nat} {X : Nat → Exm} (h : w.rowIs b t n (fun _ => .slice none 0 0)) : w.rowIs b t n (outF X 0) := h.congr (fun i _ => by unfold outF; rw [if_neg (by omega)])
theorem outF_at {w : World} {b t n K j : Nat} {X : Nat → Exm} (h : w.rowIs b t n (outF X K)) (hj : j < K) (hn : K * 2 ≤ n) : w.cell? ⟨b, j * 2, none⟩ = some (.slice (X j).a (X j).n (X j).k) ∧ w.cell? ⟨b, j * 2 + 1, none⟩ = some (.slice (X j).b (X j).m (X j).t) := by
  refine ⟨?_, ?_⟩
  · rw [h.cell (by omega)]
    unfold outF
    rw [if_pos (by omega), if_pos (by omega), show j * 2 / 2 = j by omega]
  · rw [h.cell (by omega)]
    unfold outF
    rw [if_pos (by omega), if_neg (by omega), show (j * 2 + 1) / 2 = j by omega]
theorem outF_new {w : World} {b t n K j : Nat} {X : Nat → Exm} (h : w.rowIs b t n (outF X K)) (hj : K * 2 ≤ j) (hn : j < n) : w.cell? ⟨b, j, none⟩ = some (.slice none 0 0) := by
  rw [h.cell hn]
  unfold outF
  rw [if_neg (by omega)]
theorem outF_push {w : World} {b t n K : Nat} {X : Nat → Exm} (h : w.rowIs b t n (outF X K)) (x : Exm) : ((w.setCell ⟨b, K * 2, none⟩ (.slice x.a x.n x.k)).setCell ⟨b, K * 2 + 1, none⟩ (.slice x.b x.m x.t)).rowIs b t n (outF (fun j => if j = K then x else X j) (K + 1)) := by
  refine ((h.set _ _).set _ _).congr (fun i hi => ?_)
  by_cases e1 : i = K * 2 + 1
  · rw [if_pos e1]
    unfold outF
    rw [if_pos (by omega), if_neg (by omega), show i / 2 = K by omega]
    simp
  · rw [if_neg e1]
    by_cases e2 : i = K * 2
    · rw [if_pos e2]
      unfold outF
      rw [if_pos (by omega), if_pos (by omega), show i / 2 = K by omega]
      simp
    · rw [if_neg e2]
      unfold outF
      by_cases e3 : i < K * 2
      · have e4 : i / 2 ≠ K := by omega
        have e5 : i < (K + 1) * 2 := by omega
        rw [if_pos e3, if_pos e5]
        simp [e4]
      · rw [if_neg e3, if_neg (by omega)]
theorem InEx.setOff {w : World} {x : Exm} {I O : List Int} (h : InEx w x I O) {p : Addr} {u : Option Addr} {y z : Nat} (hp : w.cell? p = some (.slice u y z)) (v : Value) : InEx (w.setCell p v) x I O := ⟨h.i.setOff hp v, h.o.setOff hp v⟩

theorem makeS (k : Nat) (hk : k ≤ 1000) (w : World) : (Instr.makeSlice 34 (.int .i64 ((k : Int) + 1)) (.int .i64 ((k : Int) + 1))).run Tryz.prog w = .ok (.slice (some ⟨w.heap.size, 0, none⟩) (k + 1) (k + 1)) (w.alloc (.cells (madeCells #[.slice none 0 0, .slice none 0 0] ((k + 1) * 2)) 28)) := by
  obtain ⟨i0, hi, hz0, hz1, hz2⟩ := info_parts infoS
  have h := run_make (P := Tryz.prog) w 34 28 i0 _ Tryz.underlying34 hi hz0 .i64 .i64 ((k : Int) + 1) ((k : Int) + 1) (by omega) (Int.le_refl _) (by rw [hz2]; omega) (by omega)
  rw [hz1, show ((k : Int) + 1).toNat = k + 1 by omega] at h
  exact h

/-- A state whose two lists lie in blocks of their own. -/
def St1 (w : World) (base OB N : Nat) (x : Exm) (WL ML : List Int) : Prop := ∃ g1 d1 g2 d2, x = ⟨some ⟨g1, 0, none⟩, N, d1, some ⟨g2, 0, none⟩, N, d2⟩ ∧ base ≤ g1 ∧ base ≤ g2 ∧ g1 ≠ OB ∧ g2 ≠ OB ∧ g1 ≠ g2 ∧ (d1 ≤ maxLen ∧ d2 ≤ maxLen) ∧ Arr w g1 d1 N (fun i => WL.getD i 0) ∧ Arr w g2 d2 N (fun i => ML.getD i 0)
theorem St1.below {w w' : World} {base OB N : Nat} {x : Exm} {WL ML : List Int} (h : St1 w base OB N x WL ML) (hb : Below w.heap.size w w') : St1 w' base OB N x WL ML := by
  obtain ⟨g1, d1, g2, d2, e, b1, b2, b3, b4, b5, b6, a1, a2⟩ := h
  exact ⟨g1, d1, g2, d2, e, b1, b2, b3, b4, b5, b6, a1.below hb, a2.below hb⟩
theorem St1.setO {w : World} {base OB N : Nat} {x : Exm} {WL ML : List Int} (h : St1 w base OB N x WL ML) (i : Nat) (u : Value) : St1 (w.setCell ⟨OB, i, none⟩ u) base OB N x WL ML := by
  obtain ⟨g1, d1, g2, d2, e, b1, b2, b3, b4, b5, b6, a1, a2⟩ := h
  exact ⟨g1, d1, g2, d2, e, b1, b2, b3, b4, b5, b6, a1.setOther (a := ⟨OB, i, none⟩) b3 u, a2.setOther (a := ⟨OB, i, none⟩) b4 u⟩
theorem St1.inEx {w : World} {base OB N : Nat} {x : Exm} {WL ML : List Int} (h : St1 w base OB N x WL ML) (h1 : WL.length = N) (h2 : ML.length = N) : InEx w x WL ML := by
  obtain ⟨g1, d1, g2, d2, rfl, b1, b2, b3, b4, b5, b6, a1, a2⟩ := h
  have l1 := a1.lst
  have l2 := a2.lst
  rw [getD_self h1] at l1
  rw [getD_self h2] at l2
  exact ⟨l1, l2⟩
/-- Two states lie apart. -/
def StApart (x y : Exm) : Prop := ∀ g, (x.a = some ⟨g, 0, none⟩ ∨ x.b = some ⟨g, 0, none⟩) → y.a ≠ some ⟨g, 0, none⟩ ∧ y.b ≠ some ⟨g, 0, none⟩
theorem St1.apart {w : World} {base OB N : Nat} {x : Exm} {WL ML : List Int} (h : St1 w base OB N x WL ML) {a b d1 d2 M1 M2 : Nat} (ha : w.heap.size ≤ a) (hb : w.heap.size ≤ b) : StApart x ⟨some ⟨a, 0, none⟩, M1, d1, some ⟨b, 0, none⟩, M2, d2⟩ := fun g hg => by
  obtain ⟨g1, e1, g2, e2, rfl, b1, b2, b3, b4, b5, b6, a1, a2⟩ := h
  have k1 := a1.lt
  have k2 := a2.lt
  simp only [Option.some.injEq, Addr.mk.injEq, and_true] at hg
  refine ⟨fun e => ?_, fun e => ?_⟩
  · simp only [Option.some.injEq, Addr.mk.injEq, and_true] at e
    omega
  · simp only [Option.some.injEq, Addr.mk.injEq, and_true] at e
    omega
/-- What is known of a course's states that lie in a list. -/
def StIn (w : World) (base OB N k : Nat) (X : Nat → Exm) (DW DM : Nat → List Int) : Prop := (∀ j, j ≤ k → St1 w base OB N (X j) (DW j) (DM j)) ∧ ∀ i j, i < j → j ≤ k → StApart (X i) (X j)
theorem StIn.below {w w' : World} {base OB N k : Nat} {X : Nat → Exm} {DW DM : Nat → List Int} (h : StIn w base OB N k X DW DM) (hb : Below w.heap.size w w') : StIn w' base OB N k X DW DM := ⟨fun j hj => (h.1 j hj).below hb, h.2⟩
theorem StIn.setO {w : World} {base OB N k : Nat} {X : Nat → Exm} {DW DM : Nat → List Int} (h : StIn w base OB N k X DW DM) (i : Nat) (u : Value) : StIn (w.setCell ⟨OB, i, none⟩ u) base OB N k X DW DM := ⟨fun j hj => (h.1 j hj).setO i u, h.2⟩
theorem StIn.push {w : World} {base OB N k : Nat} {X : Nat → Exm} {DW DM : Nat → List Int} (h : StIn w base OB N k X DW DM) {x : Exm} (hx : St1 w base OB N x (DW (k + 1)) (DM (k + 1))) (hap : ∀ i, i ≤ k → StApart (X i) x) : StIn w base OB N (k + 1) (fun j => if j = k + 1 then x else X j) DW DM := by
  refine ⟨fun j hj => ?_, fun i j h1 h2 => ?_⟩
  · by_cases e : j = k + 1
    · subst e; simp only [if_pos]; exact hx
    · simp only [if_neg e]; exact h.1 j (by omega)
  · have e1 : i ≠ k + 1 := by omega
    by_cases e : j = k + 1
    · subst e; simp only [if_neg e1, if_pos]; exact hap i (by omega)
    · simp only [if_neg e1, if_neg e]; exact h.2 i j h1 (by omega)

set_option maxRecDepth 100000 in
set_option maxHeartbeats 6400000 in
theorem tRun_own (I H O B : Nat) (seed crate decay how keep clip : Int) (hs : okW seed) (steps : Int) (hc : cfgB ⟨I, H, O, seed, B, steps, crate, decay, how, keep, clip⟩ = true) (N : Nat) (hN : N = H * I + H + O * H + O) (a : Option Addr) (n cap : Nat) (X : Nat → Exm) (DI DO : Nat → List Int) (nn : Nat) (w : World)
    (hx : Exs w a n cap X DI DO) (hn1 : 1 ≤ n) (hn2 : n ≤ 16) (hex : allEx ⟨I, H, O, seed, B, steps, crate, decay, how, keep, clip⟩ n X DI DO = true) (hnn : (nn : Int) ≤ steps) (HC : Hid (∀ q, Below w.heap.size w q → Calls Tryz.prog 54 #[Cfg.val ⟨I, H, O, seed, B, steps, crate, decay, how, keep, clip⟩, .slice a n cap] q fun e w' => e = .returned (.int .i64 0) ∧ Below q.heap.size q w')) :
    Calls Tryz.prog 48 #[Cfg.val ⟨I, H, O, seed, B, steps, crate, decay, how, keep, clip⟩, .slice a n cap, .int .i64 nn] w fun e w' => ∃ g Y, e = .returned (.tuple #[.slice (some ⟨g, 0, none⟩) (nn + 1) (nn + 1), .int .i64 0]) ∧ w.heap.size ≤ g ∧ w'.rowIs g 28 ((nn + 1) * 2) (outF Y (nn + 1)) ∧ StIn w' w.heap.size g N nn Y (fun j => (stateP ⟨I, H, O, seed, B, steps, crate, decay, how, keep, clip⟩ n DI DO N j).1) (fun j => (stateP ⟨I, H, O, seed, B, steps, crate, decay, how, keep, clip⟩ n DI DO N j).2) ∧ Below w.heap.size w w' := by
  obtain ⟨_, _, _, _, ⟨s1, s2⟩, _⟩ := cfgB_is hc
  dsimp only at s1 s2
  obtain ⟨DW, HDW⟩ : ∃ f : Nat → List Int, Hid (∀ j, f j = (stateP ⟨I, H, O, seed, B, steps, crate, decay, how, keep, clip⟩ n DI DO N j).1) := ⟨_, fun _ => rfl⟩
  obtain ⟨DM, HDM⟩ : ∃ f : Nat → List Int, Hid (∀ j, f j = (stateP ⟨I, H, O, seed, B, steps, crate, decay, how, keep, clip⟩ n DI DO N j).2) := ⟨_, fun _ => rfl⟩
  have hEW : (fun j => (stateP ⟨I, H, O, seed, B, steps, crate, decay, how, keep, clip⟩ n DI DO N j).1) = DW := funext fun j => (HDW.out j).symm
  have hEM : (fun j => (stateP ⟨I, H, O, seed, B, steps, crate, decay, how, keep, clip⟩ n DI DO N j).2) = DM := funext fun j => (HDM.out j).symm
  rw [hEW, hEM]
  clear hEW hEM
  have hNI : (N : Int) = sizeN ⟨I, H, O, seed, B, steps, crate, decay, how, keep, clip⟩ := by unfold sizeN; dsimp only; rw [hN]; push_cast; rfl
  have HNM : Hid (N ≤ maxLen) := by show N ≤ maxLen; have := sizeN_bd hc; unfold maxLen; omega
  have HLN : Hid (∀ j, (DW j).length = N ∧ (DM j).length = N) := fun j => by rw [HDW.out, HDM.out]; exact stateP_len ⟨I, H, O, seed, B, steps, crate, decay, how, keep, clip⟩ n DI DO N j
  have HS : Hid (∀ q, Calls Tryz.prog 103 #[Cfg.val ⟨I, H, O, seed, B, steps, crate, decay, how, keep, clip⟩] q fun e w' => ∃ ga gb, e = .returned (.agg #[.slice (some ⟨ga, 0, none⟩) N N, .slice (some ⟨gb, 0, none⟩) N N]) ∧ q.heap.size ≤ ga ∧ q.heap.size ≤ gb ∧ ga ≠ gb ∧ Arr w' ga N N (fun i => (DW 0).getD i 0) ∧ Arr w' gb N N (fun i => (DM 0).getD i 0) ∧ Below q.heap.size q w') := fun q => by
    refine (tstart_own ⟨I, H, O, seed, B, steps, crate, decay, how, keep, clip⟩ hc hs N hNI q).mono ?_
    rintro e w' ⟨ga, gb, he, h1, h2, h3, h4, h5, h6⟩
    refine ⟨ga, gb, he, h1, h2, h3, h4.congr (fun i hi => ?_), h5.congr (fun i hi => ?_), h6⟩
    · rw [HDW.out]; exact (getD_range _ hi).symm
    · rw [HDM.out]; exact (getD_range _ hi).symm
  have HNX : Hid (∀ (q : World) (k : Nat) (a1 : Option Addr) (k1 : Nat) (a2 : Option Addr) (k2 : Nat), Below w.heap.size w q → (k : Int) ≤ steps - 1 → Lst q a1 N k1 (DW k) → Lst q a2 N k2 (DM k) → Calls Tryz.prog 104 #[Cfg.val ⟨I, H, O, seed, B, steps, crate, decay, how, keep, clip⟩, .slice a n cap, .agg #[.slice a1 N k1, .slice a2 N k2], .int .i64 k] q fun e w' => ∃ na d1 nb d2 bg R, e = .returned (.tuple #[.agg #[.slice (some ⟨na, 0, none⟩) N d1, .slice (some ⟨nb, 0, none⟩) N d2], .slice (some ⟨bg, 0, none⟩) B B, .int .i64 R]) ∧ q.heap.size ≤ na ∧ q.heap.size ≤ nb ∧ na ≠ nb ∧ (d1 ≤ maxLen ∧ d2 ≤ maxLen) ∧ Arr w' na d1 N (fun i => (DW (k + 1)).getD i 0) ∧ Arr w' nb d2 N (fun i => (DM (k + 1)).getD i 0) ∧ Below q.heap.size q w') := fun q k a1 k1 a2 k2 hq hk l1 l2 => by
    have hr := stateP_right ⟨I, H, O, seed, B, steps, crate, decay, how, keep, clip⟩ n DI DO N k
    rw [← HDW.out, ← HDM.out] at hr
    refine (tnext_own I H O B k seed crate decay how keep clip hs steps hc N hN a n cap X DI DO a1 k1 (DW k) a2 k2 (DM k) q (hx.below hq (Nat.le_refl _)) hn1 hn2 hex l1 l2 hr.1 hr.2 hk).mono ?_
    rintro e w' ⟨x1, e1, x2, e2, bg, he, g⟩
    refine ⟨x1, e1, x2, e2, bg, _, he, g.f1, g.f2, g.n12, g.cap, g.a1.congr (fun i hi => ?_), g.a2.congr (fun i hi => ?_), g.bel⟩
    · rw [HDW.out (k + 1), HDW.out k, HDM.out k]; exact (getD_range _ hi).symm
    · rw [HDM.out (k + 1), HDW.out k, HDM.out k]; exact (getD_range _ hi).symm
  have hal := low_alloc w (.cells (Cfg.cells ⟨I, H, O, seed, B, steps, crate, decay, how, keep, clip⟩) 24)
  have CK := HC.out _ hal
  have KB : Hid (∀ q, Below (w.alloc (.cells (Cfg.cells ⟨I, H, O, seed, B, steps, crate, decay, how, keep, clip⟩) 24)).heap.size (w.alloc (.cells (Cfg.cells ⟨I, H, O, seed, B, steps, crate, decay, how, keep, clip⟩) 24)) q → BoxC q w.heap.size ⟨I, H, O, seed, B, steps, crate, decay, how, keep, clip⟩) := fun q hq => boxC hq (by simp)
  have hmk := makeS nn (by omega)
  clear HC hx hex hc hN hNI hs HDW HDM
  simp only [Cfg.val, Cfg.cells] at *
  go_enter Tryz.func48, Tryz.ntmps48
  go_wp2_with fail
  refine CK.mono ?_
  rintro e w1 ⟨rfl, hw1⟩
  have KB1 : Hid (∀ q, Below w1.heap.size w1 q → BoxC q w.heap.size ⟨I, H, O, seed, B, steps, crate, decay, how, keep, clip⟩) := fun q hq => KB.out q (hw1.trans (hq.mono hw1.size))
  have hb1 := hal.trans (hw1.mono hal.size)
  have hlt1 : w.heap.size < w1.heap.size := by have := hw1.size; simp at this; omega
  clear CK KB hw1 hal
  have T0 : Below w1.heap.size w1 w1 := Below.refl _ _
  have Ta : Below w1.heap.size w1 (w1.alloc (.cells (madeCells #[.slice none 0 0, .slice none 0 0] ((nn + 1) * 2)) 28)) := T0.alloc T0.size _
  obtain ⟨c0, c1, c2, c3, c4, c5, c6, c7, c8, c9, c10⟩ := KB1.out _ T0
  obtain ⟨e0, e1, e2, e3, e4, e5, e6, e7, e8, e9, e10⟩ := KB1.out _ Ta
  dsimp only at c0 c1 c2 c3 c4 c5 c6 c7 c8 c9 c10 e0 e1 e2 e3 e4 e5 e6 e7 e8 e9 e10
  have rowz := made2 w1 (.slice none 0 0) ((nn + 1) * 2) 28
  have z0 : ¬ (nn : Int) < 0 := by omega
  have z1 : ¬ steps < (nn : Int) := by omega
  go_wp2_with fail
  refine (HS.out _).mono ?_
  rintro e w2 ⟨ga, gb, rfl, hga, hgb, hgn, l1, l2, hw2⟩
  have hgs : (w1.alloc (.cells (madeCells #[.slice none 0 0, .slice none 0 0] ((nn + 1) * 2)) 28)).heap.size = w1.heap.size + 1 := by simp
  rw [hgs] at hga hgb
  have T2 := Ta.trans (hw2.mono Ta.size)
  have row2 := rowz.of_block (hw2.block _ rowz.lt)
  have y0 : w2.cell? ⟨w1.heap.size, 0, none⟩ = some (.slice none 0 0) := row2.cell (by omega)
  have y1 : w2.cell? ⟨w1.heap.size, 1, none⟩ = some (.slice none 0 0) := row2.cell (by omega)
  have x0 := row2.frozen 0
  have x1 := row2.frozen 1
  have i0 : (0 : Int) < (nn : Int) + 1 := by omega
  clear c0 c1 c2 c3 c4 c5 c6 c7 c8 c9 c10 e0 e1 e2 e3 e4 e5 e6 e7 e8 e9 e10 hw2 rowz HS hmk
  go_wp2_with fail
  have y1' : (w2.setCell ⟨w1.heap.size, 0, none⟩ (.slice (some ⟨ga, 0, none⟩) N N)).cell? ⟨w1.heap.size, 1, none⟩ = some (.slice none 0 0) := (row2.set 0 _).cell (i := 1) (by omega)
  have row3 := outF_push (X := fun _ => ⟨some ⟨ga, 0, none⟩, N, N, some ⟨gb, 0, none⟩, N, N⟩) (outF_zero row2) ⟨some ⟨ga, 0, none⟩, N, N, some ⟨gb, 0, none⟩, N, N⟩
  have st3 : StIn ((w2.setCell ⟨w1.heap.size, 0, none⟩ (.slice (some ⟨ga, 0, none⟩) N N)).setCell ⟨w1.heap.size, 1, none⟩ (.slice (some ⟨gb, 0, none⟩) N N)) w.heap.size w1.heap.size N 0 (fun j => if j = 0 then ⟨some ⟨ga, 0, none⟩, N, N, some ⟨gb, 0, none⟩, N, N⟩ else ⟨some ⟨ga, 0, none⟩, N, N, some ⟨gb, 0, none⟩, N, N⟩) DW DM := ⟨fun j hj => by
    obtain rfl : j = 0 := by omega
    exact ⟨ga, N, gb, N, rfl, by omega, by omega, by omega, by omega, hgn, ⟨HNM.out, HNM.out⟩, (l1.setOther (a := ⟨w1.heap.size, 0, none⟩) (show ga ≠ w1.heap.size by omega) _).setOther (a := ⟨w1.heap.size, 1, none⟩) (show ga ≠ w1.heap.size by omega) _, (l2.setOther (a := ⟨w1.heap.size, 0, none⟩) (show gb ≠ w1.heap.size by omega) _).setOther (a := ⟨w1.heap.size, 1, none⟩) (show gb ≠ w1.heap.size by omega) _⟩, fun i j h1 h2 => by omega⟩
  have T3 : Below w1.heap.size w1 ((w2.setCell ⟨w1.heap.size, 0, none⟩ (.slice (some ⟨ga, 0, none⟩) N N)).setCell ⟨w1.heap.size, 1, none⟩ (.slice (some ⟨gb, 0, none⟩) N N)) := (T2.setCell (Nat.le_refl _) _).setCell (Nat.le_refl _) _
  go_loopw [33] (fun v wr => ∃ (k : Nat) (Y : Nat → Exm), k ≤ nn ∧ v = .int .i64 k ∧ wr.rowIs w1.heap.size 28 ((nn + 1) * 2) (outF Y (k + 1)) ∧ StIn wr w.heap.size w1.heap.size N k Y DW DM ∧ Below w1.heap.size w1 wr) (fun v _ => nn - (intOf v).toNat)
  case atStart => exact ⟨0, _, Nat.zero_le _, rfl, row3, st3, T3⟩
  case round =>
    clear row3 st3 T3 y0 y1 y1' x0 x1 l1 l2 row2 T2 hga hgb hgs hgn
    obtain ⟨k, Y, hk, rfl, row, hst, hbel⟩ := hrel
    by_cases hlt : k < nn
    · have cells := outF_at row (show k < k + 1 by omega) (by omega)
      obtain ⟨g1, xk, g2, xt, hxk, _, _, _, _, _, _, ar1, ar2⟩ := hst.1 k (Nat.le_refl _)
      rw [hxk] at cells
      dsimp only at cells
      have lI := ar1.lst
      have lO := ar2.lst
      rw [getD_self (HLN.out k).1] at lI
      rw [getD_self (HLN.out k).2] at lO
      clear ar1 ar2
      obtain ⟨u0, u1⟩ := cells
      obtain ⟨m, HM⟩ : ∃ m : Nat, Hid (m = k + 1) := ⟨_, rfl⟩
      have em : (k : Int) + 1 = (m : Int) := by rw [HM.out]; omega
      have ew : IntKind.i64.wrap (m : Int) = (m : Int) := wrap_in _ (by have := HM.out; omega) (by have := HM.out; omega)
      have m0 : (0 : Int) ≤ (m : Int) := by omega
      have m1 : (m : Int) < (nn : Int) + 1 := by have := HM.out; omega
      have k0 : (0 : Int) ≤ (k : Int) := by omega
      have k2 : (k : Int) < (nn : Int) + 1 := by omega
      have mk : m < nn + 1 := by have := HM.out; omega
      have KS : Hid (∀ q, Below wr.heap.size wr q → q.cell? ⟨w.heap.size, 0, none⟩ = some (.int .i64 I) ∧ q.cell? ⟨w.heap.size, 1, none⟩ = some (.int .i64 H) ∧ q.cell? ⟨w.heap.size, 2, none⟩ = some (.int .i64 O) ∧ q.cell? ⟨w.heap.size, 3, none⟩ = some (.int .u64 seed) ∧ q.cell? ⟨w.heap.size, 4, none⟩ = some (.int .i64 B) ∧ q.cell? ⟨w.heap.size, 5, none⟩ = some (.int .i64 steps) ∧ q.cell? ⟨w.heap.size, 6, none⟩ = some (.int .i64 crate) ∧ q.cell? ⟨w.heap.size, 7, none⟩ = some (.int .i64 decay) ∧ q.cell? ⟨w.heap.size, 8, none⟩ = some (.int .i64 how) ∧ q.cell? ⟨w.heap.size, 9, none⟩ = some (.int .i64 keep) ∧ q.cell? ⟨w.heap.size, 10, none⟩ = some (.int .i64 clip) ∧ q.cell? ⟨w1.heap.size, k * 2, none⟩ = some (.slice (some ⟨g1, 0, none⟩) N xk) ∧ q.cell? ⟨w1.heap.size, k * 2 + 1, none⟩ = some (.slice (some ⟨g2, 0, none⟩) N xt)) := fun q hq => by
        obtain ⟨x0, x1, x2, x3, x4, x5, x6, x7, x8, x9, x10⟩ := KB1.out q (hbel.trans (hq.mono hbel.size))
        exact ⟨x0, x1, x2, x3, x4, x5, x6, x7, x8, x9, x10, (hq.cell (p := ⟨w1.heap.size, k * 2, none⟩) row.lt).trans u0, (hq.cell (p := ⟨w1.heap.size, k * 2 + 1, none⟩) row.lt).trans u1⟩
      have bd : Below wr.heap.size wr wr.drew := below_drewN (Below.refl _ _) 1
      have S0 := KS.out _ bd
      have NX := HNX.out wr.drew k (some ⟨g1, 0, none⟩) xk (some ⟨g2, 0, none⟩) xt (hb1.trans ((hbel.trans (bd.mono hbel.size)).mono hb1.size)) (by omega) (lI.below bd (Nat.le_refl _)) (lO.below bd (Nat.le_refl _))
      have HNX2 : Hid (Calls Tryz.prog 104 #[.agg #[.int .i64 I, .int .i64 H, .int .i64 O, .int .u64 seed, .int .i64 B, .int .i64 steps, .int .i64 crate, .int .i64 decay, .int .i64 how, .int .i64 keep, .int .i64 clip], .slice a n cap, .agg #[.slice (some ⟨g1, 0, none⟩) N xk, .slice (some ⟨g2, 0, none⟩) N xt], .int .i64 k] wr.drew fun e w' => ∃ na d1 nb d2 bg R, e = .returned (.tuple #[.agg #[.slice (some ⟨na, 0, none⟩) N d1, .slice (some ⟨nb, 0, none⟩) N d2], .slice (some ⟨bg, 0, none⟩) B B, .int .i64 R]) ∧ wr.drew.heap.size ≤ na ∧ wr.drew.heap.size ≤ nb ∧ na ≠ nb ∧ (d1 ≤ maxLen ∧ d2 ≤ maxLen) ∧ Arr w' na d1 N (fun i => (DW (k + 1)).getD i 0) ∧ Arr w' nb d2 N (fun i => (DM (k + 1)).getD i 0) ∧ Below wr.drew.heap.size wr.drew w') := NX
      clear NX lI lO hxk
      go_wp2_with fail
      go_region_held3 (fun q => q.cell? ⟨w.heap.size, 0, none⟩ = some (.int .i64 I) ∧ q.cell? ⟨w.heap.size, 1, none⟩ = some (.int .i64 H) ∧ q.cell? ⟨w.heap.size, 2, none⟩ = some (.int .i64 O) ∧ q.cell? ⟨w.heap.size, 3, none⟩ = some (.int .u64 seed) ∧ q.cell? ⟨w.heap.size, 4, none⟩ = some (.int .i64 B) ∧ q.cell? ⟨w.heap.size, 5, none⟩ = some (.int .i64 steps) ∧ q.cell? ⟨w.heap.size, 6, none⟩ = some (.int .i64 crate) ∧ q.cell? ⟨w.heap.size, 7, none⟩ = some (.int .i64 decay) ∧ q.cell? ⟨w.heap.size, 8, none⟩ = some (.int .i64 how) ∧ q.cell? ⟨w.heap.size, 9, none⟩ = some (.int .i64 keep) ∧ q.cell? ⟨w.heap.size, 10, none⟩ = some (.int .i64 clip) ∧ q.cell? ⟨w1.heap.size, k * 2, none⟩ = some (.slice (some ⟨g1, 0, none⟩) N xk) ∧ q.cell? ⟨w1.heap.size, k * 2 + 1, none⟩ = some (.slice (some ⟨g2, 0, none⟩) N xt)) (first | with_reducible exact S0 | with_reducible exact S2 | with_reducible exact S1)
        (first | (go_at_call 104; refine HNX2.out.mono ?_; rintro e v1 ⟨na, d1, nb, d2, bg, R, rfl, q1d, q2d, q3, q4, lw, lm, hv1d⟩; have q1 : wr.heap.size ≤ na := q1d; have q2 : wr.heap.size ≤ nb := q2d; have hv1 := undrew hv1d; have S1 := KS.out _ hv1; have row1 := row.of_block (hv1.block _ row.lt); have o0 : v1.cell? ⟨w1.heap.size, m * 2, none⟩ = some (.slice none 0 0) := outF_new row1 (by have := HM.out; omega) (by omega); have o1 : v1.cell? ⟨w1.heap.size, m * 2 + 1, none⟩ = some (.slice none 0 0) := outF_new row1 (by have := HM.out; omega) (by omega); have p0 := row1.frozen (m * 2); have p1 := row1.frozen (m * 2 + 1); have rowm : v1.rowIs w1.heap.size 28 ((nn + 1) * 2) (outF Y m) := (by rw [HM.out]; exact row1); have row2 := outF_push rowm ⟨some ⟨na, 0, none⟩, N, d1, some ⟨nb, 0, none⟩, N, d2⟩; have o1' : (v1.setCell ⟨w1.heap.size, m * 2, none⟩ (.slice (some ⟨na, 0, none⟩) N d1)).cell? ⟨w1.heap.size, m * 2 + 1, none⟩ = some (.slice none 0 0) := (by have h := (rowm.set (m * 2) (.slice (some ⟨na, 0, none⟩) N d1)).cell (i := m * 2 + 1) (by omega); rw [if_neg (by omega)] at h; have h2 := o1; rw [rowm.cell (by omega)] at h2; exact h.trans h2); have p1' := (rowm.set (m * 2) (.slice (some ⟨na, 0, none⟩) N d1)).frozen (m * 2 + 1); have bel2 : Below w1.heap.size w1 ((v1.setCell ⟨w1.heap.size, m * 2, none⟩ (.slice (some ⟨na, 0, none⟩) N d1)).setCell ⟨w1.heap.size, m * 2 + 1, none⟩ (.slice (some ⟨nb, 0, none⟩) N d2)) := ((hbel.trans (hv1.mono hbel.size)).setCell (Nat.le_refl _) _).setCell (Nat.le_refl _) _; have S2 : (fun q : World => q.cell? ⟨w.heap.size, 0, none⟩ = some (.int .i64 I) ∧ q.cell? ⟨w.heap.size, 1, none⟩ = some (.int .i64 H) ∧ q.cell? ⟨w.heap.size, 2, none⟩ = some (.int .i64 O) ∧ q.cell? ⟨w.heap.size, 3, none⟩ = some (.int .u64 seed) ∧ q.cell? ⟨w.heap.size, 4, none⟩ = some (.int .i64 B) ∧ q.cell? ⟨w.heap.size, 5, none⟩ = some (.int .i64 steps) ∧ q.cell? ⟨w.heap.size, 6, none⟩ = some (.int .i64 crate) ∧ q.cell? ⟨w.heap.size, 7, none⟩ = some (.int .i64 decay) ∧ q.cell? ⟨w.heap.size, 8, none⟩ = some (.int .i64 how) ∧ q.cell? ⟨w.heap.size, 9, none⟩ = some (.int .i64 keep) ∧ q.cell? ⟨w.heap.size, 10, none⟩ = some (.int .i64 clip) ∧ q.cell? ⟨w1.heap.size, k * 2, none⟩ = some (.slice (some ⟨g1, 0, none⟩) N xk) ∧ q.cell? ⟨w1.heap.size, k * 2 + 1, none⟩ = some (.slice (some ⟨g2, 0, none⟩) N xt)) ((v1.setCell ⟨w1.heap.size, m * 2, none⟩ (.slice (some ⟨na, 0, none⟩) N d1)).setCell ⟨w1.heap.size, m * 2 + 1, none⟩ (.slice (some ⟨nb, 0, none⟩) N d2)) := (by obtain ⟨x0, x1, x2, x3, x4, x5, x6, x7, x8, x9, x10⟩ := KB1.out _ bel2; have hc := outF_at row2 (show k < m + 1 by have := HM.out; omega) (by omega); have hne : k ≠ m := (by have := HM.out; omega); have hk0 : w1.heap.size = w1.heap.size := rfl; exact ⟨x0, x1, x2, x3, x4, x5, x6, x7, x8, x9, x10, (World.cell?_setCell_other _ _ _ _ (by simp <;> omega)).trans ((World.cell?_setCell_other _ _ _ _ (by simp <;> omega)).trans S1.2.2.2.2.2.2.2.2.2.2.2.1), (World.cell?_setCell_other _ _ _ _ (by simp <;> omega)).trans ((World.cell?_setCell_other _ _ _ _ (by simp <;> omega)).trans S1.2.2.2.2.2.2.2.2.2.2.2.2)⟩); dsimp only at S2))
      have st2 := hst.below hv1
      have st4 := (st2.setO (m * 2) (.slice (some ⟨na, 0, none⟩) N d1)).setO (m * 2 + 1) (.slice (some ⟨nb, 0, none⟩) N d2)
      have hrl := row.lt
      have hble := hb1.size
      have lw4 := (lw.setOther (a := ⟨w1.heap.size, m * 2, none⟩) (show na ≠ w1.heap.size by omega) (.slice (some ⟨na, 0, none⟩) N d1)).setOther (a := ⟨w1.heap.size, m * 2 + 1, none⟩) (show na ≠ w1.heap.size by omega) (.slice (some ⟨nb, 0, none⟩) N d2)
      have lm4 := (lm.setOther (a := ⟨w1.heap.size, m * 2, none⟩) (show nb ≠ w1.heap.size by omega) (.slice (some ⟨na, 0, none⟩) N d1)).setOther (a := ⟨w1.heap.size, m * 2 + 1, none⟩) (show nb ≠ w1.heap.size by omega) (.slice (some ⟨nb, 0, none⟩) N d2)
      have st5 := st4.push (x := ⟨some ⟨na, 0, none⟩, N, d1, some ⟨nb, 0, none⟩, N, d2⟩) ⟨na, d1, nb, d2, rfl, by omega, by omega, by omega, by omega, q3, q4, lw4, lm4⟩ (fun t ht => (hst.1 t ht).apart q1 q2)
      rw [← HM.out] at st5
      clear S0 S1 S2 KS bd HNX2 o0 o1 o1' p0 p1 p1' u0 u1 st2 st4 lw lm lw4 lm4 hv1 hv1d row1 rowm hst hbel row
      go_wp2_with fail
      go_roundw
      case rel => exact ⟨m, _, by omega, by first | rfl | go_num, row2, st5, bel2⟩
      case measure => simp [intOf]; have := HM.out; omega
    · obtain rfl : k = nn := by omega
      go_wp2_with fail
      go_ret2
      exact ⟨w1.heap.size, Y, rfl, hb1.size, row, hst, hb1.trans (hbel.mono hb1.size)⟩

theorem tRun_good (I H O B : Nat) (seed crate decay how keep clip : Int) (hs : okW seed) (steps : Int) (hc : cfgB ⟨I, H, O, seed, B, steps, crate, decay, how, keep, clip⟩ = true) (N : Nat) (hN : N = H * I + H + O * H + O) (a : Option Addr) (n cap : Nat) (X : Nat → Exm) (DI DO : Nat → List Int) (nn : Nat) (w : World)
    (hx : Exs w a n cap X DI DO) (hn1 : 1 ≤ n) (hn2 : n ≤ 16) (hex : allEx ⟨I, H, O, seed, B, steps, crate, decay, how, keep, clip⟩ n X DI DO = true) (hnn : (nn : Int) ≤ steps) (HC : Hid (∀ q, Below w.heap.size w q → Calls Tryz.prog 54 #[Cfg.val ⟨I, H, O, seed, B, steps, crate, decay, how, keep, clip⟩, .slice a n cap] q fun e w' => e = .returned (.int .i64 0) ∧ Below q.heap.size q w')) :
    Calls Tryz.prog 48 #[Cfg.val ⟨I, H, O, seed, B, steps, crate, decay, how, keep, clip⟩, .slice a n cap, .int .i64 nn] w fun e w' => ∃ g Y, e = .returned (.tuple #[.slice (some ⟨g, 0, none⟩) (nn + 1) (nn + 1), .int .i64 0]) ∧ Exs w' (some ⟨g, 0, none⟩) (nn + 1) (nn + 1) Y (fun j => (stateP ⟨I, H, O, seed, B, steps, crate, decay, how, keep, clip⟩ n DI DO N j).1) (fun j => (stateP ⟨I, H, O, seed, B, steps, crate, decay, how, keep, clip⟩ n DI DO N j).2) ∧ Below w.heap.size w w' := by
  refine (tRun_own I H O B seed crate decay how keep clip hs steps hc N hN a n cap X DI DO nn w hx hn1 hn2 hex hnn HC).mono ?_
  rintro e w' ⟨g, Y, he, _, row, hst, hb⟩
  refine ⟨g, Y, he, ⟨Nat.le_refl _, .inr ⟨g, 0, rfl, row.lt, fun j hj => ?_⟩⟩, hb⟩
  have hcl := outF_at row hj (Nat.le_refl _)
  rw [Nat.zero_add]
  have hl := stateP_len ⟨I, H, O, seed, B, steps, crate, decay, how, keep, clip⟩ n DI DO N j
  exact ⟨hcl.1, hcl.2, (hst.1 j (by omega)).inEx hl.1 hl.2⟩
end Go.Proofs.YtimciamfgpdjlaaGreat.Fx

/- What train.Run returns, whatever is handed in. -/
namespace Go.Proofs.YtimciamfgpdjlaaGreat.Fx
open Go.RowKit

def runE (c : Cfg) (n : Nat) (X : Nat → Exm) (DI DO : Nat → List Int) (m : Int) : Int := if courseI c n X DI DO = 0 then (if inB m 0 c.steps = true then 0 else 1) else courseI c n X DI DO
def runN (c : Cfg) (n : Nat) (X : Nat → Exm) (DI DO : Nat → List Int) (m : Int) : Nat := if runE c n X DI DO m = 0 then m.toNat + 1 else 0
def stW (c : Cfg) (n : Nat) (DI DO : Nat → List Int) (j : Nat) : List Int := (stateP c n DI DO (sizeN c).toNat j).1
def stM (c : Cfg) (n : Nat) (DI DO : Nat → List Int) (j : Nat) : List Int := (stateP c n DI DO (sizeN c).toNat j).2
theorem Exs.nil (w : World) (a : Option Addr) (cap : Nat) (X : Nat → Exm) (DI DO : Nat → List Int) : Exs w a 0 cap X DI DO := ⟨Nat.zero_le _, .inl rfl⟩
def noEx (_ : Nat) : Exm := ⟨none, 0, 0, none, 0, 0⟩

set_option maxHeartbeats 800000 in
theorem tRun_c (c : Cfg) (a : Option Addr) (n cap : Nat) (m E : Int) (w : World) (hE : E ≠ 0) (HC : Hid (∀ q, Below w.heap.size w q → Calls Tryz.prog 54 #[c.val, .slice a n cap] q fun e w' => e = .returned (.int .i64 E) ∧ Below q.heap.size q w')) :
    Calls Tryz.prog 48 #[c.val, .slice a n cap, .int .i64 m] w fun e w' => e = .returned (.tuple #[.slice none 0 0, .int .i64 E]) ∧ Below w.heap.size w w' := by
  have hal := low_alloc w (.cells c.cells 24)
  have hne : (E != 0) = true := by rw [bne_iff_ne]; exact hE
  have CK := HC.out _ hal
  clear hE HC
  obtain ⟨i, h, o, seed, batch, steps, crate, decay, how, keep, clip⟩ := c
  simp only [Cfg.val, Cfg.cells] at *
  go_enter Tryz.func48, Tryz.ntmps48
  go_wp2_with fail
  refine CK.mono ?_
  rintro e w1 ⟨rfl, hw1⟩
  go_wp2_with fail
  go_ret2
  exact ⟨rfl, hal.trans (hw1.mono hal.size)⟩

set_option maxHeartbeats 800000 in
theorem tRun_r (c : Cfg) (a : Option Addr) (n cap : Nat) (m : Int) (w : World) (hm : inB m 0 c.steps = false) (HC : Hid (∀ q, Below w.heap.size w q → Calls Tryz.prog 54 #[c.val, .slice a n cap] q fun e w' => e = .returned (.int .i64 0) ∧ Below q.heap.size q w')) :
    Calls Tryz.prog 48 #[c.val, .slice a n cap, .int .i64 m] w fun e w' => e = .returned (.tuple #[.slice none 0 0, .int .i64 1]) ∧ Below w.heap.size w w' := by
  have hlow : ¬ (0 ≤ m ∧ m ≤ c.steps) := fun g => by rw [in_yes g] at hm; cases hm
  have hal := low_alloc w (.cells c.cells 24)
  have CK := HC.out _ hal
  have KB : Hid (∀ q, Below (w.alloc (.cells c.cells 24)).heap.size (w.alloc (.cells c.cells 24)) q → BoxC q w.heap.size c) := fun q hq => boxC hq (by simp)
  clear hm HC
  obtain ⟨i, h, o, seed, batch, steps, crate, decay, how, keep, clip⟩ := c
  simp only [Cfg.val, Cfg.cells] at *
  by_cases hn : m < 0
  · go_enter Tryz.func48, Tryz.ntmps48
    go_wp2_with fail
    refine CK.mono ?_
    rintro e w1 ⟨rfl, hw1⟩
    go_wp2_with fail
    go_ret2
    exact ⟨rfl, hal.trans (hw1.mono hal.size)⟩
  · have hge : steps < m := by omega
    go_enter Tryz.func48, Tryz.ntmps48
    go_wp2_with fail
    refine CK.mono ?_
    rintro e w1 ⟨rfl, hw1⟩
    have c5 := (KB.out _ hw1).c5
    dsimp only at c5
    go_wp2_with fail
    go_ret2
    exact ⟨rfl, hal.trans (hw1.mono hal.size)⟩

theorem tRun_calls (c : Cfg) (hs : okW c.seed) (a : Option Addr) (n cap : Nat) (X : Nat → Exm) (DI DO : Nat → List Int) (m : Int) (w : World) (hx : Exs w a n cap X DI DO) :
    Calls Tryz.prog 48 #[c.val, .slice a n cap, .int .i64 m] w fun e w' => ∃ b k Y, e = .returned (.tuple #[.slice b (runN c n X DI DO m) k, .int .i64 (runE c n X DI DO m)]) ∧ Exs w' b (runN c n X DI DO m) k Y (stW c n DI DO) (stM c n DI DO) ∧ Below w.heap.size w w' := by
  have HC : ∀ q, Below w.heap.size w q → Calls Tryz.prog 54 #[c.val, .slice a n cap] q fun e w' => e = .returned (.int .i64 (courseI c n X DI DO)) ∧ Below q.heap.size q w' := fun q hq => tcheck_calls c a n cap X DI DO q (hx.below hq (Nat.le_refl _))
  have bad : ∀ E : Int, E ≠ 0 → runE c n X DI DO m = E → Calls Tryz.prog 48 #[c.val, .slice a n cap, .int .i64 m] w (fun e w' => e = .returned (.tuple #[.slice none 0 0, .int .i64 E]) ∧ Below w.heap.size w w') →
      Calls Tryz.prog 48 #[c.val, .slice a n cap, .int .i64 m] w fun e w' => ∃ b k Y, e = .returned (.tuple #[.slice b (runN c n X DI DO m) k, .int .i64 (runE c n X DI DO m)]) ∧ Exs w' b (runN c n X DI DO m) k Y (stW c n DI DO) (stM c n DI DO) ∧ Below w.heap.size w w' := by
    intro E hE he hcall
    refine hcall.mono ?_
    rintro e w' ⟨rfl, hb⟩
    unfold runN
    rw [he, if_neg hE]
    exact ⟨none, 0, noEx, rfl, Exs.nil _ _ _ _ _ _, hb⟩
  by_cases hE : courseI c n X DI DO = 0
  · rw [hE] at HC
    obtain ⟨hc, hn1, hn2, hex⟩ := course_ok hE
    cases hm : inB m 0 c.steps with
    | false => exact bad 1 (by decide) (by unfold runE; rw [if_pos hE, hm]; rfl) (tRun_r c a n cap m w hm HC)
    | true =>
      have hz : runE c n X DI DO m = 0 := by unfold runE; rw [if_pos hE, hm]; rfl
      have hlow := in_is hm
      obtain ⟨M, hM⟩ := Int.eq_ofNat_of_zero_le hlow.1
      have hRN : runN c n X DI DO m = M + 1 := by unfold runN; rw [if_pos hz, hM]; rfl
      rw [hRN, hz]
      obtain ⟨⟨i1, i2⟩, ⟨h1, h2⟩, ⟨o1, o2⟩, ⟨b1, b2⟩, _⟩ := cfgB_is hc
      have hzn := sizeN_bd hc
      obtain ⟨N, hNz⟩ := Int.eq_ofNat_of_zero_le (show 0 ≤ sizeN c by omega)
      have hNt : (sizeN c).toNat = N := by rw [hNz]; rfl
      unfold stW stM
      rw [hNt]
      clear bad hRN hz hm
      subst hM
      obtain ⟨i, h, o, seed, batch, steps, crate, decay, how, keep, clip⟩ := c
      dsimp only at i1 i2 h1 h2 o1 o2 b1 b2 hs hlow
      obtain ⟨I, rfl⟩ := Int.eq_ofNat_of_zero_le (show 0 ≤ i by omega)
      obtain ⟨H, rfl⟩ := Int.eq_ofNat_of_zero_le (show 0 ≤ h by omega)
      obtain ⟨O, rfl⟩ := Int.eq_ofNat_of_zero_le (show 0 ≤ o by omega)
      obtain ⟨B, rfl⟩ := Int.eq_ofNat_of_zero_le (show 0 ≤ batch by omega)
      have hN : N = H * I + H + O * H + O := by have := hNz.symm; unfold sizeN at this; dsimp only at this; exact_mod_cast this
      refine (tRun_good I H O B seed crate decay how keep clip hs steps hc N hN a n cap X DI DO M w hx hn1 hn2 hex (by omega) HC).mono ?_
      rintro e w' ⟨g, Y, he, hY, hb⟩
      exact ⟨some ⟨g, 0, none⟩, M + 1, Y, he, hY, hb⟩
  · exact bad _ hE (by unfold runE; rw [if_neg hE]) (tRun_c c a n cap m _ w hE HC)
end Go.Proofs.YtimciamfgpdjlaaGreat.Fx

/- What package spot's Prove and Holds answer, in plain numbers, for every input; what a law may ask of them is said as a contract that is handed in. -/
namespace Go.Proofs.YtimciamfgpdjlaaGreat.Fx
open Go.RowKit

def prE (c : Cfg) (n : Nat) (X : Nat → Exm) (DI DO : Nat → List Int) (step : Int) : Int := if courseI c n X DI DO = 0 then (if inB step 0 (c.steps - 1) = true then 0 else 1) else courseI c n X DI DO
def prW (c : Cfg) (n : Nat) (X : Nat → Exm) (DI DO : Nat → List Int) (step : Int) : List Int := if prE c n X DI DO step = 0 then stW c n DI DO step.toNat else []
def prM (c : Cfg) (n : Nat) (X : Nat → Exm) (DI DO : Nat → List Int) (step : Int) : List Int := if prE c n X DI DO step = 0 then stM c n DI DO step.toNat else []
theorem prE_ok {c : Cfg} {n : Nat} {X : Nat → Exm} {DI DO : Nat → List Int} {step : Int} (h : prE c n X DI DO step = 0) : courseI c n X DI DO = 0 ∧ inB step 0 (c.steps - 1) = true := by
  unfold prE at h
  by_cases h1 : courseI c n X DI DO = 0
  · rw [if_pos h1] at h
    by_cases h2 : inB step 0 (c.steps - 1) = true
    · exact ⟨h1, h2⟩
    · rw [if_neg h2] at h; cases h
  · rw [if_neg h1] at h; exact absurd h h1
theorem prE_in {c : Cfg} {n : Nat} {X : Nat → Exm} {DI DO : Nat → List Int} {step : Int} (h1 : courseI c n X DI DO = 0) (h2 : inB step 0 (c.steps - 1) = true) : prE c n X DI DO step = 0 ∧ prW c n X DI DO step = stW c n DI DO step.toNat ∧ prM c n X DI DO step = stM c n DI DO step.toNat := by
  have h : prE c n X DI DO step = 0 := by unfold prE; rw [if_pos h1, if_pos h2]
  exact ⟨h, by unfold prW; rw [if_pos h], by unfold prM; rw [if_pos h]⟩
def hoB (c : Cfg) (n : Nat) (X : Nat → Exm) (DI DO : Nat → List Int) (n1 : Nat) (ws : List Int) (n2 : Nat) (ms : List Int) (step root : Int) (x : Rcm) (xs : List Int) : Bool :=
  if nextE c n X DI DO n1 ws n2 ms step = 0 then (decide (rootV n1 ws n2 ms = root % 2305843009213693951) && jgB c n X DI DO n1 ws n2 ms step x xs) else false

structure SpBox (w : World) (c : Cfg) (v0 v1 : Value) (x : Rcm) (wr : World) : Prop where
  cfg : BoxC wr w.heap.size c
  st : wr.rowIs (w.heap.size + 1) 28 2 (fn2 v0 v1)
  ra : wr.rowIs (w.heap.size + 1 + 1) 30 5 (fn5 (.int .i64 x.s) (.slice x.a x.n x.k) (.int .i64 x.r) (.int .u64 x.root) (.int .u64 x.chain))
  bel : Below w.heap.size w wr
theorem SpBox.start (w : World) (c : Cfg) (v0 v1 : Value) (x : Rcm) : SpBox w c v0 v1 x (((w.alloc (.cells c.cells 24)).alloc (.cells #[v0, v1] 28)).alloc (.cells x.cells 30)) := by
  refine ⟨?_, ?_, ?_, (((Below.refl w.heap.size w).alloc (Nat.le_refl _) _).alloc (by simp) _).alloc (by simp; omega) _⟩
  · exact boxC (B := w.heap.size + 1) (((Below.refl _ _).alloc (by simp) _).alloc (by simp) _) (by omega)
  · have h := (fn2_alloc (w.alloc (.cells c.cells 24)) v0 v1 28).alloc (.cells x.cells 30)
    simpa using h
  · have h := fn5_alloc ((w.alloc (.cells c.cells 24)).alloc (.cells #[v0, v1] 28)) (.int .i64 x.s) (.slice x.a x.n x.k) (.int .i64 x.r) (.int .u64 x.root) (.int .u64 x.chain) 30
    simpa [Rcm.cells] using h
theorem SpBox.below {w : World} {c : Cfg} {v0 v1 : Value} {x : Rcm} {wr w2 : World} (h : SpBox w c v0 v1 x wr) (hb : Below wr.heap.size wr w2) : SpBox w c v0 v1 x w2 := by
  have l2 := h.ra.lt
  have k : ∀ i, w2.cell? ⟨w.heap.size, i, none⟩ = wr.cell? ⟨w.heap.size, i, none⟩ := fun i => hb.cell (p := ⟨w.heap.size, i, none⟩) (by show w.heap.size < _; omega)
  exact ⟨⟨(k 0).trans h.cfg.c0, (k 1).trans h.cfg.c1, (k 2).trans h.cfg.c2, (k 3).trans h.cfg.c3, (k 4).trans h.cfg.c4, (k 5).trans h.cfg.c5, (k 6).trans h.cfg.c6, (k 7).trans h.cfg.c7, (k 8).trans h.cfg.c8, (k 9).trans h.cfg.c9, (k 10).trans h.cfg.c10⟩,
    h.st.of_block (hb.block _ (by omega)), h.ra.of_block (hb.block _ l2), h.bel.trans (hb.mono h.bel.size)⟩

/-- What spot.Prove is to answer. -/
def ProveSays : Prop := ∀ (c : Cfg), okW c.seed → ∀ (a : Option Addr) (n cap : Nat) (X : Nat → Exm) (DI DO : Nat → List Int) (step : Int) (w : World), Exs w a n cap X DI DO →
  Calls Tryz.prog 12 #[c.val, .slice a n cap, .int .i64 step] w fun e w' => ∃ b1 m1 d1 b2 m2 d2, e = .returned (.tuple #[.agg #[.slice b1 m1 d1, .slice b2 m2 d2], .int .i64 (prE c n X DI DO step)]) ∧ m1 ≤ 200 ∧ m2 ≤ 200 ∧ Lst w' b1 m1 d1 (prW c n X DI DO step) ∧ Lst w' b2 m2 d2 (prM c n X DI DO step) ∧ Below w.heap.size w w'

/-- What spot.Holds is to answer. -/
def HoldsSays : Prop := ∀ (c : Cfg), okW c.seed → ∀ (a : Option Addr) (n cap : Nat) (X : Nat → Exm) (DI DO : Nat → List Int) (a1 : Option Addr) (n1 k1 : Nat) (ws : List Int) (a2 : Option Addr) (n2 k2 : Nat) (ms : List Int) (step root : Int) (x : Rcm) (xs : List Int) (w : World), okW root → Exs w a n cap X DI DO → Lst w a1 n1 k1 ws → Lst w a2 n2 k2 ms → Lst w x.a x.n x.k xs → n1 + n2 ≤ 4611686018427387904 → x.n ≤ 9223372036854775807 →
  Calls Tryz.prog 18 #[c.val, .slice a n cap, .int .i64 step, .int .u64 root, .agg #[.slice a1 n1 k1, .slice a2 n2 k2], x.val] w fun e w' => e = .returned (.tuple #[.bool (hoB c n X DI DO n1 ws n2 ms step root x xs), .int .i64 (nextE c n X DI DO n1 ws n2 ms step)]) ∧ Below w.heap.size w w'

end Go.Proofs.YtimciamfgpdjlaaGreat.Fx

/- A step of the course, done again from the course's own state, has the journal's own record; no function of the program is spoken of. -/
namespace Go.Proofs.YtimciamfgpdjlaaGreat.Fx
open Go.RowKit

theorem own_next {c : Cfg} {n : Nat} {X : Nat → Exm} {DI DO : Nat → List Int} (h0 : courseI c n X DI DO = 0) {k : Nat} (hk : (k : Int) < c.steps) :
    nextE c n X DI DO (sizeN c).toNat (stW c n DI DO k) (sizeN c).toNat (stM c n DI DO k) k = 0 := by
  have hc := (course_ok h0).1
  have hz := sizeN_bd hc
  have hr := stateP_right c n DI DO (sizeN c).toNat k
  have hN : (((sizeN c).toNat : Nat) : Int) = sizeN c := by omega
  have f1 : fitB c (sizeN c).toNat (stW c n DI DO k) = true := by unfold fitB; rw [decide_eq_true hN, Bool.true_and]; exact hr.1
  have f2 : fitB c (sizeN c).toNat (stM c n DI DO k) = true := by unfold fitB; rw [decide_eq_true hN, Bool.true_and]; exact hr.2
  unfold nextE
  rw [if_pos h0, f1, f2, if_pos (show (true && true) = true from rfl), if_pos (in_yes ⟨by omega, by omega⟩)]
theorem own_like {c : Cfg} {n : Nat} {X : Nat → Exm} {DI DO : Nat → List Int} (h0 : courseI c n X DI DO = 0) {m : Nat} {R : Nat → Rcm} (hJ : JrN m R (mkRV c) (mkRO c n DI DO) (mkCH c n DI DO)) {k : Nat} (hm : k < m) (hk : (k : Int) < c.steps) (x : Rcm) (xs : List Int) :
    jgB c n X DI DO (sizeN c).toNat (stW c n DI DO k) (sizeN c).toNat (stM c n DI DO k) k x xs = likeB x (R k) xs (jrBatch c n k) := by
  have hz := own_next h0 hk
  have hc := (course_ok h0).1
  have hzn := sizeN_bd hc
  obtain ⟨e1, e2, e3, e4⟩ := hJ k hm
  have l1 := stateP_len c n DI DO (sizeN c).toNat (k + 1)
  have w1 : nxW c n X DI DO (sizeN c).toNat (stW c n DI DO k) (sizeN c).toNat (stM c n DI DO k) k = stW c n DI DO (k + 1) := by unfold nxW; rw [if_pos hz]; rfl
  have w2 : nxM c n X DI DO (sizeN c).toNat (stW c n DI DO k) (sizeN c).toNat (stM c n DI DO k) k = stM c n DI DO (k + 1) := by unfold nxM; rw [if_pos hz]; rfl
  have w3 : nxR c n X DI DO (sizeN c).toNat (stW c n DI DO k) (sizeN c).toNat (stM c n DI DO k) k = mkRV c k := by unfold nxR; rw [if_pos hz]; rfl
  have w4 : nxB c n X DI DO (sizeN c).toNat (stW c n DI DO k) (sizeN c).toNat (stM c n DI DO k) k = jrBatch c n k := by unfold nxB; rw [if_pos hz]; rfl
  have w5 : nxZ c n X DI DO (sizeN c).toNat (stW c n DI DO k) (sizeN c).toNat (stM c n DI DO k) k = mkRO c n DI DO k := by
    unfold nxZ
    rw [w1, w2]
    have e5 : rootE (stW c n DI DO (k + 1)).length (stM c n DI DO (k + 1)).length = 0 := by
      unfold rootE stW stM
      rw [l1.1, l1.2, if_neg (by omega), if_neg (by omega)]
    unfold rootV
    rw [if_pos e5]
    unfold mkRO jrRoot stW stM
    rw [l1.1, l1.2]
  unfold jgB likeB
  rw [w3, w4, w5, e1, e2, e3]
theorem likeB_refl (x : Rcm) (xs : List Int) : likeB x x xs xs = true := by
  unfold likeB
  rw [decide_eq_true rfl, decide_eq_true rfl, decide_eq_true rfl, decide_eq_true rfl]; rfl
/-- All ahead of the first that is not as it was made are the same. -/
theorem firstNo_ahead (f : Nat → Bool) : ∀ n j, j < firstNo f n → f j = true
  | 0, j, h => by unfold firstNo at h; omega
  | n + 1, j, h => by
    unfold firstNo at h
    by_cases h1 : firstNo f n < n
    · rw [if_pos h1] at h; exact firstNo_ahead f n j h
    · rw [if_neg h1] at h
      have hle := firstNo_le f n
      have hall : ∀ i, i < n → f i = true := fun i hi => firstNo_ahead f n i (by omega)
      by_cases h2 : f n = true
      · rw [if_pos h2] at h
        by_cases e : j = n
        · subst e; exact h2
        · exact hall j (by omega)
      · rw [if_neg h2] at h; exact hall j h
theorem firstNo_at (f : Nat → Bool) : ∀ n, firstNo f n < n → f (firstNo f n) = false
  | 0, h => by omega
  | n + 1, h => by
    unfold firstNo at h ⊢
    by_cases h1 : firstNo f n < n
    · rw [if_pos h1]; exact firstNo_at f n h1
    · rw [if_neg h1] at h ⊢
      by_cases h2 : f n = true
      · rw [if_pos h2] at h; omega
      · rw [if_neg h2]; simpa using h2
end Go.Proofs.YtimciamfgpdjlaaGreat.Fx

/- What TrainSays holds in memory on its way: the document's start, next state, record and states; no function of the program is spoken of. -/
namespace Go.Proofs.YtimciamfgpdjlaaGreat.Fx
open Go.RowKit

/-- A list does not lie in block b. -/
def FarB (a : Option Addr) (b : Nat) : Prop := ∀ bg o, a = some ⟨bg, o, none⟩ → bg ≠ b
theorem FarB.none (b : Nat) : FarB Option.none b := fun _ _ h => by cases h
theorem FarB.some {g b : Nat} (h : g ≠ b) {o : Nat} : FarB (Option.some ⟨g, o, Option.none⟩) b := fun bg o' e => by
  simp only [Option.some.injEq, Addr.mk.injEq, and_true] at e
  omega
theorem Lst.offB {w : World} {a : Option Addr} {n c : Nat} {xs : List Int} (h : Lst w a n c xs) {b : Nat} (hf : FarB a b) (i : Nat) (v : Value) : Lst (w.setCell ⟨b, i, none⟩ v) a n c xs := by
  rcases h.2.2 with h0 | ⟨g, off, rfl, hs, hc⟩
  · exact ⟨h.1, h.2.1, .inl h0⟩
  · exact h.setFar (a := ⟨b, i, none⟩) (hf g off rfl) v
theorem InEx.offB {w : World} {x : Exm} {I O : List Int} (h : InEx w x I O) {b : Nat} (h1 : FarB x.a b) (h2 : FarB x.b b) (i : Nat) (v : Value) : InEx (w.setCell ⟨b, i, none⟩ v) x I O := ⟨h.i.offB h1 i v, h.o.offB h2 i v⟩
theorem InEx.offS {w : World} {x : Exm} {I O : List Int} (h : InEx w x I O) {p : Addr} {u : Option Addr} {y z : Nat} (hp : w.cell? p = some (.slice u y z)) (v : Value) : InEx (w.setCell p v) x I O := ⟨h.i.setOff hp v, h.o.setOff hp v⟩

/-- Behind the start: it lies there; the next state and the record are empty yet. -/
structure Cut1M (w1 : World) (SW SM : List Int) (x0 : Exm) (q : World) : Prop where
  r0 : q.rowIs w1.heap.size 28 2 (fn2 (.slice x0.a x0.n x0.k) (.slice x0.b x0.m x0.t))
  l0 : InEx q x0 SW SM
  fa : FarB x0.a (w1.heap.size + 1 + 1)
  fb : FarB x0.b (w1.heap.size + 1 + 1)
  r1 : q.rowIs (w1.heap.size + 1) 28 2 (fn2 (.slice none 0 0) (.slice none 0 0))
  r2 : q.rowIs (w1.heap.size + 1 + 1) 30 5 (fn5 (.int .i64 0) (.slice none 0 0) (.int .i64 0) (.int .u64 0) (.int .u64 0))
  bel : Below w1.heap.size w1 q
theorem Cut1M.below {w1 : World} {SW SM : List Int} {x0 : Exm} {q q2 : World} (h : Cut1M w1 SW SM x0 q) (hb : Below q.heap.size q q2) : Cut1M w1 SW SM x0 q2 :=
  ⟨h.r0.of_block (hb.block _ h.r0.lt), h.l0.below hb (Nat.le_refl _), h.fa, h.fb, h.r1.of_block (hb.block _ h.r1.lt), h.r2.of_block (hb.block _ h.r2.lt), h.bel.trans (hb.mono h.bel.size)⟩

/-- Behind the switch: the start, the next state and the record lie there. -/
structure SwM (w1 : World) (SW SM NW NM NB : List Int) (NR : Int) (x0 x1 : Exm) (v0 : Value) (a3 : Option Addr) (m3 d3 : Nat) (v3 v4 : Value) (q : World) : Prop where
  r0 : q.rowIs w1.heap.size 28 2 (fn2 (.slice x0.a x0.n x0.k) (.slice x0.b x0.m x0.t))
  l0 : InEx q x0 SW SM
  r1 : q.rowIs (w1.heap.size + 1) 28 2 (fn2 (.slice x1.a x1.n x1.k) (.slice x1.b x1.m x1.t))
  l1 : InEx q x1 NW NM
  r2 : q.rowIs (w1.heap.size + 1 + 1) 30 5 (fn5 v0 (.slice a3 m3 d3) (.int .i64 NR) v3 v4)
  l2 : Lst q a3 m3 d3 NB
  bel : Below w1.heap.size w1 q
theorem SwM.below {w1 : World} {SW SM NW NM NB : List Int} {NR : Int} {x0 x1 : Exm} {v0 : Value} {a3 : Option Addr} {m3 d3 : Nat} {v3 v4 : Value} {q q2 : World} (h : SwM w1 SW SM NW NM NB NR x0 x1 v0 a3 m3 d3 v3 v4 q) (hb : Below q.heap.size q q2) : SwM w1 SW SM NW NM NB NR x0 x1 v0 a3 m3 d3 v3 v4 q2 :=
  ⟨h.r0.of_block (hb.block _ h.r0.lt), h.l0.below hb (Nat.le_refl _), h.r1.of_block (hb.block _ h.r1.lt), h.l1.below hb (Nat.le_refl _), h.r2.of_block (hb.block _ h.r2.lt), h.l2.below hb (Nat.le_refl _), h.bel.trans (hb.mono h.bel.size)⟩
def zeroX : Exm := ⟨none, 0, 0, none, 0, 0⟩
theorem Cut1M.sw {w1 : World} {SW SM : List Int} {x0 : Exm} {q : World} (h : Cut1M w1 SW SM x0 q) : SwM w1 SW SM [] [] [] 0 x0 zeroX (.int .i64 0) none 0 0 (.int .u64 0) (.int .u64 0) q :=
  ⟨h.r0, h.l0, h.r1, ⟨Lst.nil _ _ _, Lst.nil _ _ _⟩, h.r2, Lst.nil _ _ _, h.bel⟩
theorem Cut1M.put {w1 : World} {SW SM NW NM NB : List Int} {x0 x1 : Exm} {u : World} {a3 : Option Addr} {m3 d3 : Nat} (h : Cut1M w1 SW SM x0 u) (l1 : InEx u x1 NW NM) (l3 : Lst u a3 m3 d3 NB) (h1 : FarB x1.a (w1.heap.size + 1 + 1)) (h2 : FarB x1.b (w1.heap.size + 1 + 1)) (h3 : FarB a3 (w1.heap.size + 1 + 1)) (v0 v3 v4 : Value) (NR : Int) :
    SwM w1 SW SM NW NM NB NR x0 x1 v0 a3 m3 d3 v3 v4 (((((((u.setCell ⟨w1.heap.size + 1, 0, none⟩ (.slice x1.a x1.n x1.k)).setCell ⟨w1.heap.size + 1, 1, none⟩ (.slice x1.b x1.m x1.t)).setCell ⟨w1.heap.size + 1 + 1, 0, none⟩ v0).setCell ⟨w1.heap.size + 1 + 1, 1, none⟩ (.slice a3 m3 d3)).setCell ⟨w1.heap.size + 1 + 1, 2, none⟩ (.int .i64 NR)).setCell ⟨w1.heap.size + 1 + 1, 3, none⟩ v3).setCell ⟨w1.heap.size + 1 + 1, 4, none⟩ v4) := by
  have c0 := (fn2_cells h.r1).1
  have c1 : (u.setCell ⟨w1.heap.size + 1, 0, none⟩ (.slice x1.a x1.n x1.k)).cell? ⟨w1.heap.size + 1, 1, none⟩ = some (.slice none 0 0) := (h.r1.set 0 _).cell (i := 1) (by omega)
  have n0 : ∀ k, w1.heap.size ≠ (⟨w1.heap.size + 1, k, none⟩ : Addr).block := fun k => by show w1.heap.size ≠ w1.heap.size + 1; omega
  have n1 : ∀ k, w1.heap.size ≠ (⟨w1.heap.size + 1 + 1, k, none⟩ : Addr).block := fun k => by show w1.heap.size ≠ w1.heap.size + 1 + 1; omega
  have n2 : ∀ k, w1.heap.size + 1 ≠ (⟨w1.heap.size + 1 + 1, k, none⟩ : Addr).block := fun k => by show w1.heap.size + 1 ≠ w1.heap.size + 1 + 1; omega
  have n3 : ∀ k, w1.heap.size + 1 + 1 ≠ (⟨w1.heap.size + 1, k, none⟩ : Addr).block := fun k => by show w1.heap.size + 1 + 1 ≠ w1.heap.size + 1; omega
  refine ⟨?_, ?_, ?_, ?_, ?_, ?_, ?_⟩
  · exact ((((((h.r0.setOther (n0 0) _).setOther (n0 1) _).setOther (n1 0) _).setOther (n1 1) _).setOther (n1 2) _).setOther (n1 3) _).setOther (n1 4) _
  · exact ((((((h.l0.offS c0 _).offS c1 _).offB h.fa h.fb 0 _).offB h.fa h.fb 1 _).offB h.fa h.fb 2 _).offB h.fa h.fb 3 _).offB h.fa h.fb 4 _
  · exact (((((fn2_set h.r1 (.slice x1.a x1.n x1.k) (.slice x1.b x1.m x1.t)).setOther (n2 0) _).setOther (n2 1) _).setOther (n2 2) _).setOther (n2 3) _).setOther (n2 4) _
  · exact ((((((l1.offS c0 _).offS c1 _).offB h1 h2 0 _).offB h1 h2 1 _).offB h1 h2 2 _).offB h1 h2 3 _).offB h1 h2 4 _
  · exact fn5_set ((h.r2.setOther (n3 0) _).setOther (n3 1) _) v0 (.slice a3 m3 d3) (.int .i64 NR) v3 v4
  · exact ((((((l3.setOff c0 _).setOff c1 _).offB h3 0 _).offB h3 1 _).offB h3 2 _).offB h3 3 _).offB h3 4 _
  · exact below_set5 (below_set2 h.bel (show w1.heap.size ≤ w1.heap.size + 1 by omega) _ _) (show w1.heap.size ≤ w1.heap.size + 1 + 1 by omega) _ _ _ _ _
theorem Cut1M.start (w1 : World) : Cut1M w1 [] [] zeroX (((w1.alloc (.cells #[.slice none 0 0, .slice none 0 0] 28)).alloc (.cells #[.slice none 0 0, .slice none 0 0] 28)).alloc (.cells #[.int .i64 0, .slice none 0 0, .int .i64 0, .int .u64 0, .int .u64 0] 30)) := by
  refine ⟨((fn2_alloc w1 _ _ _).alloc _).alloc _, ⟨Lst.nil _ _ _, Lst.nil _ _ _⟩, FarB.none _, FarB.none _, ?_, ?_, (((Below.refl w1.heap.size w1).alloc (Nat.le_refl _) _).alloc (by simp) _).alloc (by simp; omega) _⟩
  · have h := (fn2_alloc (w1.alloc (.cells #[.slice none 0 0, .slice none 0 0] 28)) (.slice none 0 0) (.slice none 0 0) 28).alloc (.cells #[.int .i64 0, .slice none 0 0, .int .i64 0, .int .u64 0, .int .u64 0] 30)
    simpa using h
  · have h := fn5_alloc ((w1.alloc (.cells #[.slice none 0 0, .slice none 0 0] 28)).alloc (.cells #[.slice none 0 0, .slice none 0 0] 28)) (.int .i64 0) (.slice none 0 0) (.int .i64 0) (.int .u64 0) (.int .u64 0) 30
    simpa using h
theorem Cut1M.first {w1 u : World} (h : Cut1M w1 [] [] zeroX u) {SW SM : List Int} {x0 : Exm} (l : InEx u x0 SW SM) (h1 : FarB x0.a (w1.heap.size + 1 + 1)) (h2 : FarB x0.b (w1.heap.size + 1 + 1)) : Cut1M w1 SW SM x0 ((u.setCell ⟨w1.heap.size, 0, none⟩ (.slice x0.a x0.n x0.k)).setCell ⟨w1.heap.size, 1, none⟩ (.slice x0.b x0.m x0.t)) := by
  have c0 : u.cell? ⟨w1.heap.size, 0, none⟩ = some (.slice none 0 0) := (fn2_cells h.r0).1
  have c1 : (u.setCell ⟨w1.heap.size, 0, none⟩ (.slice x0.a x0.n x0.k)).cell? ⟨w1.heap.size, 1, none⟩ = some (.slice none 0 0) := (h.r0.set 0 _).cell (i := 1) (by omega)
  refine ⟨fn2_set h.r0 _ _, (l.offS c0 _).offS c1 _, h1, h2, ?_, ?_, (h.bel.setCell (Nat.le_refl _) _).setCell (Nat.le_refl _) _⟩
  · exact (h.r1.setOther (a := ⟨w1.heap.size, 0, none⟩) (show w1.heap.size + 1 ≠ w1.heap.size by omega) _).setOther (a := ⟨w1.heap.size, 1, none⟩) (show w1.heap.size + 1 ≠ w1.heap.size by omega) _
  · exact (h.r2.setOther (a := ⟨w1.heap.size, 0, none⟩) (show w1.heap.size + 1 + 1 ≠ w1.heap.size by omega) _).setOther (a := ⟨w1.heap.size, 1, none⟩) (show w1.heap.size + 1 + 1 ≠ w1.heap.size by omega) _
end Go.Proofs.YtimciamfgpdjlaaGreat.Fx

/- The cells of a list of records, written one after another; lists of numbers lie apart from them. No function of the program is spoken of. -/
namespace Go.Proofs.YtimciamfgpdjlaaGreat.Fx
open Go.RowKit

/-- The cells of a record. -/
def recC (x : Rcm) (t : Nat) : Value := fn5 (.int .i64 x.s) (.slice x.a x.n x.k) (.int .i64 x.r) (.int .u64 x.root) (.int .u64 x.chain) t
def zeroRc : Rcm := ⟨0, none, 0, 0, 0, 0, 0⟩
/-- The cells of a list of records, of which the first K are R's. -/
def rcsR (R : Nat → Rcm) (K i : Nat) : Value := if i < K * 5 then recC (R (i / 5)) (i % 5) else recC zeroRc (i % 5)
theorem made5 (w : World) (z0 z1 z2 z3 z4 : Value) (m : Nat) (t : TypeId) : (w.alloc (.cells (madeCells #[z0, z1, z2, z3, z4] m) t)).rowIs w.heap.size t m (fun i => fn5 z0 z1 z2 z3 z4 (i % 5)) := by
  refine ⟨_, Go.Deep.blk_alloc_new _ _, size_madeCells _ _, fun i hi => ?_⟩
  rcases lt5 (Nat.mod_lt i (show 0 < 5 by omega)) with h | h | h | h | h <;> simp [madeCells, hi, h, fn5]
theorem rcsR_zero {w : World} {b t n : Nat} {R : Nat → Rcm} (h : w.rowIs b t n (fun i => fn5 (.int .i64 0) (.slice none 0 0) (.int .i64 0) (.int .u64 0) (.int .u64 0) (i % 5))) : w.rowIs b t n (rcsR R 0) := h.congr (fun i _ => by unfold rcsR; rw [if_neg (by omega)]; rfl)
theorem rcsR_cell {w : World} {b t n K j : Nat} {R : Nat → Rcm} (h : w.rowIs b t n (rcsR R K)) (hj : j < K) (hn : K * 5 ≤ n) {i : Nat} (hi : i < 5) : w.cell? ⟨b, j * 5 + i, none⟩ = some (recC (R j) i) := by
  rw [h.cell (by omega)]
  unfold rcsR
  rw [if_pos (by omega), show (j * 5 + i) / 5 = j by omega, show (j * 5 + i) % 5 = i by omega]
theorem rcsR_new {w : World} {b t n K j : Nat} {R : Nat → Rcm} (h : w.rowIs b t n (rcsR R K)) (hj : K ≤ j) (hn : j * 5 + 5 ≤ n) {i : Nat} (hi : i < 5) : w.cell? ⟨b, j * 5 + i, none⟩ = some (recC zeroRc i) := by
  rw [h.cell (by omega)]
  unfold rcsR
  rw [if_neg (by omega), show (j * 5 + i) % 5 = i by omega]
theorem rcsR_push {w : World} {b t n K : Nat} {R R2 : Nat → Rcm} (h : w.rowIs b t n (rcsR R K)) (x : Rcm) (h2 : R2 K = x) (h3 : ∀ j, j < K → R2 j = R j) :
    (((((w.setCell ⟨b, K * 5, none⟩ (.int .i64 x.s)).setCell ⟨b, K * 5 + 1, none⟩ (.slice x.a x.n x.k)).setCell ⟨b, K * 5 + 2, none⟩ (.int .i64 x.r)).setCell ⟨b, K * 5 + 3, none⟩ (.int .u64 x.root)).setCell ⟨b, K * 5 + 4, none⟩ (.int .u64 x.chain)).rowIs b t n (rcsR R2 (K + 1)) := by
  refine (((((h.set _ _).set _ _).set _ _).set _ _).set _ _).congr (fun i hi => ?_)
  have e5 : i = K * 5 + 4 ∨ i = K * 5 + 3 ∨ i = K * 5 + 2 ∨ i = K * 5 + 1 ∨ i = K * 5 ∨ i < K * 5 ∨ K * 5 + 5 ≤ i := by omega
  unfold rcsR
  rcases e5 with e | e | e | e | e | e | e
  · rw [if_pos e, if_pos (by omega), show i / 5 = K by omega, show i % 5 = 4 by omega, h2]; rfl
  · rw [if_neg (by omega), if_pos e, if_pos (by omega), show i / 5 = K by omega, show i % 5 = 3 by omega, h2]; rfl
  · rw [if_neg (by omega), if_neg (by omega), if_pos e, if_pos (by omega), show i / 5 = K by omega, show i % 5 = 2 by omega, h2]; rfl
  · rw [if_neg (by omega), if_neg (by omega), if_neg (by omega), if_pos e, if_pos (by omega), show i / 5 = K by omega, show i % 5 = 1 by omega, h2]; rfl
  · rw [if_neg (by omega), if_neg (by omega), if_neg (by omega), if_neg (by omega), if_pos e, if_pos (by omega), show i / 5 = K by omega, show i % 5 = 0 by omega, h2]; rfl
  · rw [if_neg (by omega), if_neg (by omega), if_neg (by omega), if_neg (by omega), if_neg (by omega), if_pos e, if_pos (by omega), h3 (i / 5) (by omega)]
  · rw [if_neg (by omega), if_neg (by omega), if_neg (by omega), if_neg (by omega), if_neg (by omega), if_neg (by omega), if_neg (by omega)]
theorem recC_int {x : Rcm} {t : Nat} {y : Int} (h : recC x t = .int .i64 y) (ht : t < 5) : t = 0 ∨ t = 2 := by
  rcases lt5 ht with rfl | rfl | rfl | rfl | rfl
  · exact .inl rfl
  · cases h
  · exact .inr rfl
  · cases h
  · cases h
theorem row_lt {w : World} {b t n i : Nat} {f : Nat → Value} {v : Value} (h : w.rowIs b t n f) (hc : w.cell? ⟨b, i, none⟩ = some v) : i < n ∧ f i = v := by
  by_cases hi : i < n
  · rw [h.cell hi] at hc
    exact ⟨hi, by simpa using hc⟩
  · obtain ⟨cs, hb, hsz, _⟩ := h
    simp only [World.cell?, hb] at hc
    rw [Array.getElem?_eq_none (by omega)] at hc
    cases hc
/-- A list of two numbers and more does not lie among cells of which no two in a row are numbers. -/
theorem Lst.apart {w : World} {b t n len c : Nat} {f : Nat → Value} {a : Option Addr} {xs : List Int} (hl : Lst w a len c xs) (h2 : 2 ≤ len) (h : w.rowIs b t n f) (hf : ∀ i x y, f i = .int .i64 x → f (i + 1) = .int .i64 y → False) : FarB a b := fun bg o e hb => by
  obtain ⟨b', off, e', hs, hc⟩ := hl.at (by omega)
  rw [e] at e'
  simp only [Option.some.injEq, Addr.mk.injEq, and_true] at e'
  obtain ⟨rfl, rfl⟩ := e'
  subst hb
  exact hf _ _ _ (row_lt h (hc 0 (by omega))).2 (row_lt h (hc 1 (by omega))).2
theorem recC_apart (x : Rcm) (i : Nat) (hi : i + 1 < 5) (u v : Int) (h1 : recC x i = .int .i64 u) (h2 : recC x (i + 1) = .int .i64 v) : False := by
  have := recC_int h1 (by omega)
  have := recC_int h2 hi
  omega
theorem rcsR_apart (R : Nat → Rcm) (K i : Nat) (u v : Int) (h1 : rcsR R K i = .int .i64 u) (h2 : rcsR R K (i + 1) = .int .i64 v) : False := by
  have k : ∀ j w, rcsR R K j = .int .i64 w → j % 5 = 0 ∨ j % 5 = 2 := fun j w h => by
    unfold rcsR at h
    by_cases e : j < K * 5
    · rw [if_pos e] at h; exact recC_int h (Nat.mod_lt _ (by omega))
    · rw [if_neg e] at h; exact recC_int h (Nat.mod_lt _ (by omega))
  have := k _ _ h1
  have := k _ _ h2
  omega
theorem Lst.apart5 {w : World} {b t len c : Nat} {x : Rcm} {a : Option Addr} {xs : List Int} (hl : Lst w a len c xs) (h2 : 2 ≤ len) (h : w.rowIs b t 5 (recC x)) : FarB a b := fun bg o e hb => by
  obtain ⟨b', off, e', hs, hc⟩ := hl.at (by omega)
  rw [e] at e'
  simp only [Option.some.injEq, Addr.mk.injEq, and_true] at e'
  obtain ⟨rfl, rfl⟩ := e'
  subst hb
  have k1 := row_lt h (hc 0 (by omega))
  have k2 := row_lt h (hc 1 (by omega))
  exact recC_apart x o k2.1 _ _ k1.2 k2.2

theorem infoR : (Tryz.prog.info? 30).map (fun i => (i.zero, i.size, i.bytes)) = some (some (.agg #[.int .i64 0, .slice none 0 0, .int .i64 0, .int .u64 0, .int .u64 0]), 5, 56) := by kernel_rfl
theorem Arr.offS {w : World} {b c n : Nat} {f : Nat → Int} (h : Arr w b c n f) {p : Addr} {x : Option Addr} {y z : Nat} (hp : w.cell? p = some (.slice x y z)) (u : Value) : Arr (w.setCell p u) b c n f := by
  by_cases e : b = p.block
  · obtain ⟨hc, F, hr, hf⟩ := h
    obtain ⟨pb, po, ps⟩ := p
    have hs : ps = none := by simpa using World.cell?_spot hp
    subst hs
    dsimp only at e
    subst e
    refine ⟨hc, _, hr.set po u, fun i hi => ?_⟩
    have hne : i ≠ po := fun e2 => by
      subst e2
      rw [hr.cell (by omega), hf i hi] at hp
      cases hp
    simp only [if_neg hne]
    exact hf i hi
  · exact h.setOther e u

/-- The batches of records that were made: each lies in a block of its own, apart from the records. -/
def JrIn (w : World) (OB base B k : Nat) (R : Nat → Rcm) (DG : Nat → Nat → Int) : Prop := ∀ j, j < k → (R j).n = B ∧ (R j).k = B ∧ ∃ bg, (R j).a = some ⟨bg, 0, none⟩ ∧ base ≤ bg ∧ bg ≠ OB ∧ Arr w bg B B (DG j)
theorem JrIn.below {w w' : World} {OB base B k : Nat} {R : Nat → Rcm} {DG : Nat → Nat → Int} (h : JrIn w OB base B k R DG) (hb : Below w.heap.size w w') : JrIn w' OB base B k R DG := fun j hj => by
  obtain ⟨h1, h2, bg, h3, h4, h5, hl⟩ := h j hj
  exact ⟨h1, h2, bg, h3, h4, h5, hl.below hb⟩
theorem JrIn.setS {w : World} {OB base B k : Nat} {R : Nat → Rcm} {DG : Nat → Nat → Int} (h : JrIn w OB base B k R DG) {p : Addr} {x : Option Addr} {y z : Nat} (hp : w.cell? p = some (.slice x y z)) (u : Value) : JrIn (w.setCell p u) OB base B k R DG := fun j hj => by
  obtain ⟨h1, h2, bg, h3, h4, h5, hl⟩ := h j hj
  exact ⟨h1, h2, bg, h3, h4, h5, hl.offS hp u⟩
theorem JrIn.setO {w : World} {OB base B k : Nat} {R : Nat → Rcm} {DG : Nat → Nat → Int} (h : JrIn w OB base B k R DG) (i : Nat) (u : Value) : JrIn (w.setCell ⟨OB, i, none⟩ u) OB base B k R DG := fun j hj => by
  obtain ⟨h1, h2, bg, h3, h4, h5, hl⟩ := h j hj
  exact ⟨h1, h2, bg, h3, h4, h5, hl.setOther (a := ⟨OB, i, none⟩) h5 u⟩
/-- None of them lies in that block. -/
def JrNo (k b : Nat) (R : Nat → Rcm) : Prop := ∀ j, j < k → FarB (R j).a b
theorem JrIn.no {w : World} {OB base B k : Nat} {R : Nat → Rcm} {DG : Nat → Nat → Int} (h : JrIn w OB base B k R DG) {b : Nat} (hb : w.heap.size ≤ b) : JrNo k b R := fun j hj => by
  obtain ⟨h1, h2, bg, h3, h4, h5, hl⟩ := h j hj
  have := hl.lt
  rw [h3]
  exact FarB.some (by omega)
theorem JrIn.setN {w : World} {OB base B k : Nat} {R : Nat → Rcm} {DG : Nat → Nat → Int} (h : JrIn w OB base B k R DG) {b : Nat} (hb : JrNo k b R) (i : Nat) (u : Value) : JrIn (w.setCell ⟨b, i, none⟩ u) OB base B k R DG := fun j hj => by
  obtain ⟨h1, h2, bg, h3, h4, h5, hl⟩ := h j hj
  have := hb j hj
  rw [h3] at this
  exact ⟨h1, h2, bg, h3, h4, h5, hl.setOther (a := ⟨b, i, none⟩) (this bg 0 rfl) u⟩
theorem JrIn.push {w : World} {OB base B k : Nat} {R R2 : Nat → Rcm} {DG : Nat → Nat → Int} (h : JrIn w OB base B k R DG) (hR : ∀ j, j < k → R2 j = R j) {s r root chain : Int} {bg : Nat} (h2 : R2 k = ⟨s, some ⟨bg, 0, none⟩, B, B, r, root, chain⟩) (h4 : base ≤ bg) (h5 : bg ≠ OB) (hl : Arr w bg B B (DG k)) : JrIn w OB base B (k + 1) R2 DG := fun j hj => by
  by_cases e : j = k
  · subst e; rw [h2]; exact ⟨rfl, rfl, bg, rfl, h4, h5, hl⟩
  · rw [hR j (by omega)]; exact h j (by omega)
end Go.Proofs.YtimciamfgpdjlaaGreat.Fx

/- A list of records that the program itself makes by append: what is known of it, and what one append more leaves. -/
namespace Go.Proofs.YtimciamfgpdjlaaGreat.Fx
open Go.RowKit

def rcCells (R : Nat → Rcm) : Nat → List Value
  | 0 => []
  | n + 1 => rcCells R n ++ [.int .i64 (R n).s, .slice (R n).a (R n).n (R n).k, .int .i64 (R n).r, .int .u64 (R n).root, .int .u64 (R n).chain]
theorem rcCells_len (R : Nat → Rcm) (n : Nat) : (rcCells R n).length = n * 5 := by
  induction n with
  | zero => rfl
  | succ k ih => simp [rcCells, ih]; omega
theorem rcCells_congr {X Y : Nat → Rcm} {n : Nat} (h : ∀ i, i < n → X i = Y i) : rcCells X n = rcCells Y n := by
  induction n with
  | zero => rfl
  | succ k ih => simp only [rcCells]; rw [ih (fun i hi => h i (by omega)), h k (by omega)]
theorem rcCells_at (R : Nat → Rcm) {n i : Nat} (h : i < n) : (rcCells R n)[i * 5]? = some (.int .i64 (R i).s) ∧ (rcCells R n)[i * 5 + 1]? = some (.slice (R i).a (R i).n (R i).k) ∧ (rcCells R n)[i * 5 + 2]? = some (.int .i64 (R i).r) ∧ (rcCells R n)[i * 5 + 3]? = some (.int .u64 (R i).root) ∧ (rcCells R n)[i * 5 + 4]? = some (.int .u64 (R i).chain) := by
  induction n with
  | zero => omega
  | succ k ih =>
    have hl := rcCells_len R k
    simp only [rcCells]
    by_cases e : i = k
    · subst e
      rw [List.getElem?_append_right (by omega), List.getElem?_append_right (by omega), List.getElem?_append_right (by omega), List.getElem?_append_right (by omega), List.getElem?_append_right (by omega), hl]
      simp
    · have g := ih (by omega)
      rw [List.getElem?_append_left (by omega), List.getElem?_append_left (by omega), List.getElem?_append_left (by omega), List.getElem?_append_left (by omega), List.getElem?_append_left (by omega)]
      exact g
/-- The slice value v, made from block number base on, owns the records R. -/
def OwnR (base : Nat) (w : World) (v : Value) (n : Nat) (R : Nat → Rcm) : Prop := w.ownsRow base 30 5 v n (rcCells R n)
theorem OwnR.nil (base : Nat) (w : World) (R : Nat → Rcm) : OwnR base w (.slice none 0 0) 0 R := World.ownsRow_nil _ _ _ _
theorem OwnR.below {base : Nat} {w w' : World} {v : Value} {n : Nat} {R : Nat → Rcm} (h : OwnR base w v n R) (hb : Below w.heap.size w w') : OwnR base w' v n R := by
  refine ⟨h.1, ?_⟩
  rcases h.2 with h0 | ⟨g, cap, cur, hv, hg, hh, r⟩
  · exact .inl h0
  · exact .inr ⟨g, cap, cur, hv, hg, by rw [hb.block g (Array.getElem?_eq_some_iff.1 hh).1]; exact hh, r⟩
theorem OwnR.congr {base : Nat} {w : World} {v : Value} {n : Nat} {X Y : Nat → Rcm} (h : OwnR base w v n X) (e : ∀ i, i < n → X i = Y i) : OwnR base w v n Y := by
  unfold OwnR at *
  rw [← rcCells_congr e]
  exact h
theorem OwnR.blk {base : Nat} {w : World} {v : Value} {n : Nat} {R : Nat → Rcm} (h : OwnR base w v n R) : v.ownBlock = none ∨ ∃ g, v.ownBlock = some g ∧ base ≤ g ∧ g < w.heap.size := by
  rcases h.2 with ⟨rfl, _⟩ | ⟨g, cap, cur, rfl, hg, hh, _⟩
  · exact .inl rfl
  · exact .inr ⟨g, rfl, hg, (Array.getElem?_eq_some_iff.1 hh).1⟩
theorem OwnR.recs {base : Nat} {w : World} {v : Value} {n : Nat} {R : Nat → Rcm} {D : Nat → List Int} (h : OwnR base w v n R) (hin : ∀ i, i < n → Lst w (R i).a (R i).n (R i).k (D i)) : ∃ a c, v = .slice a n c ∧ Recs w a n c R D := by
  obtain ⟨hl, h2⟩ := h
  rcases h2 with ⟨rfl, rfl⟩ | ⟨g, cap, cur, rfl, _, hh, hle, _, hsz, hcur⟩
  · exact ⟨none, 0, rfl, Recs.nil _ _ _ _ _⟩
  · refine ⟨_, cap, rfl, hle, .inr ⟨g, 0, rfl, (Array.getElem?_eq_some_iff.1 hh).1, fun i hi => ?_⟩⟩
    have hc : ∀ j, j < n * 5 → w.cell? ⟨g, j, none⟩ = (rcCells R n)[j]? := fun j hj => by
      rw [← hcur, List.getElem?_take_of_lt hj]
      simp [World.cell?, hh]
    have g2 := rcCells_at R hi
    simp only [Nat.zero_add]
    exact ⟨(hc _ (by omega)).trans g2.1, (hc _ (by omega)).trans g2.2.1, (hc _ (by omega)).trans g2.2.2.1, (hc _ (by omega)).trans g2.2.2.2.1, (hc _ (by omega)).trans g2.2.2.2.2, hin i hi⟩


section
variable {w' W0 : World} {ops : Array Oper} {o : Oper} {a : Act} {Q : Exit → Act → World → Prop}
theorem run_append_rc (ty : TypeId) (base : Nat) (v : Value) (n : Nat) (R : Nat → Rcm) (g : Nat) (hown : OwnR base w' v n R) (hrow : w'.rowIs g 30 5 (fn5 (.int .i64 (R n).s) (.slice (R n).a (R n).n (R n).k) (.int .i64 (R n).r) (.int .u64 (R n).root) (.int .u64 (R n).chain))) (hn : (n + 1) * 56 ≤ 140737488355328) (hbase : base ≤ w'.heap.size) :
    ∃ v' w1, (Builtin.append_ #[49, 49] ty #[v, .slice (some ⟨g, 0, none⟩) 1 1]).run Tryz.prog w' = .ok v' w1 ∧ OwnR base w1 v' (n + 1) R ∧ w'.grownBy w1 v.ownBlock ∧ (v'.ownBlock = v.ownBlock ∨ v'.ownBlock = some w'.heap.size) := by
  obtain ⟨i0, hi, hz0, hz1, hz2⟩ := info_parts infoR
  obtain ⟨b0, b1, b2, b3, b4⟩ := fn5_box hrow
  obtain ⟨v', w1, hrun, h1, h2, _, h3⟩ := run_append_own_at (P := Tryz.prog) w' base 49 ty 30 i0 (.agg #[.int .i64 0, .slice none 0 0, .int .i64 0, .int .u64 0, .int .u64 0]) 5 56 Tryz.underlying49 hi hz0 hz1 hz2 rfl (by decide) v n _ hown ⟨g, 0, none⟩ 1 1 [.int .i64 (R n).s, .slice (R n).a (R n).n (R n).k, .int .i64 (R n).r, .int .u64 (R n).root, .int .u64 (R n).chain] rfl
    (by intro j u hj
        match j, hj with
        | 0, hj => simp at hj; subst hj; simpa [Addr.add] using b0
        | 1, hj => simp at hj; subst hj; simpa [Addr.add] using b1
        | 2, hj => simp at hj; subst hj; simpa [Addr.add] using b2
        | 3, hj => simp at hj; subst hj; simpa [Addr.add] using b3
        | 4, hj => simp at hj; subst hj; simpa [Addr.add] using b4)
    (by intro u hu
        simp at hu
        rcases hu with rfl | rfl | rfl | rfl | rfl <;> rfl) (by unfold maxLen; omega) hn hbase
  exact ⟨v', w1, hrun, h1, h2, h3⟩

theorem wpList_append_rc {rest : List Oper} (hgd : o.guard = none) (s x : Operand) (ho : o.op = .call { callee := .builtin .append, args := #[s, x], argTypes := #[49, 49] })
    (base : Nat) (v : Value) (n : Nat) (R : Nat → Rcm) (g : Nat) (hs : a.eval s = v) (hx : a.eval x = .slice (some ⟨g, 0, none⟩) 1 1) (hown : OwnR base w' v n R) (hrow : w'.rowIs g 30 5 (fn5 (.int .i64 (R n).s) (.slice (R n).a (R n).n (R n).k) (.int .i64 (R n).r) (.int .u64 (R n).root) (.int .u64 (R n).chain))) (hn : (n + 1) * 56 ≤ 140737488355328) (hbase : base ≤ w'.heap.size)
    (h : ∀ v' w1, OwnR base w1 v' (n + 1) R → w'.grownBy w1 v.ownBlock → (v'.ownBlock = v.ownBlock ∨ v'.ownBlock = some w'.heap.size) → wpList Tryz.prog ops Q rest (a.put o.dst v') w1) : wpList Tryz.prog ops Q (o :: rest) a w' := by
  obtain ⟨v', w1, hrun, h1, h2, h3⟩ := run_append_rc o.type base v n R g hown hrow hn hbase
  refine wpList_plain hgd fun K hK => ?_
  unfold Oper.wp
  simp [execOp, ho, resolve, invoke, builtin, hs, hx, hrun, Result.andThen]
  exact hK _ _ (h v' w1 h1 h2 h3)
end

end Go.Proofs.YtimciamfgpdjlaaGreat.Fx

/- A list of words as a literal, the first numbers of a list, and what a head is a digest of: no function of the program is spoken of. -/
namespace Go.Proofs.YtimciamfgpdjlaaGreat.Fx
open Go.RowKit

theorem OwnW.lit (w : World) (xs : List Int) (hm : xs.length ≤ 1000) : OwnW w.heap.size (w.alloc (.cells (xs.map (Value.int .u64)).toArray 22)) (.slice (some ⟨w.heap.size, 0, none⟩) xs.length xs.length) xs :=
  ⟨by simp, .inr ⟨w.heap.size, xs.length, _, rfl, Nat.le_refl _, Go.Deep.blk_alloc_new _ _, Nat.le_refl _, by unfold maxLen; omega, by simp, by simp; exact List.take_of_length_le (by simp)⟩⟩
theorem OwnW.mono {base b2 : Nat} {w : World} {v : Value} {xs : List Int} (h : OwnW base w v xs) (hb : b2 ≤ base) : OwnW b2 w v xs := by
  refine ⟨h.1, ?_⟩
  rcases h.2 with h0 | ⟨g, cap, cur, hv, hg, r⟩
  · exact .inl h0
  · exact .inr ⟨g, cap, cur, hv, by omega, r⟩
theorem take_snocI {xs : List Int} {t : Nat} {x : Int} (h : t < xs.length) (hx : xs.getD t 0 = x) : xs.take t ++ [x] = xs.take (t + 1) := by
  rw [List.take_succ_eq_append_getElem h]
  rw [List.getD_eq_getElem?_getD, List.getElem?_eq_getElem h, Option.getD_some] at hx
  rw [hx]

theorem rootP_W (ws ms : List Int) (n : Nat) : okW (rootP ws ms n) := okP_W (ofP_ok _ _)
def exRoot (DI DO : Nat → List Int) (j : Nat) : Int := rootP (DI j) (DO j) ((DI j).length + (DO j).length)
theorem headL_ok {c : Cfg} (hc : cfgB c = true) (hs : okW c.seed) (n : Nat) (DI DO : Nat → List Int) (N : Nat) : okL (headL c n DI DO N) := by
  obtain ⟨⟨i1, i2⟩, ⟨h1, h2⟩, ⟨o1, o2⟩, ⟨b1, b2⟩, ⟨s1, s2⟩, ⟨r1, r2⟩, ⟨d1, d2⟩, ⟨w1, w2⟩, ⟨k1, k2⟩, ⟨q1, q2⟩⟩ := cfgB_is hc
  unfold headL
  refine okL_app (okL_app ?_ ?_) ?_
  · intro i hi
    have h11 : i < 11 := by simpa using hi
    rcases (show i = 0 ∨ i = 1 ∨ i = 2 ∨ i = 3 ∨ i = 4 ∨ i = 5 ∨ i = 6 ∨ i = 7 ∨ i = 8 ∨ i = 9 ∨ i = 10 by omega) with rfl | rfl | rfl | rfl | rfl | rfl | rfl | rfl | rfl | rfl | rfl
    · exact ⟨by simp; omega, by simp; omega⟩
    · exact ⟨by simp; omega, by simp; omega⟩
    · exact ⟨by simp; omega, by simp; omega⟩
    · exact hs
    · exact ⟨by simp; omega, by simp; omega⟩
    · exact ⟨by simp; omega, by simp; omega⟩
    · exact ⟨by simp; omega, by simp; omega⟩
    · exact ⟨by simp; omega, by simp; omega⟩
    · exact ⟨by simp; omega, by simp; omega⟩
    · exact ⟨by simp; omega, by simp; omega⟩
    · exact ⟨by simp; omega, by simp; omega⟩
  · intro i hi
    have hi' : i < n := by simpa using hi
    rw [getD_range _ hi']
    exact rootP_W _ _ _
  · intro i hi
    obtain rfl : i = 0 := by simpa using hi
    exact rootP_W _ _ _
end Go.Proofs.YtimciamfgpdjlaaGreat.Fx
