/- What journal.records returns, of right things. -/
import Derived.Test.YtkikhfdkibekgaaGreatJ22
import Derived.Test.YtkikhfdkibekgaaGreatJ19
import Derived.Test.YtkikhfdkibekgaaGreatJ09
namespace Go.Proofs.YtkikhfdkibekgaaGreat.Fx
open Go.RowKit

theorem makeR (k : Nat) (hk : k ≤ 1000) (w : World) : (Instr.makeSlice 35 (.int .i64 (k : Int)) (.int .i64 (k : Int))).run Tryz.prog w = .ok (.slice (some ⟨w.heap.size, 0, none⟩) k k) (w.alloc (.cells (madeCells #[.int .i64 0, .slice none 0 0, .int .i64 0, .int .u64 0, .int .u64 0] (k * 5)) 30)) := by
  obtain ⟨i0, hi, hz0, hz1, hz2⟩ := info_parts infoR
  have h := run_make (P := Tryz.prog) w 35 30 i0 _ Tryz.underlying35 hi hz0 .i64 .i64 (k : Int) (k : Int) (by omega) (Int.le_refl _) (by rw [hz2]; omega) (by omega)
  rw [hz1, show (k : Int).toNat = k by omega] at h
  exact h
theorem below_at5 {Bd : Nat} {W q : World} {b : Nat} (h : Below Bd W q) (hb : Bd ≤ b) (i0 i1 i2 i3 i4 : Nat) (v0 v1 v2 v3 v4 : Value) :
    Below Bd W (((((q.setCell ⟨b, i0, none⟩ v0).setCell ⟨b, i1, none⟩ v1).setCell ⟨b, i2, none⟩ v2).setCell ⟨b, i3, none⟩ v3).setCell ⟨b, i4, none⟩ v4) :=
  ((((h.setCell hb v0).setCell hb v1).setCell hb v2).setCell hb v3).setCell hb v4
theorem JrIn.drew {w : World} {OB base B k : Nat} {R : Nat → Rcm} {DG : Nat → Nat → Int} (h : JrIn w OB base B k R DG) : JrIn w.drew OB base B k R DG := h.below (Below.drew (Below.refl _ _))

set_option maxRecDepth 100000 in
set_option maxHeartbeats 6400000 in
theorem jrecords_calls (I H O B : Nat) (seed crate decay how keep clip : Int) (hs : okW seed) (steps : Int) (hc : cfgB ⟨I, H, O, seed, B, steps, crate, decay, how, keep, clip⟩ = true) (N : Nat) (hN : N = H * I + H + O * H + O) (a : Option Addr) (n cap : Nat) (X : Nat → Exm) (DI DO : Nat → List Int) (nn : Nat) (w : World)
    (hx : Exs w a n cap X DI DO) (hn1 : 1 ≤ n) (hn2 : n ≤ 16) (hex : allEx ⟨I, H, O, seed, B, steps, crate, decay, how, keep, clip⟩ n X DI DO = true) (hnn : (nn : Int) ≤ steps) :
    Calls Tryz.prog 18 #[Cfg.val ⟨I, H, O, seed, B, steps, crate, decay, how, keep, clip⟩, .slice a n cap, .int .i64 nn] w fun e w' => ∃ g R, e = .returned (.slice (some ⟨g, 0, none⟩) nn nn) ∧ w.heap.size ≤ g ∧ w'.rowIs g 30 (nn * 5) (rcsR R nn) ∧ JrIn w' g w.heap.size B nn R (jrG ⟨I, H, O, seed, B, steps, crate, decay, how, keep, clip⟩ n) ∧ JrN nn R (fun j => rateV ⟨I, H, O, seed, B, steps, crate, decay, how, keep, clip⟩ j) (jrRoot ⟨I, H, O, seed, B, steps, crate, decay, how, keep, clip⟩ n DI DO N) (jrChain ⟨I, H, O, seed, B, steps, crate, decay, how, keep, clip⟩ n DI DO N) ∧ Below w.heap.size w w' := by
  obtain ⟨⟨i1, i2⟩, ⟨h1, h2⟩, ⟨p1, p2⟩, ⟨b1, b2⟩, ⟨s1, s2⟩, _⟩ := cfgB_is hc
  dsimp only at i1 i2 h1 h2 p1 p2 b1 b2 s1 s2
  have hN4 : 4 ≤ N ∧ N ≤ 40 := by
    have := prod_sideN (show H ≤ 4 by omega) (show I ≤ 4 by omega)
    have := prod_sideN (show O ≤ 4 by omega) (show H ≤ 4 by omega)
    have : 1 ≤ H * I := Nat.mul_pos (by omega) (by omega)
    have : 1 ≤ O * H := Nat.mul_pos (by omega) (by omega)
    omega
  obtain ⟨DW, HDW⟩ : ∃ f : Nat → List Int, Hid (∀ j, f j = (stateP ⟨I, H, O, seed, B, steps, crate, decay, how, keep, clip⟩ n DI DO N j).1) := ⟨_, fun _ => rfl⟩
  obtain ⟨DM, HDM⟩ : ∃ f : Nat → List Int, Hid (∀ j, f j = (stateP ⟨I, H, O, seed, B, steps, crate, decay, how, keep, clip⟩ n DI DO N j).2) := ⟨_, fun _ => rfl⟩
  obtain ⟨DB, HDB⟩ : ∃ f : Nat → List Int, Hid (jrBatch ⟨I, H, O, seed, B, steps, crate, decay, how, keep, clip⟩ n = f) := ⟨_, rfl⟩
  obtain ⟨DG, HDG⟩ : ∃ f : Nat → Nat → Int, Hid (jrG ⟨I, H, O, seed, B, steps, crate, decay, how, keep, clip⟩ n = f) := ⟨_, rfl⟩
  have HDL : Hid (∀ k, (List.range B).map (DG k) = DB k) := fun k => by rw [← HDG.out, ← HDB.out]; rfl
  obtain ⟨RV, HRV⟩ : ∃ f : Nat → Int, Hid ((fun j : Nat => rateV ⟨I, H, O, seed, B, steps, crate, decay, how, keep, clip⟩ j) = f) := ⟨_, rfl⟩
  obtain ⟨RO, HRO⟩ : ∃ f : Nat → Int, Hid (jrRoot ⟨I, H, O, seed, B, steps, crate, decay, how, keep, clip⟩ n DI DO N = f) := ⟨_, rfl⟩
  obtain ⟨CH, HCH⟩ : ∃ f : Nat → Int, Hid (jrChain ⟨I, H, O, seed, B, steps, crate, decay, how, keep, clip⟩ n DI DO N = f) := ⟨_, rfl⟩
  have HCS : Hid (∀ k : Nat, CH (k + 1) = chainP (CH k) (k : Int) (RV k) (RO k) (DB k)) := fun k => by rw [← HCH.out, ← HRV.out, ← HRO.out, ← HDB.out]; rfl
  have HC0 : Hid (headP ⟨I, H, O, seed, B, steps, crate, decay, how, keep, clip⟩ n DI DO N = CH 0) := by show headP ⟨I, H, O, seed, B, steps, crate, decay, how, keep, clip⟩ n DI DO N = CH 0; rw [← HCH.out]; rfl
  have HCW : Hid (∀ k, okW (CH k)) := fun k => by
    rw [← HCH.out]
    cases k with
    | zero => exact okP_W (ofP_ok _ _)
    | succ k => exact okP_W (ofP_ok _ _)
  have HRB : Hid (∀ k : Nat, (k : Int) ≤ steps - 1 → 0 ≤ RV k ∧ RV k ≤ 9223372036854775807) := fun k hk => by
    rw [← HRV.out]
    have := in_is (rateV_in hc k (by omega) hk)
    dsimp only
    exact ⟨this.1, by omega⟩
  have HDN : Hid (∀ k j, j < B → 0 ≤ (DB k).getD j 0 ∧ (DB k).getD j 0 ≤ 9223372036854775807) := fun k j hj => by
    rw [← HDB.out]
    obtain ⟨t, ht, e⟩ := batch_in seed B n (k * B) hn1 hj
    unfold jrBatch
    dsimp only
    rw [show ((B : Int).toNat) = B from rfl, e]
    omega
  rw [HDG.out, HRV.out, HRO.out, HCH.out]
  have hNI : (N : Int) = sizeN ⟨I, H, O, seed, B, steps, crate, decay, how, keep, clip⟩ := by unfold sizeN; dsimp only; rw [hN]; push_cast; rfl
  have hco : courseI ⟨I, H, O, seed, B, steps, crate, decay, how, keep, clip⟩ n X DI DO = 0 := by unfold courseI; rw [if_pos hc, if_neg (by omega), if_neg (by omega), if_pos hex]
  have HS : Hid (∀ q, Calls Tryz.prog 35 #[Cfg.val ⟨I, H, O, seed, B, steps, crate, decay, how, keep, clip⟩] q fun e w' => ∃ ga d1 gb d2, e = .returned (.tuple #[.agg #[.slice ga N d1, .slice gb N d2], .int .i64 0]) ∧ Lst w' ga N d1 (DW 0) ∧ Lst w' gb N d2 (DM 0) ∧ Below q.heap.size q w') := fun q => by
    rw [HDW.out, HDM.out]
    exact tStart_good ⟨I, H, O, seed, B, steps, crate, decay, how, keep, clip⟩ hc hs N hNI q
  have HHD : Hid (∀ q, Below w.heap.size w q → Calls Tryz.prog 34 #[Cfg.val ⟨I, H, O, seed, B, steps, crate, decay, how, keep, clip⟩, .slice a n cap] q fun e w' => e = .returned (.int .u64 (CH 0)) ∧ Below q.heap.size q w') := fun q hq => by
    have := jhead_calls ⟨I, H, O, seed, B, steps, crate, decay, how, keep, clip⟩ hc hs N hNI a n cap X DI DO q (hx.below hq (Nat.le_refl _)) hn2 hex
    rw [HC0.out] at this
    exact this
  have HNX : Hid (∀ (k : Nat), (k : Int) ≤ steps - 1 → ∀ (q : World) (x1 : Option Addr) (k1 : Nat) (x2 : Option Addr) (k2 : Nat), Below w.heap.size w q → Lst q x1 N k1 (DW k) → Lst q x2 N k2 (DM k) → Calls Tryz.prog 36 #[Cfg.val ⟨I, H, O, seed, B, steps, crate, decay, how, keep, clip⟩, .slice a n cap, .agg #[.slice x1 N k1, .slice x2 N k2], .int .i64 k] q fun e w' => ∃ ya d1 yb d2 bg, e = .returned (.tuple #[.agg #[.slice ya N d1, .slice yb N d2], .slice (some ⟨bg, 0, none⟩) B B, .int .i64 (RV k), .int .i64 0]) ∧ Lst w' ya N d1 (DW (k + 1)) ∧ Lst w' yb N d2 (DM (k + 1)) ∧ Arr w' bg B B (DG k) ∧ Below q.heap.size q w' ∧ q.heap.size ≤ bg) := fun k hk q x1 k1 x2 k2 hq l1 l2 => by
    have hr := stateP_right ⟨I, H, O, seed, B, steps, crate, decay, how, keep, clip⟩ n DI DO N k
    rw [← HDW.out, ← HDM.out] at hr
    have f1 : fitB ⟨I, H, O, seed, B, steps, crate, decay, how, keep, clip⟩ N (DW k) = true := by unfold fitB; rw [decide_eq_true hNI, hr.1]; rfl
    have f2 : fitB ⟨I, H, O, seed, B, steps, crate, decay, how, keep, clip⟩ N (DM k) = true := by unfold fitB; rw [decide_eq_true hNI, hr.2]; rfl
    have HC : Hid (∀ q', Below q.heap.size q q' → Calls Tryz.prog 17 #[Cfg.val ⟨I, H, O, seed, B, steps, crate, decay, how, keep, clip⟩, .slice a n cap] q' fun e w' => e = .returned (.int .i64 0) ∧ Below q'.heap.size q' w') := fun q' hq' => by
      have h := tcheck_calls ⟨I, H, O, seed, B, steps, crate, decay, how, keep, clip⟩ a n cap X DI DO q' ((hx.below hq (Nat.le_refl _)).below hq' (Nat.le_refl _))
      rw [hco] at h
      exact h
    refine (tNext_own ⟨I, H, O, seed, B, steps, crate, decay, how, keep, clip⟩ hc a n cap x1 N k1 (DW k) x2 N k2 (DM k) k q l1 l2 HC f1 f2 (in_yes ⟨by omega, hk⟩) B _ _ _ _ (fun q' hq' => tnext_own I H O B k seed crate decay how keep clip hs steps hc N hN a n cap X DI DO x1 k1 (DW k) x2 k2 (DM k) q' ((hx.below hq (Nat.le_refl _)).below hq' (Nat.le_refl _)) hn1 hn2 hex (l1.below hq' (Nat.le_refl _)) (l2.below hq' (Nat.le_refl _)) hr.1 hr.2 hk)).mono ?_
    rintro e w' ⟨y1, d1, y2, d2, bg, he, h⟩
    refine ⟨some ⟨y1, 0, none⟩, d1, some ⟨y2, 0, none⟩, d2, bg, ?_, ?_, ?_, ?_, h.bel, h.f3⟩
    · rw [he, ← HRV.out]
    · have lw := h.a1.lst
      rw [HDW.out (k + 1)]; rw [HDW.out, HDM.out] at lw; exact lw
    · have lm := h.a2.lst
      rw [HDM.out (k + 1)]; rw [HDW.out, HDM.out] at lm; exact lm
    · rw [← HDG.out]; exact h.a3
  have HRR : Hid (∀ (k : Nat) (q : World) (x1 : Option Addr) (k1 : Nat) (x2 : Option Addr) (k2 : Nat), Lst q x1 N k1 (DW (k + 1)) → Lst q x2 N k2 (DM (k + 1)) → Calls Tryz.prog 10 #[.agg #[.slice x1 N k1, .slice x2 N k2]] q fun e w' => e = .returned (.tuple #[.int .u64 (RO k), .int .i64 0]) ∧ Below q.heap.size q w') := fun k q x1 k1 x2 k2 l1 l2 => by
    have h := jroot_calls x1 N k1 (DW (k + 1)) x2 N k2 (DM (k + 1)) q l1 l2 (by omega)
    have hE : rootE N N = 0 := by unfold rootE; rw [if_neg (by omega), if_neg (by omega)]
    have hV : rootV N (DW (k + 1)) N (DM (k + 1)) = RO k := by unfold rootV; rw [if_pos hE, ← HRO.out, HDW.out, HDM.out]; rfl
    rw [hE, hV] at h
    exact h
  have HCN : Hid (∀ (k bg : Nat) (q : World), (k : Int) ≤ steps - 1 → Lst q (some ⟨bg, 0, none⟩) B B (DB k) → Calls Tryz.prog 37 #[.int .u64 (CH k), .agg #[.int .i64 k, .slice (some ⟨bg, 0, none⟩) B B, .int .i64 (RV k), .int .u64 (RO k), .int .u64 0]] q fun e w' => e = .returned (.int .u64 (CH (k + 1))) ∧ Below q.heap.size q w') := fun k bg q hk hl => by
    have hRO : okW (RO k) := by rw [← HRO.out]; exact rootP_W _ _ _
    have := jchain_calls (CH k) (HCW.out k) ⟨(k : Int), some ⟨bg, 0, none⟩, B, B, RV k, RO k, 0⟩ (DB k) q hl ⟨by show (0 : Int) ≤ (k : Int); omega, by show (k : Int) ≤ _; omega⟩ (HRB.out k hk) hRO (by show B ≤ 8; omega) (fun j hj => HDN.out k j hj)
    rw [HCS.out k]
    exact this
  have hal := low_alloc w (.cells (Cfg.cells ⟨I, H, O, seed, B, steps, crate, decay, how, keep, clip⟩) 24)
  obtain ⟨W, HW⟩ : ∃ q, Hid (q = w.alloc (.cells (Cfg.cells ⟨I, H, O, seed, B, steps, crate, decay, how, keep, clip⟩) 24)) := ⟨_, rfl⟩
  have KB : Hid (∀ q, Below W.heap.size W q → BoxC q w.heap.size ⟨I, H, O, seed, B, steps, crate, decay, how, keep, clip⟩) := fun q hq => by rw [HW.out] at hq; exact boxC hq (by simp)
  have hbW : Below w.heap.size w W := by rw [HW.out]; exact hal
  have hltW : w.heap.size < W.heap.size := by rw [HW.out]; simp
  have HWS : Hid (w.heap.size + 1 = W.heap.size) := by show _ = _; rw [HW.out]; simp
  have hmk := makeR nn (by omega)
  clear hx hex hc hN hNI hs HDW HDM HDB HDG HRV HRO HCH HCS HC0 HCW HRB HDN hal hco
  simp only [Cfg.val, Cfg.cells] at *
  have KS : Hid (∀ q, Below W.heap.size W q → q.cell? ⟨w.heap.size, 0, none⟩ = some (.int .i64 I) ∧ q.cell? ⟨w.heap.size, 1, none⟩ = some (.int .i64 H) ∧ q.cell? ⟨w.heap.size, 2, none⟩ = some (.int .i64 O) ∧ q.cell? ⟨w.heap.size, 3, none⟩ = some (.int .u64 seed) ∧ q.cell? ⟨w.heap.size, 4, none⟩ = some (.int .i64 B) ∧ q.cell? ⟨w.heap.size, 5, none⟩ = some (.int .i64 steps) ∧ q.cell? ⟨w.heap.size, 6, none⟩ = some (.int .i64 crate) ∧ q.cell? ⟨w.heap.size, 7, none⟩ = some (.int .i64 decay) ∧ q.cell? ⟨w.heap.size, 8, none⟩ = some (.int .i64 how) ∧ q.cell? ⟨w.heap.size, 9, none⟩ = some (.int .i64 keep) ∧ q.cell? ⟨w.heap.size, 10, none⟩ = some (.int .i64 clip)) := fun q hq => by
    obtain ⟨x0, x1, x2, x3, x4, x5, x6, x7, x8, x9, x10⟩ := KB.out q hq
    exact ⟨x0, x1, x2, x3, x4, x5, x6, x7, x8, x9, x10⟩
  clear KB
  have T0 : Below W.heap.size W (W.alloc (.cells (madeCells #[.int .i64 0, .slice none 0 0, .int .i64 0, .int .u64 0, .int .u64 0] (nn * 5)) 30)) := low_alloc W _
  have rowz := rcsR_zero (R := noRec) (made5 W (.int .i64 0) (.slice none 0 0) (.int .i64 0) (.int .u64 0) (.int .u64 0) (nn * 5) 30)
  obtain ⟨W1, HW1⟩ : ∃ q, Hid (q = W.alloc (.cells (madeCells #[.int .i64 0, .slice none 0 0, .int .i64 0, .int .u64 0, .int .u64 0] (nn * 5)) 30)) := ⟨_, rfl⟩
  rw [← HW1.out] at T0 rowz
  have HWS1 : Hid (W.heap.size + 1 = W1.heap.size) := by show _ = _; rw [HW1.out]; simp
  obtain ⟨c0, c1, c2, c3, c4, c5, c6, c7, c8, c9, c10⟩ := KS.out _ T0
  go_enter Tryz.func18, Tryz.ntmps18
  go_wp2_with fail
  rw [← HW.out]
  clear HW
  rw [← HW1.out, HWS.out]
  clear HW1 hmk
  go_wp2_with fail
  refine (HHD.out W1 (hbW.trans (T0.mono hbW.size))).mono ?_
  rintro e w2 ⟨rfl, hw2⟩
  have T2 := T0.trans (hw2.mono T0.size)
  have row2 := rowz.of_block (hw2.block _ rowz.lt)
  clear c0 c1 c2 c3 c4 c5 c6 c7 c8 c9 c10 rowz hw2 HHD
  obtain ⟨c0, c1, c2, c3, c4, c5, c6, c7, c8, c9, c10⟩ := KS.out _ T2
  go_wp2_with fail
  refine (HS.out w2).mono ?_
  rintro e w3 ⟨ga, d1, gb, d2, rfl, l1, l2, hw3⟩
  have T3 := T2.trans (hw3.mono T2.size)
  have row3 := row2.of_block (hw3.block _ row2.lt)
  clear c0 c1 c2 c3 c4 c5 c6 c7 c8 c9 c10 row2 hw3 HS T2 T0
  have hal4 := low_alloc w3 (.cells #[.slice ga N d1, .slice gb N d2] 28)
  have T4 := T3.trans (hal4.mono T3.size)
  have row4 := row3.alloc (.cells #[.slice ga N d1, .slice gb N d2] 28)
  have srow4 := fn2_alloc w3 (.slice ga N d1) (.slice gb N d2) 28
  have m1 := l1.below hal4 (Nat.le_refl _)
  have m2 := l2.below hal4 (Nat.le_refl _)
  have hWO : W.heap.size < w3.heap.size := row3.lt
  clear row3 T3 l1 l2 hal4
  go_wp2_with fail
  generalize w3.heap.size = SB at *
  generalize w3.alloc (.cells #[.slice ga N d1, .slice gb N d2] 28) = w4 at *
  generalize hOB : W.heap.size = OB at *
  go_loopw [8, 25] (fun cw t wr => ∃ (k : Nat) (xa : Option Addr) (e1 : Nat) (xb : Option Addr) (e2 : Nat) (R : Nat → Rcm), k ≤ nn ∧ t = .int .i64 k ∧ cw = .int .u64 (CH k) ∧ wr.rowIs OB 30 (nn * 5) (rcsR R k) ∧ JrIn wr OB w.heap.size B k R DG ∧ Hid (JrN k R RV RO CH) ∧ wr.rowIs SB 28 2 (fn2 (.slice xa N e1) (.slice xb N e2)) ∧ Lst wr xa N e1 (DW k) ∧ Lst wr xb N e2 (DM k) ∧ Below OB W wr) (fun _ t _ => nn - (intOf t).toNat)
  case atStart => exact ⟨0, ga, d1, gb, d2, noRec, Nat.zero_le _, rfl, rfl, row4, (fun j hj => by omega), (fun j hj => by omega), srow4, m1, m2, T4⟩
  case round =>
    clear row4 srow4 m1 m2 T4
    obtain ⟨k, xa, e1, xb, e2, R, hk, rfl, rfl, orow, hjr, hjn, srow, la, lb, hbel⟩ := hrel
    by_cases hlt : k < nn
    · have hst : (k : Int) ≤ steps - 1 := by omega
      have hSBl := srow.lt
      have hOBl := orow.lt
      have hw0 := low_alloc wr (.cells #[.int .i64 k, .slice none 0 0, .int .i64 0, .int .u64 0, .int .u64 0] 30)
      have bwa := hbel.trans (hw0.mono (by rw [← hOB]; exact hbel.size))
      have bww : Below w.heap.size w (wr.alloc (.cells #[.int .i64 k, .slice none 0 0, .int .i64 0, .int .u64 0, .int .u64 0] 30)) := hbW.trans (bwa.mono (by omega))
      have NX := HNX.out k hst (wr.alloc (.cells #[.int .i64 k, .slice none 0 0, .int .i64 0, .int .u64 0, .int .u64 0] 30)) xa e1 xb e2 bww (la.below hw0 (Nat.le_refl _)) (lb.below hw0 (Nat.le_refl _))
      have HNX2 : Hid (Calls Tryz.prog 36 #[.agg #[.int .i64 I, .int .i64 H, .int .i64 O, .int .u64 seed, .int .i64 B, .int .i64 steps, .int .i64 crate, .int .i64 decay, .int .i64 how, .int .i64 keep, .int .i64 clip], .slice a n cap, .agg #[.slice xa N e1, .slice xb N e2], .int .i64 k] (wr.alloc (.cells #[.int .i64 k, .slice none 0 0, .int .i64 0, .int .u64 0, .int .u64 0] 30)) fun e w' => ∃ ya d1 yb d2 bg, e = .returned (.tuple #[.agg #[.slice ya N d1, .slice yb N d2], .slice (some ⟨bg, 0, none⟩) B B, .int .i64 (RV k), .int .i64 0]) ∧ Lst w' ya N d1 (DW (k + 1)) ∧ Lst w' yb N d2 (DM (k + 1)) ∧ Arr w' bg B B (DG k) ∧ Below (wr.alloc (.cells #[.int .i64 k, .slice none 0 0, .int .i64 0, .int .u64 0, .int .u64 0] 30)).heap.size (wr.alloc (.cells #[.int .i64 k, .slice none 0 0, .int .i64 0, .int .u64 0, .int .u64 0] 30)) w' ∧ (wr.alloc (.cells #[.int .i64 k, .slice none 0 0, .int .i64 0, .int .u64 0, .int .u64 0] 30)).heap.size ≤ bg) := NX
      have rr0 : (wr.alloc (.cells #[.int .i64 k, .slice none 0 0, .int .i64 0, .int .u64 0, .int .u64 0] 30)).rowIs wr.heap.size 30 5 (recC ⟨k, none, 0, 0, 0, 0, 0⟩) := fn5_alloc wr (.int .i64 k) (.slice none 0 0) (.int .i64 0) (.int .u64 0) (.int .u64 0) 30
      obtain ⟨c0, c1, c2, c3, c4, c5, c6, c7, c8, c9, c10⟩ := KS.out _ bwa
      obtain ⟨s0, s1'⟩ := fn2_cells (srow.alloc (.cells #[.int .i64 k, .slice none 0 0, .int .i64 0, .int .u64 0, .int .u64 0] 30))
      clear NX
      go_wp2_with fail
      refine HNX2.out.mono ?_
      rintro e u1 ⟨ya, d1, yb, d2, bg, rfl, g1, g2, g3, hu1, hbg⟩
      simp only [World.size_alloc] at hbg
      have bu1 : Below wr.heap.size wr u1 := hw0.trans (hu1.mono hw0.size)
      clear c0 c1 c2 c3 c4 c5 c6 c7 c8 c9 c10 s0 s1' HNX2
      have srow1 := srow.of_block (bu1.block _ srow.lt)
      have orow1 := orow.of_block (bu1.block _ orow.lt)
      have rr1 := rr0.of_block (hu1.block _ rr0.lt)
      have hno := hjr.no (Nat.le_refl wr.heap.size)
      have hjr1 := hjr.below bu1
      obtain ⟨y0, y1⟩ := fn2_cells srow1
      have f0 := srow1.frozen 0
      have f1 := srow1.frozen 1
      have nSR : wr.heap.size ≠ SB := by omega
      have nOS : OB ≠ SB := by omega
      have nOR : OB ≠ wr.heap.size := by omega
      have nSR' : SB ≠ wr.heap.size := by omega
      have far1 := g1.apart5 (by omega) rr1
      have far2 := g2.apart5 (by omega) rr1
      have far3 : bg ≠ wr.heap.size := by omega
      have far4 : bg ≠ SB := by omega
      have faO1 := g1.apart (by omega) orow1 (fun i x y => rcsR_apart R k i x y)
      have faO2 := g2.apart (by omega) orow1 (fun i x y => rcsR_apart R k i x y)
      have rr2 := (rr1.setOther (a := ⟨SB, 0, none⟩) nSR (.slice ya N d1)).setOther (a := ⟨SB, 1, none⟩) nSR (.slice yb N d2)
      have t1 : ((u1.setCell ⟨SB, 0, none⟩ (.slice ya N d1)).setCell ⟨SB, 1, none⟩ (.slice yb N d2)).cell? ⟨wr.heap.size, 1, none⟩ = some (.slice none 0 0) := rr2.cell (i := 1) (by omega)
      have t2 : ((u1.setCell ⟨SB, 0, none⟩ (.slice ya N d1)).setCell ⟨SB, 1, none⟩ (.slice yb N d2)).cell? ⟨wr.heap.size, 2, none⟩ = some (.int .i64 0) := rr2.cell (i := 2) (by omega)
      have z1 := rr2.frozen 1
      have z2 := rr2.frozen 2
      have rr3 : ((((u1.setCell ⟨SB, 0, none⟩ (.slice ya N d1)).setCell ⟨SB, 1, none⟩ (.slice yb N d2)).setCell ⟨wr.heap.size, 1, none⟩ (.slice (some ⟨bg, 0, none⟩) B B)).setCell ⟨wr.heap.size, 2, none⟩ (.int .i64 (RV k))).rowIs wr.heap.size 30 5 (recC ⟨k, some ⟨bg, 0, none⟩, B, B, RV k, 0, 0⟩) := ((rr2.set 1 (.slice (some ⟨bg, 0, none⟩) B B)).set 2 (.int .i64 (RV k))).congr (fun t ht => by rcases lt5 ht with rfl | rfl | rfl | rfl | rfl <;> rfl)
      have t3 : (((u1.setCell ⟨SB, 0, none⟩ (.slice ya N d1)).setCell ⟨SB, 1, none⟩ (.slice yb N d2)).setCell ⟨wr.heap.size, 1, none⟩ (.slice (some ⟨bg, 0, none⟩) B B)).cell? ⟨wr.heap.size, 2, none⟩ = some (.int .i64 0) := (rr2.set 1 _).cell (i := 2) (by omega)
      have z3 := (rr2.set 1 (.slice (some ⟨bg, 0, none⟩) B B)).frozen 2
      have srow3 : ((((u1.setCell ⟨SB, 0, none⟩ (.slice ya N d1)).setCell ⟨SB, 1, none⟩ (.slice yb N d2)).setCell ⟨wr.heap.size, 1, none⟩ (.slice (some ⟨bg, 0, none⟩) B B)).setCell ⟨wr.heap.size, 2, none⟩ (.int .i64 (RV k))).rowIs SB 28 2 (fn2 (.slice ya N d1) (.slice yb N d2)) := ((fn2_set srow1 (.slice ya N d1) (.slice yb N d2)).setOther (a := ⟨wr.heap.size, 1, none⟩) nSR' _).setOther (a := ⟨wr.heap.size, 2, none⟩) nSR' _
      have orow3 : ((((u1.setCell ⟨SB, 0, none⟩ (.slice ya N d1)).setCell ⟨SB, 1, none⟩ (.slice yb N d2)).setCell ⟨wr.heap.size, 1, none⟩ (.slice (some ⟨bg, 0, none⟩) B B)).setCell ⟨wr.heap.size, 2, none⟩ (.int .i64 (RV k))).rowIs OB 30 (nn * 5) (rcsR R k) := (((orow1.setOther (a := ⟨SB, 0, none⟩) nOS _).setOther (a := ⟨SB, 1, none⟩) nOS _).setOther (a := ⟨wr.heap.size, 1, none⟩) nOR _).setOther (a := ⟨wr.heap.size, 2, none⟩) nOR _
      obtain ⟨q0, q1⟩ := fn2_cells srow3
      have y1' : (u1.setCell ⟨SB, 0, none⟩ (.slice ya N d1)).cell? ⟨SB, 1, none⟩ = some (.slice xb N e2) := (srow1.set 0 _).cell (i := 1) (by omega)
      have la3 : Lst ((((u1.setCell ⟨SB, 0, none⟩ (.slice ya N d1)).setCell ⟨SB, 1, none⟩ (.slice yb N d2)).setCell ⟨wr.heap.size, 1, none⟩ (.slice (some ⟨bg, 0, none⟩) B B)).setCell ⟨wr.heap.size, 2, none⟩ (.int .i64 (RV k))) ya N d1 (DW (k + 1)) := (((g1.setOff y0 _).setOff y1' _).offB far1 1 _).offB far1 2 _
      have lb3 : Lst ((((u1.setCell ⟨SB, 0, none⟩ (.slice ya N d1)).setCell ⟨SB, 1, none⟩ (.slice yb N d2)).setCell ⟨wr.heap.size, 1, none⟩ (.slice (some ⟨bg, 0, none⟩) B B)).setCell ⟨wr.heap.size, 2, none⟩ (.int .i64 (RV k))) yb N d2 (DM (k + 1)) := (((g2.setOff y0 _).setOff y1' _).offB far2 1 _).offB far2 2 _
      have lt3 : Arr ((((u1.setCell ⟨SB, 0, none⟩ (.slice ya N d1)).setCell ⟨SB, 1, none⟩ (.slice yb N d2)).setCell ⟨wr.heap.size, 1, none⟩ (.slice (some ⟨bg, 0, none⟩) B B)).setCell ⟨wr.heap.size, 2, none⟩ (.int .i64 (RV k))) bg B B (DG k) := (((g3.setOther (a := ⟨SB, 0, none⟩) far4 _).setOther (a := ⟨SB, 1, none⟩) far4 _).setOther (a := ⟨wr.heap.size, 1, none⟩) far3 _).setOther (a := ⟨wr.heap.size, 2, none⟩) far3 _
      have jr3 : JrIn ((((u1.setCell ⟨SB, 0, none⟩ (.slice ya N d1)).setCell ⟨SB, 1, none⟩ (.slice yb N d2)).setCell ⟨wr.heap.size, 1, none⟩ (.slice (some ⟨bg, 0, none⟩) B B)).setCell ⟨wr.heap.size, 2, none⟩ (.int .i64 (RV k))) OB w.heap.size B k R DG := (((hjr1.setS y0 _).setS y1' _).setN hno 1 _).setN hno 2 _
      have hOS : OB ≤ SB := by omega
      have hOR : OB ≤ wr.heap.size := by omega
      have bU2 : Below OB W ((((u1.setCell ⟨SB, 0, none⟩ (.slice ya N d1)).setCell ⟨SB, 1, none⟩ (.slice yb N d2)).setCell ⟨wr.heap.size, 1, none⟩ (.slice (some ⟨bg, 0, none⟩) B B)).setCell ⟨wr.heap.size, 2, none⟩ (.int .i64 (RV k))) := ((((hbel.trans (bu1.mono hOR)).setCell hOS _).setCell hOS _).setCell hOR _).setCell hOR _
      clear srow1 orow1 rr1 rr2 hjr1 g1 g2 g3 bu1 hu1 hw0 bwa bww srow orow rr0 la lb hjr y1'
      go_wp2_with fail
      generalize ((((u1.setCell ⟨SB, 0, none⟩ (.slice ya N d1)).setCell ⟨SB, 1, none⟩ (.slice yb N d2)).setCell ⟨wr.heap.size, 1, none⟩ (.slice (some ⟨bg, 0, none⟩) B B)).setCell ⟨wr.heap.size, 2, none⟩ (.int .i64 (RV k))) = u2 at *
      clear t1 t2 t3 z1 z2 z3 q0 q1 y0 y1 f0 f1
      refine (HRR.out k u2 ya d1 yb d2 la3 lb3).mono ?_
      rintro e u3 ⟨rfl, hu3⟩
      generalize hRB : wr.heap.size = RB at *
      have rr4 := rr3.of_block (hu3.block _ rr3.lt)
      have srow4 := srow3.of_block (hu3.block _ srow3.lt)
      have orow4 := orow3.of_block (hu3.block _ orow3.lt)
      have la4 := la3.below hu3 (Nat.le_refl _)
      have lb4 := lb3.below hu3 (Nat.le_refl _)
      have lt4 := lt3.below hu3
      have jr4 := jr3.below hu3
      have bU4 := bU2.trans (hu3.mono (by have := orow3.lt; omega))
      have c3 : u3.cell? ⟨RB, 3, none⟩ = some (.int .u64 0) := rr4.cell (i := 3) (by omega)
      have z3 := rr4.frozen 3
      have rr5 : (u3.setCell ⟨RB, 3, none⟩ (.int .u64 (RO k))).rowIs RB 30 5 (recC ⟨k, some ⟨bg, 0, none⟩, B, B, RV k, RO k, 0⟩) := (rr4.set 3 _).congr (fun t ht => by rcases lt5 ht with rfl | rfl | rfl | rfl | rfl <;> rfl)
      obtain ⟨x0, x1, x2, x3, x4⟩ := fn5_box rr5
      dsimp only at x0 x1 x2 x3 x4
      have srow5 := srow4.setOther (a := ⟨RB, 3, none⟩) nSR' (.int .u64 (RO k))
      have orow5 := orow4.setOther (a := ⟨RB, 3, none⟩) nOR (.int .u64 (RO k))
      have la5 := la4.offB far1 3 (.int .u64 (RO k))
      have lb5 := lb4.offB far2 3 (.int .u64 (RO k))
      have lt5' := lt4.setOther (a := ⟨RB, 3, none⟩) far3 (.int .u64 (RO k))
      have jr5 := jr4.setN hno 3 (.int .u64 (RO k))
      have bU5 : Below OB W (u3.setCell ⟨RB, 3, none⟩ (.int .u64 (RO k))) := bU4.setCell hOR _
      clear rr4 srow4 orow4 la4 lb4 lt4 jr4 bU4 rr3 srow3 orow3 la3 lb3 lt3 jr3 bU2 hu3
      go_wp2_with fail
      generalize u3.setCell ⟨RB, 3, none⟩ (.int .u64 (RO k)) = u4 at *
      clear x0 x1 x2 x3 x4 c3 z3
      refine (HCN.out k bg u4 hst (HDL.out k ▸ lt5'.lst)).mono ?_
      rintro e u5 ⟨rfl, hu5⟩
      have rr6 := rr5.of_block (hu5.block _ rr5.lt)
      have srow6 := srow5.of_block (hu5.block _ srow5.lt)
      have orow6 := orow5.of_block (hu5.block _ orow5.lt)
      have la6 := la5.below hu5 (Nat.le_refl _)
      have lb6 := lb5.below hu5 (Nat.le_refl _)
      have lt6 := lt5'.below hu5
      have jr6 := jr5.below hu5
      have bU6 := bU5.trans (hu5.mono (by have := orow5.lt; omega))
      have c4 : u5.cell? ⟨RB, 4, none⟩ = some (.int .u64 0) := rr6.cell (i := 4) (by omega)
      have z4 := rr6.frozen 4
      have rr7 : (u5.setCell ⟨RB, 4, none⟩ (.int .u64 (CH (k + 1)))).rowIs RB 30 5 (recC ⟨k, some ⟨bg, 0, none⟩, B, B, RV k, RO k, CH (k + 1)⟩) := (rr6.set 4 _).congr (fun t ht => by rcases lt5 ht with rfl | rfl | rfl | rfl | rfl <;> rfl)
      obtain ⟨x0, x1, x2, x3, x4⟩ := fn5_box rr7
      dsimp only at x0 x1 x2 x3 x4
      have srow7 := srow6.setOther (a := ⟨RB, 4, none⟩) nSR' (.int .u64 (CH (k + 1)))
      have orow7 := orow6.setOther (a := ⟨RB, 4, none⟩) nOR (.int .u64 (CH (k + 1)))
      have la7 := la6.offB far1 4 (.int .u64 (CH (k + 1)))
      have lb7 := lb6.offB far2 4 (.int .u64 (CH (k + 1)))
      have lt7 := lt6.setOther (a := ⟨RB, 4, none⟩) far3 (.int .u64 (CH (k + 1)))
      have jr7 := jr6.setN hno 4 (.int .u64 (CH (k + 1)))
      have bU7 : Below OB W (u5.setCell ⟨RB, 4, none⟩ (.int .u64 (CH (k + 1)))) := bU6.setCell hOR _
      clear rr6 srow6 orow6 la6 lb6 lt6 jr6 bU6 rr5 srow5 orow5 la5 lb5 lt5' jr5 bU5 hu5
      go_wp2_with fail
      generalize u5.setCell ⟨RB, 4, none⟩ (.int .u64 (CH (k + 1))) = u6 at *
      clear c4 z4
      have o0 : u6.cell? ⟨OB, k * 5, none⟩ = some (.int .i64 0) := rcsR_new orow7 (Nat.le_refl _) (by omega) (i := 0) (by omega)
      have o1 : u6.cell? ⟨OB, k * 5 + 1, none⟩ = some (.slice none 0 0) := rcsR_new orow7 (Nat.le_refl _) (by omega) (i := 1) (by omega)
      have o2 : u6.cell? ⟨OB, k * 5 + 2, none⟩ = some (.int .i64 0) := rcsR_new orow7 (Nat.le_refl _) (by omega) (i := 2) (by omega)
      have o3 : u6.cell? ⟨OB, k * 5 + 3, none⟩ = some (.int .u64 0) := rcsR_new orow7 (Nat.le_refl _) (by omega) (i := 3) (by omega)
      have o4 : u6.cell? ⟨OB, k * 5 + 4, none⟩ = some (.int .u64 0) := rcsR_new orow7 (Nat.le_refl _) (by omega) (i := 4) (by omega)
      have v0 := orow7.frozen (k * 5)
      have v1 := orow7.frozen (k * 5 + 1)
      have v2 := orow7.frozen (k * 5 + 2)
      have v3 := orow7.frozen (k * 5 + 3)
      have v4 := orow7.frozen (k * 5 + 4)
      obtain ⟨R2, HR2⟩ : ∃ R2 : Nat → Rcm, Hid (R2 k = ⟨(k : Int), some ⟨bg, 0, none⟩, B, B, RV k, RO k, CH (k + 1)⟩ ∧ ∀ j, j < k → R2 j = R j) := ⟨fun j => if j = k then ⟨(k : Int), some ⟨bg, 0, none⟩, B, B, RV k, RO k, CH (k + 1)⟩ else R j, by exact ⟨if_pos rfl, fun j hj => if_neg (by omega)⟩⟩
      have orow8 := rcsR_push orow7 ⟨(k : Int), some ⟨bg, 0, none⟩, B, B, RV k, RO k, CH (k + 1)⟩ HR2.out.1 HR2.out.2
      have srow8 := ((((srow7.setOther (a := ⟨OB, k * 5, none⟩) (Ne.symm nOS) (.int .i64 k)).setOther (a := ⟨OB, k * 5 + 1, none⟩) (Ne.symm nOS) (.slice (some ⟨bg, 0, none⟩) B B)).setOther (a := ⟨OB, k * 5 + 2, none⟩) (Ne.symm nOS) (.int .i64 (RV k))).setOther (a := ⟨OB, k * 5 + 3, none⟩) (Ne.symm nOS) (.int .u64 (RO k))).setOther (a := ⟨OB, k * 5 + 4, none⟩) (Ne.symm nOS) (.int .u64 (CH (k + 1)))
      have la8 := ((((la7.offB faO1 (k * 5) (.int .i64 k)).offB faO1 (k * 5 + 1) (.slice (some ⟨bg, 0, none⟩) B B)).offB faO1 (k * 5 + 2) (.int .i64 (RV k))).offB faO1 (k * 5 + 3) (.int .u64 (RO k))).offB faO1 (k * 5 + 4) (.int .u64 (CH (k + 1)))
      have lb8 := ((((lb7.offB faO2 (k * 5) (.int .i64 k)).offB faO2 (k * 5 + 1) (.slice (some ⟨bg, 0, none⟩) B B)).offB faO2 (k * 5 + 2) (.int .i64 (RV k))).offB faO2 (k * 5 + 3) (.int .u64 (RO k))).offB faO2 (k * 5 + 4) (.int .u64 (CH (k + 1)))
      have jr8 := (((((jr7.push HR2.out.2 HR2.out.1 (by have := hbW.size; omega) (by omega) lt7).setO (k * 5) (.int .i64 k)).setO (k * 5 + 1) (.slice (some ⟨bg, 0, none⟩) B B)).setO (k * 5 + 2) (.int .i64 (RV k))).setO (k * 5 + 3) (.int .u64 (RO k))).setO (k * 5 + 4) (.int .u64 (CH (k + 1)))
      have bU8 := below_at5 bU7 (Nat.le_refl OB) (k * 5) (k * 5 + 1) (k * 5 + 2) (k * 5 + 3) (k * 5 + 4) (.int .i64 k) (.slice (some ⟨bg, 0, none⟩) B B) (.int .i64 (RV k)) (.int .u64 (RO k)) (.int .u64 (CH (k + 1)))
      have HJN : Hid (JrN (k + 1) R2 RV RO CH) := hjn.out.push HR2.out.2 (by rw [HR2.out.1]) (by rw [HR2.out.1]) (by rw [HR2.out.1]) (by rw [HR2.out.1])
      have k0 : (0 : Int) ≤ (k : Int) := by omega
      have kn : (k : Int) < (nn : Int) := by omega
      clear hjn orow7 srow7 la7 lb7 lt7 jr7 bU7 rr7
      go_region
      go_wp2_with fail
      go_roundw
      case rel => exact ⟨k + 1, ya, d1, yb, d2, R2, by omega, by go_num, rfl, orow8.drew, jr8.drew, HJN, srow8.drew, la8.drew, lb8.drew, below_drewN bU8 1⟩
      case measure => simp [intOf]; omega
    · obtain rfl : k = nn := by omega
      go_wp2_with fail
      go_ret
      exact ⟨OB, R, rfl, by omega, orow, hjr, hjn.out, hbW.trans (hbel.mono (by omega))⟩
end Go.Proofs.YtkikhfdkibekgaaGreat.Fx

/- What journal.Make returns, whatever is handed in. -/
namespace Go.Proofs.YtkikhfdkibekgaaGreat.Fx
open Go.RowKit

/-- What is known of the records that Make tells: where they lie, and that each batch lies in a block of its own. -/
structure MadeR (w w' : World) (c : Cfg) (n : Nat) (DI DO : Nat → List Int) (b : Option Addr) (m k : Nat) (R : Nat → Rcm) : Prop where
  recs : Recs w' b m k R (jrBatch c n)
  says : JrN m R (mkRV c) (mkRO c n DI DO) (mkCH c n DI DO)
  len8 : ∀ j, j < m → (R j).n ≤ 8
  own : 0 < m → ∃ g, b = some ⟨g, 0, none⟩ ∧ k = m ∧ w.heap.size ≤ g ∧ w'.rowIs g 30 (m * 5) (rcsR R m) ∧ JrIn w' g w.heap.size c.batch.toNat m R (jrG c n)
  bel : Below w.heap.size w w'

theorem recs_of {w : World} {g base B m : Nat} {R : Nat → Rcm} {DG : Nat → Nat → Int} (h : w.rowIs g 30 (m * 5) (rcsR R m)) (hj : JrIn w g base B m R DG) : Recs w (some ⟨g, 0, none⟩) m m R (fun k => (List.range B).map (DG k)) := by
  refine ⟨Nat.le_refl _, .inr ⟨g, 0, rfl, h.lt, fun i hi => ?_⟩⟩
  obtain ⟨h1, h2, bg, h3, _, _, hl⟩ := hj i hi
  rw [Nat.zero_add]
  refine ⟨rcsR_cell h hi (Nat.le_refl _) (i := 0) (by omega), rcsR_cell h hi (Nat.le_refl _) (i := 1) (by omega), rcsR_cell h hi (Nat.le_refl _) (i := 2) (by omega), rcsR_cell h hi (Nat.le_refl _) (i := 3) (by omega), rcsR_cell h hi (Nat.le_refl _) (i := 4) (by omega), ?_⟩
  rw [h1, h2, h3]
  exact hl.lst

set_option maxRecDepth 100000 in
set_option maxHeartbeats 1600000 in
theorem jMake_good (c : Cfg) (a : Option Addr) (n cap : Nat) (X : Nat → Exm) (DI DO : Nat → List Int) (M : Nat) (w : World) (hs : okW c.seed) (hx : Exs w a n cap X DI DO) (h0 : courseI c n X DI DO = 0) (hm : (M : Int) ≤ c.steps) :
    Calls Tryz.prog 7 #[c.val, .slice a n cap, .int .i64 M] w fun e w' => ∃ g R, e = .returned (.tuple #[.slice (some ⟨g, 0, none⟩) M M, .int .i64 0]) ∧ w.heap.size ≤ g ∧ w'.rowIs g 30 (M * 5) (rcsR R M) ∧ JrIn w' g w.heap.size c.batch.toNat M R (jrG c n) ∧ JrN M R (mkRV c) (mkRO c n DI DO) (mkCH c n DI DO) ∧ Below w.heap.size w w' := by
  have hal := low_alloc w (.cells c.cells 24)
  have CK := tcheck_calls c a n cap X DI DO _ (hx.below hal (Nat.le_refl _))
  have KB : Hid (∀ q, Below (w.alloc (.cells c.cells 24)).heap.size (w.alloc (.cells c.cells 24)) q → BoxC q w.heap.size c) := fun q hq => boxC hq (by simp)
  rw [h0] at CK
  obtain ⟨hc, hn1, hn2, hex⟩ := course_ok h0
  have HRC : Hid (∀ q, Below w.heap.size w q → Calls Tryz.prog 18 #[c.val, .slice a n cap, .int .i64 M] q fun e w' => ∃ g R, e = .returned (.slice (some ⟨g, 0, none⟩) M M) ∧ w.heap.size ≤ g ∧ w'.rowIs g 30 (M * 5) (rcsR R M) ∧ JrIn w' g w.heap.size c.batch.toNat M R (jrG c n) ∧ JrN M R (mkRV c) (mkRO c n DI DO) (mkCH c n DI DO) ∧ Below q.heap.size q w') := fun q hq => by
    obtain ⟨⟨i1, i2⟩, ⟨h1, h2⟩, ⟨o1, o2⟩, ⟨b1, b2⟩, _⟩ := cfgB_is hc
    have hzn := sizeN_bd hc
    obtain ⟨N, hNz⟩ := Int.eq_ofNat_of_zero_le (show 0 ≤ sizeN c by omega)
    have hNt : (sizeN c).toNat = N := by rw [hNz]; rfl
    have HX := hx.below hq (Nat.le_refl _)
    have hle := hq.size
    clear CK KB hal h0 hx
    have e1 : mkRO c n DI DO = jrRoot c n DI DO N := by unfold mkRO; rw [hNt]
    have e2 : mkCH c n DI DO = jrChain c n DI DO N := by unfold mkCH; rw [hNt]
    have e3 : mkRV c = fun j : Nat => rateV c j := rfl
    rw [e1, e2, e3]
    clear e1 e2 e3 hNt
    obtain ⟨i, h, o, seed, batch, steps, crate, decay, how, keep, clip⟩ := c
    dsimp only at i1 i2 h1 h2 o1 o2 b1 b2 hs hm
    obtain ⟨I, rfl⟩ := Int.eq_ofNat_of_zero_le (show 0 ≤ i by omega)
    obtain ⟨H, rfl⟩ := Int.eq_ofNat_of_zero_le (show 0 ≤ h by omega)
    obtain ⟨O, rfl⟩ := Int.eq_ofNat_of_zero_le (show 0 ≤ o by omega)
    obtain ⟨B, rfl⟩ := Int.eq_ofNat_of_zero_le (show 0 ≤ batch by omega)
    have hN : N = H * I + H + O * H + O := by have := hNz.symm; unfold sizeN at this; dsimp only at this; exact_mod_cast this
    refine (jrecords_calls I H O B seed crate decay how keep clip hs steps hc N hN a n cap X DI DO M q HX hn1 hn2 hex hm).mono ?_
    rintro e w' ⟨g, R, he, g1, g2, g3, g4, g5⟩
    exact ⟨g, R, he, by omega, g2, (fun j hj => by
      obtain ⟨x1, x2, bg, x3, x4, x5, x6⟩ := g3 j hj
      exact ⟨x1, x2, bg, x3, by omega, x5, x6⟩), g4, g5⟩
  generalize jrG c n = DG at *
  generalize mkRV c = RV at *
  generalize mkRO c n DI DO = RO at *
  generalize mkCH c n DI DO = CH at *
  have z0 : ¬ (M : Int) < 0 := by omega
  have z1 : ¬ c.steps < (M : Int) := by omega
  clear hx hex hc hs h0
  generalize hBB : c.batch.toNat = BB at *
  clear hBB
  obtain ⟨i, h, o, seed, batch, steps, crate, decay, how, keep, clip⟩ := c
  simp only [Cfg.val, Cfg.cells] at *
  obtain ⟨c0, c1, c2, c3, c4, c5, c6, c7, c8, c9, c10⟩ := KB.out _ (Below.refl _ _)
  dsimp only at c0 c1 c2 c3 c4 c5 c6 c7 c8 c9 c10
  go_enter Tryz.func7, Tryz.ntmps7
  go_wp2_with fail
  refine CK.mono ?_
  rintro e w1 ⟨rfl, hw1⟩
  clear c0 c1 c2 c3 c4 c5 c6 c7 c8 c9 c10
  obtain ⟨c0, c1, c2, c3, c4, c5, c6, c7, c8, c9, c10⟩ := KB.out _ hw1
  dsimp only at c0 c1 c2 c3 c4 c5 c6 c7 c8 c9 c10
  have T1 := hal.trans (hw1.mono hal.size)
  go_wp2_with fail
  refine (HRC.out _ T1).mono ?_
  rintro e w2 ⟨g, R, rfl, g1, g2, g3, g4, g5⟩
  have G4 : Hid (JrN M R RV RO CH) := g4
  have G3 : Hid (JrIn w2 g w.heap.size BB M R DG) := g3
  clear g4 g3
  go_wp2_with fail
  go_ret2
  exact ⟨g, R, rfl, g1, g2, G3.out, G4.out, T1.trans (g5.mono T1.size)⟩

set_option maxRecDepth 100000 in
set_option maxHeartbeats 1600000 in
theorem jMake_calls (c : Cfg) (a : Option Addr) (n cap : Nat) (X : Nat → Exm) (DI DO : Nat → List Int) (m : Int) (w : World) (hs : okW c.seed) (hx : Exs w a n cap X DI DO) :
    Calls Tryz.prog 7 #[c.val, .slice a n cap, .int .i64 m] w fun e w' => ∃ b k R, e = .returned (.tuple #[.slice b (mkN c n X DI DO m) k, .int .i64 (mkE c n X DI DO m)]) ∧ MadeR w w' c n DI DO b (mkN c n X DI DO m) k R := by
  have hal := low_alloc w (.cells c.cells 24)
  have CK := tcheck_calls c a n cap X DI DO _ (hx.below hal (Nat.le_refl _))
  have KB : Hid (∀ q, Below (w.alloc (.cells c.cells 24)).heap.size (w.alloc (.cells c.cells 24)) q → BoxC q w.heap.size c) := fun q hq => boxC hq (by simp)
  have none_ : ∀ w', Below w.heap.size w w' → MadeR w w' c n DI DO none 0 0 noRec := fun w' hb => ⟨Recs.nil _ _ _ _ _, (fun j hj => by omega), (fun j hj => by omega), (fun h => by omega), hb⟩
  by_cases h0 : courseI c n X DI DO = 0
  · obtain ⟨hc, hn1, hn2, hex⟩ := course_ok h0
    by_cases hm : 0 ≤ m ∧ m ≤ c.steps
    · have hE : mkE c n X DI DO m = 0 := by unfold mkE; rw [if_pos h0, if_pos (in_yes hm)]
      obtain ⟨M, rfl⟩ := Int.eq_ofNat_of_zero_le hm.1
      have hMN : mkN c n X DI DO (M : Int) = M := by unfold mkN; rw [if_pos hE]; rfl
      rw [hE, hMN]
      refine (jMake_good c a n cap X DI DO M w hs hx h0 hm.2).mono ?_
      rintro e w' ⟨g, R, he, g1, g2, g3, g4, g5⟩
      obtain ⟨_, _, _, ⟨b1, b2⟩, _⟩ := cfgB_is hc
      refine ⟨some ⟨g, 0, none⟩, M, R, he, recs_of g2 g3, g4, fun j hj => ?_, fun _ => ⟨g, rfl, rfl, g1, g2, g3⟩, g5⟩
      have := (g3 j hj).1
      omega
    · have hE : mkE c n X DI DO m = 1 := by
        unfold mkE
        rw [if_pos h0, if_neg (fun h => hm (in_is h))]
      have hMN : mkN c n X DI DO m = 0 := by unfold mkN; rw [hE, if_neg (by decide)]
      rw [hE, hMN]
      rw [h0] at CK
      have HNO : Hid (∀ w', Below w.heap.size w w' → MadeR w w' c n DI DO none 0 0 noRec) := none_
      obtain ⟨MR, HMR⟩ : ∃ P : World → Option Addr → Nat → (Nat → Rcm) → Prop, Hid (P = fun w' b k R => MadeR w w' c n DI DO b 0 k R) := ⟨_, rfl⟩
      have hPQ : ∀ w' b k R, MadeR w w' c n DI DO b 0 k R = MR w' b k R := fun w' b k R => by rw [HMR.out]
      simp only [hPQ] at HNO ⊢
      clear hPQ HMR none_ hE hMN hx hex hc hs h0
      obtain ⟨i, h, o, seed, batch, steps, crate, decay, how, keep, clip⟩ := c
      simp only [Cfg.val, Cfg.cells] at *
      obtain ⟨c0, c1, c2, c3, c4, c5, c6, c7, c8, c9, c10⟩ := KB.out _ (Below.refl _ _)
      dsimp only at c0 c1 c2 c3 c4 c5 c6 c7 c8 c9 c10
      by_cases hm0 : m < 0
      · go_enter Tryz.func7, Tryz.ntmps7
        go_wp2_with fail
        refine CK.mono ?_
        rintro e w1 ⟨rfl, hw1⟩
        have T1 := hal.trans (hw1.mono hal.size)
        go_wp2_with fail
        go_ret2
        exact ⟨none, 0, noRec, rfl, HNO.out _ T1⟩
      · have hm1 : steps < m := by omega
        go_enter Tryz.func7, Tryz.ntmps7
        go_wp2_with fail
        refine CK.mono ?_
        rintro e w1 ⟨rfl, hw1⟩
        clear c0 c1 c2 c3 c4 c5 c6 c7 c8 c9 c10
        obtain ⟨c0, c1, c2, c3, c4, c5, c6, c7, c8, c9, c10⟩ := KB.out _ hw1
        dsimp only at c0 c1 c2 c3 c4 c5 c6 c7 c8 c9 c10
        have T1 := hal.trans (hw1.mono hal.size)
        go_wp2_with fail
        go_ret2
        exact ⟨none, 0, noRec, rfl, HNO.out _ T1⟩
  · have hE : mkE c n X DI DO m = courseI c n X DI DO := if_neg h0
    have hMN : mkN c n X DI DO m = 0 := by unfold mkN; rw [hE, if_neg h0]
    have hb : (courseI c n X DI DO != 0) = true := by rw [bne_iff_ne]; exact h0
    rw [hE, hMN]
    have HNO : Hid (∀ w', Below w.heap.size w w' → MadeR w w' c n DI DO none 0 0 noRec) := none_
    obtain ⟨MR, HMR⟩ : ∃ P : World → Option Addr → Nat → (Nat → Rcm) → Prop, Hid (P = fun w' b k R => MadeR w w' c n DI DO b 0 k R) := ⟨_, rfl⟩
    have hPQ : ∀ w' b k R, MadeR w w' c n DI DO b 0 k R = MR w' b k R := fun w' b k R => by rw [HMR.out]
    simp only [hPQ] at HNO ⊢
    generalize courseI c n X DI DO = E at *
    clear hPQ HMR none_ hE hMN hx hs
    obtain ⟨i, h, o, seed, batch, steps, crate, decay, how, keep, clip⟩ := c
    simp only [Cfg.val, Cfg.cells] at *
    obtain ⟨c0, c1, c2, c3, c4, c5, c6, c7, c8, c9, c10⟩ := KB.out _ (Below.refl _ _)
    dsimp only at c0 c1 c2 c3 c4 c5 c6 c7 c8 c9 c10
    go_enter Tryz.func7, Tryz.ntmps7
    go_wp2_with fail
    refine CK.mono ?_
    rintro e w1 ⟨rfl, hw1⟩
    go_wp2_with fail
    go_ret2
    exact ⟨none, 0, noRec, rfl, HNO.out _ (hal.trans (hw1.mono hal.size))⟩
end Go.Proofs.YtkikhfdkibekgaaGreat.Fx

/- slices.Equal over integers and coachref.Like, of lists of whatever length. -/
namespace Go.Proofs.YtkikhfdkibekgaaGreat.Fx
open Go.RowKit

set_option maxHeartbeats 400000 in
theorem eq_big (a b : Option Addr) (la ca lb cb : Nat) (xs ys : List Int) (w : World) (ha : Lst w a la ca xs) (hb : Lst w b lb cb ys) (h63 : la ≤ 9223372036854775807) :
    Calls Tryz.prog 25 #[.slice a la ca, .slice b lb cb] w fun e w' => e = .returned (.bool (decide (xs = ys))) ∧ ∃ k, w' = w.drewN k := by
  by_cases hl : la = lb
  · subst hl
    have hab : ((la : Int) != (la : Int)) = false := by simp
    go_enter Tryz.func25, Tryz.ntmps25
    go_wp2
    go_loopw [13] (fun i wr => ∃ k n : Nat, k ≤ la ∧ i = .int .i64 k ∧ Hid (∀ j, j < k → xs.getD j 0 = ys.getD j 0) ∧ wr = w.drewN n) (fun i _ => la - (intOf i).toNat)
    case atStart => exact ⟨0, 0, Nat.zero_le _, rfl, fun j hj => by omega, rfl⟩
    case round =>
      obtain ⟨k, n, hk, rfl, he, rfl⟩ := hrel
      by_cases hlt : k < la
      · obtain ⟨b1, o1, x, rfl, _, c1, HX⟩ := ha.at1 hlt
        obtain ⟨b2, o2, y, rfl, _, c2, HY⟩ := hb.at1 hlt
        by_cases hxy : x = y
        · subst hxy
          have hne : (x != x) = false := by simp
          go_wp2
          go_quiet (fail)
          go_wp2
          go_roundw
          case rel => exact ⟨k + 1, _, by omega, by go_num, fun j hj => by
            by_cases e : j = k
            · subst e; rw [HX.out, HY.out]
            · exact he.out j (by omega), rfl⟩
          case measure => simp [intOf]; omega
        · have hne : (x != y) = true := by simpa using hxy
          go_wp2
          go_quiet (fail)
          go_wp2
          go_ret
          refine ⟨ret_bool ?_, _, World.drewN_drewN _ _ _⟩
          exact (decide_eq_false (fun e => hxy (by rw [← HX.out, ← HY.out, e]))).symm
      · go_wp2
        go_ret
        refine ⟨ret_bool ?_, _, rfl⟩
        exact (decide_eq_true (eq_of_getD ha.len hb.len (fun j hj => he.out j (by omega)))).symm
  · have hab : ((la : Int) != (lb : Int)) = true := by rw [bne_iff_ne]; omega
    go_enter Tryz.func25, Tryz.ntmps25
    go_wp2
    go_ret
    refine ⟨ret_bool ?_, 0, rfl⟩
    exact (decide_eq_false (fun e => hl (by rw [← ha.len, ← hb.len, e]))).symm

set_option maxRecDepth 100000 in
set_option maxHeartbeats 1600000 in
theorem rlike_big (x y : Rcm) (xs ys : List Int) (w : World) (l1 : Lst w x.a x.n x.k xs) (l2 : Lst w y.a y.n y.k ys) (hn : x.n ≤ 9223372036854775807) :
    Calls Tryz.prog 12 #[x.val, y.val] w fun e w' => e = .returned (.bool (likeB x y xs ys)) ∧ Below w.heap.size w w' := by
  have hal := (low_alloc w (.cells x.cells 30)).trans ((low_alloc (w.alloc (.cells x.cells 30)) (.cells y.cells 30)).mono (low_alloc w (.cells x.cells 30)).size)
  have m1 := l1.below hal (Nat.le_refl _)
  have m2 := l2.below hal (Nat.le_refl _)
  unfold likeB
  clear l1 l2
  obtain ⟨s, a, n, k, r, root, chain⟩ := x
  obtain ⟨s', a', n', k', r', root', chain'⟩ := y
  simp only [Rcm.val, Rcm.cells] at *
  by_cases h1 : s = s'
  rotate_left
  · have qh1 : (s == s') = false := by simpa using h1
    go_enter Tryz.func12, Tryz.ntmps12
    go_wp2_with fail
    go_ret
    exact ⟨ret_bool (by simp [h1]), hal⟩
  have qh1 : (s == s') = true := by simpa using h1
  by_cases h2 : r = r'
  rotate_left
  · have qh2 : (r == r') = false := by simpa using h2
    clear h1
    go_enter Tryz.func12, Tryz.ntmps12
    go_wp2_with fail
    go_ret
    exact ⟨ret_bool (by simp [h2]), hal⟩
  have qh2 : (r == r') = true := by simpa using h2
  by_cases h3 : root = root'
  rotate_left
  · have qh3 : (root == root') = false := by simpa using h3
    clear h1 h2
    go_enter Tryz.func12, Tryz.ntmps12
    go_wp2_with fail
    go_ret
    exact ⟨ret_bool (by simp [h3]), hal⟩
  have qh3 : (root == root') = true := by simpa using h3
  have HL : Hid ((decide (s = s') && decide (r = r') && decide (root = root') && decide (xs = ys)) = decide (xs = ys)) := by show _ = _; rw [decide_eq_true h1, decide_eq_true h2, decide_eq_true h3]; simp
  clear h1 h2 h3
  go_enter Tryz.func12, Tryz.ntmps12
  go_wp2_with fail
  refine (eq_big _ _ _ _ _ _ xs ys _ m1 m2 (by omega)).mono ?_
  rintro e w1 ⟨rfl, k5, hw5⟩
  subst hw5
  go_wp2_with fail
  go_ret
  exact ⟨ret_bool (by rw [HL.out]), below_drewN hal _⟩
end Go.Proofs.YtkikhfdkibekgaaGreat.Fx
