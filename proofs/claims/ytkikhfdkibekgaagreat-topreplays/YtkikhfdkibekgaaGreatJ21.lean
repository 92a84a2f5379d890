/- What journal.rootOfBoth and journal.Root return, whatever is handed in. -/
import Derived.Test.YtkikhfdkibekgaaGreatJ19
import Derived.Test.YtkikhfdkibekgaaGreatJ20
import Derived.Test.YtkikhfdkibekgaaGreatJ08
import Derived.Test.YtkikhfdkibekgaaGreatJ12
import Derived.Test.YtkikhfdkibekgaaGreatJ09
import Derived.Test.YtkikhfdkibekgaaGreatJ07
namespace Go.Proofs.YtkikhfdkibekgaaGreat.Fx
open Go.RowKit

theorem rootE_err (n1 n2 : Nat) : rootE n1 n2 = errL (n1 + n2) := rfl
theorem rootV_is (n1 : Nat) (ws : List Int) (n2 : Nat) (ms : List Int) : rootV n1 ws n2 ms = rootL (ws ++ ms) (n1 + n2) := by
  unfold rootV rootL rootE
  by_cases h0 : n1 + n2 = 0
  · rw [if_pos h0, if_neg (by decide), if_pos (.inl h0)]
  · rw [if_neg h0]
    by_cases h2 : 200 < n1 + n2
    · rw [if_pos h2, if_neg (by decide), if_pos (.inr h2)]
    · rw [if_neg h2, if_pos rfl, if_neg (by omega)]
      rfl

set_option maxRecDepth 100000 in
theorem rob_calls (a1 : Option Addr) (n1 k1 : Nat) (ws : List Int) (a2 : Option Addr) (n2 k2 : Nat) (ms : List Int) (w : World) (l1 : Lst w a1 n1 k1 ws) (l2 : Lst w a2 n2 k2 ms) (hz : n1 + n2 ≤ 4611686018427387904) :
    Calls Tryz.prog 22 #[.slice a1 n1 k1, .slice a2 n2 k2] w fun e w' => e = .returned (.tuple #[.int .u64 (rootV n1 ws n2 ms), .int .i64 (rootE n1 n2)]) ∧ Below w.heap.size w w' := by
  rw [rootV_is, rootE_err]
  by_cases h : 200 < n1 + n2
  · have HE : Hid (errL (n1 + n2) = 2) := by show errL (n1 + n2) = 2; unfold errL; rw [if_neg (by omega), if_pos h]
    have HV : Hid (rootL (ws ++ ms) (n1 + n2) = 0) := if_pos (.inr h)
    have h1 : (n1 : Int) + (n2 : Int) > 200 := by omega
    clear l1 l2
    go_enter Tryz.func22, Tryz.ntmps22
    go_wp2
    go_ret2
    exact ⟨by rw [HE.out, HV.out]; rfl, Below.refl _ _⟩
  · have h1 : ¬ (n1 : Int) + (n2 : Int) > 200 := by omega
    go_enter Tryz.func22, Tryz.ntmps22
    go_wp2_with fail
    refine (concat2 a1 a2 n1 n2 k1 k2 ws ms _ _ rfl l1 l2 (by omega)).mono ?_
    rintro e w1 ⟨a, c, rfl, hl, hw1⟩
    go_wp2_with fail
    refine (Root_calls a _ c _ _ hl).mono ?_
    rintro e w2 ⟨rfl, hw2⟩
    go_wp2_with fail
    go_ret2
    exact ⟨rfl, hw1.trans (hw2.mono hw1.size)⟩

theorem jroot_calls (a1 : Option Addr) (n1 k1 : Nat) (ws : List Int) (a2 : Option Addr) (n2 k2 : Nat) (ms : List Int) (w : World) (l1 : Lst w a1 n1 k1 ws) (l2 : Lst w a2 n2 k2 ms) (hz : n1 + n2 ≤ 4611686018427387904) :
    Calls Tryz.prog 10 #[.agg #[.slice a1 n1 k1, .slice a2 n2 k2]] w fun e w' => e = .returned (.tuple #[.int .u64 (rootV n1 ws n2 ms), .int .i64 (rootE n1 n2)]) ∧ Below w.heap.size w w' := by
  have hal := low_alloc w (.cells #[.slice a1 n1 k1, .slice a2 n2 k2] 28)
  have row := fn2_alloc w (.slice a1 n1 k1) (.slice a2 n2 k2) 28
  obtain ⟨c0, c1⟩ := fn2_cells row
  have HR := rob_calls a1 n1 k1 ws a2 n2 k2 ms _ (l1.below hal (Nat.le_refl _)) (l2.below hal (Nat.le_refl _)) hz
  generalize rootV n1 ws n2 ms = V at *
  generalize rootE n1 n2 = E at *
  clear l1 l2 row
  go_enter Tryz.func10, Tryz.ntmps10
  go_wp2_with fail
  refine HR.mono ?_
  rintro e w1 ⟨rfl, hw1⟩
  go_wp2_with fail
  go_ret2
  exact ⟨rfl, hal.trans (hw1.mono hal.size)⟩
end Go.Proofs.YtkikhfdkibekgaaGreat.Fx

/- What audit.redo returns, whatever is handed in. -/
namespace Go.Proofs.YtkikhfdkibekgaaGreat.Fx
open Go.RowKit

/-- The root of the state that a step leads to. -/
def nxZ (c : Cfg) (n : Nat) (X : Nat → Exm) (DI DO : Nat → List Int) (n1 : Nat) (ws : List Int) (n2 : Nat) (ms : List Int) (step : Int) : Int := rootV (nxW c n X DI DO n1 ws n2 ms step).length (nxW c n X DI DO n1 ws n2 ms step) (nxM c n X DI DO n1 ws n2 ms step).length (nxM c n X DI DO n1 ws n2 ms step)
/-- Is a record that of the step done again, but for its chain? -/
def jgB (c : Cfg) (n : Nat) (X : Nat → Exm) (DI DO : Nat → List Int) (n1 : Nat) (ws : List Int) (n2 : Nat) (ms : List Int) (step : Int) (x : Rcm) (xs : List Int) : Bool :=
  decide (x.s = step) && decide (x.r = nxR c n X DI DO n1 ws n2 ms step) && decide (x.root = nxZ c n X DI DO n1 ws n2 ms step) && decide (xs = nxB c n X DI DO n1 ws n2 ms step)
theorem jgB_is (c : Cfg) (n : Nat) (X : Nat → Exm) (DI DO : Nat → List Int) (n1 : Nat) (ws : List Int) (n2 : Nat) (ms : List Int) (step : Int) (x : Rcm) (xs : List Int) (a : Option Addr) (m k : Nat) (ch : Int) : likeB x ⟨step, a, m, k, nxR c n X DI DO n1 ws n2 ms step, nxZ c n X DI DO n1 ws n2 ms step, ch⟩ xs (nxB c n X DI DO n1 ws n2 ms step) = jgB c n X DI DO n1 ws n2 ms step x xs := by simp only [jgB, likeB]
theorem nextE_ok {c : Cfg} {n : Nat} {X : Nat → Exm} {DI DO : Nat → List Int} {n1 : Nat} {ws : List Int} {n2 : Nat} {ms : List Int} {step : Int} (h : nextE c n X DI DO n1 ws n2 ms step = 0) : courseI c n X DI DO = 0 ∧ fitB c n1 ws = true ∧ fitB c n2 ms = true ∧ inB step 0 (c.steps - 1) = true := by
  unfold nextE at h
  by_cases h1 : courseI c n X DI DO = 0
  · rw [if_pos h1] at h
    by_cases h2 : (fitB c n1 ws && fitB c n2 ms) = true
    · rw [if_pos h2] at h
      by_cases h3 : inB step 0 (c.steps - 1) = true
      · rw [Bool.and_eq_true] at h2
        exact ⟨h1, h2.1, h2.2, h3⟩
      · rw [if_neg h3] at h; cases h
    · rw [if_neg h2] at h; cases h
  · rw [if_neg h1] at h; exact absurd h h1

/-- Where nothing is wrong the batch lies in a block of its own. -/
theorem tNext_far (c : Cfg) (hs : okW c.seed) (a : Option Addr) (n cap : Nat) (X : Nat → Exm) (DI DO : Nat → List Int) (a1 : Option Addr) (n1 k1 : Nat) (ws : List Int) (a2 : Option Addr) (n2 k2 : Nat) (ms : List Int) (step : Int) (w : World) (hx : Exs w a n cap X DI DO) (l1 : Lst w a1 n1 k1 ws) (l2 : Lst w a2 n2 k2 ms) (hz : nextE c n X DI DO n1 ws n2 ms step = 0) :
    Calls Tryz.prog 36 #[c.val, .slice a n cap, .agg #[.slice a1 n1 k1, .slice a2 n2 k2], .int .i64 step] w fun e w' => ∃ g1 d1 g2 d2 bg N B, e = .returned (.tuple #[.agg #[.slice (some ⟨g1, 0, none⟩) N d1, .slice (some ⟨g2, 0, none⟩) N d2], .slice (some ⟨bg, 0, none⟩) B B, .int .i64 (nxR c n X DI DO n1 ws n2 ms step), .int .i64 0]) ∧ N ≤ 200 ∧ B ≤ 200 ∧ Lst w' (some ⟨g1, 0, none⟩) N d1 (nxW c n X DI DO n1 ws n2 ms step) ∧ Lst w' (some ⟨g2, 0, none⟩) N d2 (nxM c n X DI DO n1 ws n2 ms step) ∧ Arr w' bg B B (batchG c.seed n (step.toNat * c.batch.toNat)) ∧ (List.range B).map (batchG c.seed n (step.toNat * c.batch.toNat)) = nxB c n X DI DO n1 ws n2 ms step ∧ w.heap.size ≤ bg ∧ Below w.heap.size w w' := by
  have HC : ∀ q, Below w.heap.size w q → Calls Tryz.prog 17 #[c.val, .slice a n cap] q fun e w' => e = .returned (.int .i64 (courseI c n X DI DO)) ∧ Below q.heap.size q w' := fun q hq => tcheck_calls c a n cap X DI DO q (hx.below hq (Nat.le_refl _))
  obtain ⟨hE, f1, f2, hst⟩ := nextE_ok hz
  rw [hE] at HC
  obtain ⟨hc, hn1, hn2, hex⟩ := course_ok hE
  have g1 := fit_len hc f1
  have g2 := fit_len hc f2
  have hn : n2 = n1 := by have := g1.1; have := g2.1; omega
  subst hn
  unfold nxR nxW nxM nxB
  rw [hz, if_pos rfl, if_pos rfl, if_pos rfl, if_pos rfl]
  have hlow := in_is hst
  obtain ⟨T, hT⟩ := Int.eq_ofNat_of_zero_le hlow.1
  obtain ⟨⟨i1, i2⟩, ⟨h1, h2⟩, ⟨o1, o2⟩, ⟨b1, b2⟩, _⟩ := cfgB_is hc
  obtain ⟨i, h, o, seed, batch, steps, crate, decay, how, keep, clip⟩ := c
  dsimp only at i1 i2 h1 h2 o1 o2 b1 b2 hs hlow ⊢
  obtain ⟨I, rfl⟩ := Int.eq_ofNat_of_zero_le (show 0 ≤ i by omega)
  obtain ⟨H, rfl⟩ := Int.eq_ofNat_of_zero_le (show 0 ≤ h by omega)
  obtain ⟨O, rfl⟩ := Int.eq_ofNat_of_zero_le (show 0 ≤ o by omega)
  obtain ⟨B, rfl⟩ := Int.eq_ofNat_of_zero_le (show 0 ≤ batch by omega)
  subst hT
  have hN : n2 = H * I + H + O * H + O := by have := g1.1; unfold sizeN at this; dsimp only at this; exact_mod_cast this
  refine (tNext_own _ hc a n cap a1 n2 k1 ws a2 n2 k2 ms T w l1 l2 HC f1 f2 hst B _ _ _ _ (fun q hq => tnext_own I H O B T seed crate decay how keep clip hs steps hc n2 hN a n cap X DI DO a1 k1 ws a2 k2 ms q (hx.below hq (Nat.le_refl _)) hn1 hn2 hex (l1.below hq (Nat.le_refl _)) (l2.below hq (Nat.le_refl _)) g1.2.2.2 g2.2.2.2 (by omega))).mono ?_
  rintro e w' ⟨x1, d1, x2, d2, bg, he, h⟩
  exact ⟨x1, d1, x2, d2, bg, n2, B, he, by omega, by omega, h.a1.lst, h.a2.lst, h.a3, rfl, h.f3, h.bel⟩

structure RdBox (w : World) (c : Cfg) (v0 v1 : Value) (wr : World) : Prop where
  cfg : BoxC wr w.heap.size c
  st : wr.rowIs (w.heap.size + 1) 28 2 (fn2 v0 v1)
  res : wr.rowIs (w.heap.size + 1 + 1) 30 5 (fn5 (.int .i64 0) (.slice none 0 0) (.int .i64 0) (.int .u64 0) (.int .u64 0))
  bel : Below w.heap.size w wr
theorem RdBox.start (w : World) (c : Cfg) (v0 v1 : Value) : RdBox w c v0 v1 (((w.alloc (.cells c.cells 24)).alloc (.cells #[v0, v1] 28)).alloc (.cells #[.int .i64 0, .slice none 0 0, .int .i64 0, .int .u64 0, .int .u64 0] 30)) := by
  refine ⟨?_, ?_, ?_, (((Below.refl w.heap.size w).alloc (Nat.le_refl _) _).alloc (by simp) _).alloc (by simp; omega) _⟩
  · exact boxC (B := w.heap.size + 1) (((Below.refl _ _).alloc (by simp) _).alloc (by simp) _) (by omega)
  · have h := (fn2_alloc (w.alloc (.cells c.cells 24)) v0 v1 28).alloc (.cells #[.int .i64 0, .slice none 0 0, .int .i64 0, .int .u64 0, .int .u64 0] 30)
    simpa using h
  · have h := fn5_alloc ((w.alloc (.cells c.cells 24)).alloc (.cells #[v0, v1] 28)) (.int .i64 0) (.slice none 0 0) (.int .i64 0) (.int .u64 0) (.int .u64 0) 30
    simpa using h
theorem RdBox.below {w : World} {c : Cfg} {v0 v1 : Value} {wr w2 : World} (h : RdBox w c v0 v1 wr) (hb : Below wr.heap.size wr w2) : RdBox w c v0 v1 w2 := by
  have l2 := h.res.lt
  have k : ∀ i, w2.cell? ⟨w.heap.size, i, none⟩ = wr.cell? ⟨w.heap.size, i, none⟩ := fun i => hb.cell (p := ⟨w.heap.size, i, none⟩) (by show w.heap.size < _; omega)
  exact ⟨⟨(k 0).trans h.cfg.c0, (k 1).trans h.cfg.c1, (k 2).trans h.cfg.c2, (k 3).trans h.cfg.c3, (k 4).trans h.cfg.c4, (k 5).trans h.cfg.c5, (k 6).trans h.cfg.c6, (k 7).trans h.cfg.c7, (k 8).trans h.cfg.c8, (k 9).trans h.cfg.c9, (k 10).trans h.cfg.c10⟩,
    h.st.of_block (hb.block _ (by omega)), h.res.of_block (hb.block _ l2), h.bel.trans (hb.mono h.bel.size)⟩

set_option maxRecDepth 100000 in
set_option maxHeartbeats 1600000 in
theorem redo_good (c : Cfg) (hs : okW c.seed) (a : Option Addr) (n cap : Nat) (X : Nat → Exm) (DI DO : Nat → List Int) (a1 : Option Addr) (n1 k1 : Nat) (ws : List Int) (a2 : Option Addr) (n2 k2 : Nat) (ms : List Int) (step : Int) (w : World) (hx : Exs w a n cap X DI DO) (l1 : Lst w a1 n1 k1 ws) (l2 : Lst w a2 n2 k2 ms) (hz : nextE c n X DI DO n1 ws n2 ms step = 0) :
    Calls Tryz.prog 46 #[c.val, .slice a n cap, .agg #[.slice a1 n1 k1, .slice a2 n2 k2], .int .i64 step] w fun e w' => ∃ a3 m3 k3, e = .returned (.tuple #[.agg #[.int .i64 step, .slice a3 m3 k3, .int .i64 (nxR c n X DI DO n1 ws n2 ms step), .int .u64 (nxZ c n X DI DO n1 ws n2 ms step), .int .u64 0], .int .i64 0]) ∧ m3 ≤ 200 ∧ Lst w' a3 m3 k3 (nxB c n X DI DO n1 ws n2 ms step) ∧ Below w.heap.size w w' := by
  have sb0 := RdBox.start w c (.slice a1 n1 k1) (.slice a2 n2 k2)
  have NX := tNext_far c hs a n cap X DI DO a1 n1 k1 ws a2 n2 k2 ms step _ (hx.below sb0.bel (Nat.le_refl _)) (l1.below sb0.bel (Nat.le_refl _)) (l2.below sb0.bel (Nat.le_refl _)) hz
  have HZ : Hid (∀ (g1 d1 g2 d2 N : Nat) (q : World), Lst q (some ⟨g1, 0, none⟩) N d1 (nxW c n X DI DO n1 ws n2 ms step) → Lst q (some ⟨g2, 0, none⟩) N d2 (nxM c n X DI DO n1 ws n2 ms step) → N ≤ 200 → Calls Tryz.prog 10 #[.agg #[.slice (some ⟨g1, 0, none⟩) N d1, .slice (some ⟨g2, 0, none⟩) N d2]] q fun e w' => ∃ z, e = .returned (.tuple #[.int .u64 (nxZ c n X DI DO n1 ws n2 ms step), .int .i64 z]) ∧ Below q.heap.size q w') := fun g1 d1 g2 d2 N q m1 m2 hN => by
    have h := jroot_calls _ _ _ _ _ _ _ _ q m1 m2 (by omega)
    unfold nxZ
    rw [m1.len, m2.len]
    exact h.mono fun e w' ⟨he, hb⟩ => ⟨_, he, hb⟩
  generalize nxR c n X DI DO n1 ws n2 ms step = NR at *
  generalize nxZ c n X DI DO n1 ws n2 ms step = NZ at *
  generalize nxW c n X DI DO n1 ws n2 ms step = NW at *
  generalize nxM c n X DI DO n1 ws n2 ms step = NM at *
  generalize nxB c n X DI DO n1 ws n2 ms step = NB at *
  generalize batchG c.seed n (step.toNat * c.batch.toNat) = BG at *
  clear hx l1 l2 hz hs
  obtain ⟨i, h, o, seed, batch, steps, crate, decay, how, keep, clip⟩ := c
  simp only [Cfg.val, Cfg.cells] at *
  obtain ⟨c0, c1, c2, c3, c4, c5, c6, c7, c8, c9, c10⟩ := sb0.cfg
  obtain ⟨s0, s1⟩ := fn2_cells sb0.st
  dsimp only at c0 c1 c2 c3 c4 c5 c6 c7 c8 c9 c10
  go_enter Tryz.func46, Tryz.ntmps46
  go_wp2_with fail
  refine NX.mono ?_
  rintro e u4 ⟨xa, e1, xb, e2, bg, N, B, rfl, hN2, hB2, lw, lm, lb, hlb, m3, hu4⟩
  have HLB : Hid ((List.range B).map BG = NB) := hlb
  have sb4 := sb0.below hu4
  have z3 := sb0.res.lt
  clear NX c0 c1 c2 c3 c4 c5 c6 c7 c8 c9 c10 s0 s1 hlb sb0
  have hal := low_alloc u4 (.cells #[.slice (some ⟨xa, 0, none⟩) N e1, .slice (some ⟨xb, 0, none⟩) N e2] 28)
  have orow := fn2_alloc u4 (.slice (some ⟨xa, 0, none⟩) N e1) (.slice (some ⟨xb, 0, none⟩) N e2) 28
  have sb5 := sb4.below hal
  have lb5 := lb.below hal
  have RT := HZ.out xa e1 xb e2 N _ (lw.below hal (Nat.le_refl _)) (lm.below hal (Nat.le_refl _)) hN2
  obtain ⟨o0, o1⟩ := fn2_cells orow
  clear sb4 hu4 lw lm lb HZ
  go_wp2_with fail
  refine RT.mono ?_
  rintro e u5 ⟨zz, rfl, hu5⟩
  have sb6 := sb5.below hu5
  have lb6 := lb5.below hu5
  clear sb5 lb5 hu5 o0 o1 orow RT hal
  obtain ⟨r0, r1, r2, r3, r4⟩ := fn5_box sb6.res
  have f0 := sb6.res.frozen 0
  have f1 := sb6.res.frozen 1
  have f2 := sb6.res.frozen 2
  have f3 := sb6.res.frozen 3
  have f4 := sb6.res.frozen 4
  have hrs := sb6.res
  have hbb := sb6.bel
  have hne : bg ≠ w.heap.size + 1 + 1 := by omega
  have LB6 : Hid (Arr u5 bg B B BG) := lb6
  clear lb6 sb6
  go_wp2_with fail
  obtain ⟨y0, y1, y2, y3, y4⟩ := fn5_box (fn5_set hrs (.int .i64 step) (.slice (some ⟨bg, 0, none⟩) B B) (.int .i64 NR) (.int .u64 NZ) (.int .u64 0))
  exact bodyPost_ret (v := .tuple #[.agg #[.int .i64 step, .slice (some ⟨bg, 0, none⟩) B B, .int .i64 NR, .int .u64 NZ, .int .u64 0], .int .i64 0]) (by simp [results, Tryz.results46, go_sem, y0, y1, y2, y3, y4]) rfl ⟨some ⟨bg, 0, none⟩, B, B, rfl, hB2, HLB.out ▸ (((((LB6.out.setOther hne _).setOther hne _).setOther hne _).setOther hne _).setOther hne _).lst, below_set5 hbb (by omega) _ _ _ _ _⟩

set_option maxRecDepth 100000 in
set_option maxHeartbeats 1600000 in
theorem redo_bad (c : Cfg) (hs : okW c.seed) (a : Option Addr) (n cap : Nat) (X : Nat → Exm) (DI DO : Nat → List Int) (a1 : Option Addr) (n1 k1 : Nat) (ws : List Int) (a2 : Option Addr) (n2 k2 : Nat) (ms : List Int) (step : Int) (w : World) (hx : Exs w a n cap X DI DO) (l1 : Lst w a1 n1 k1 ws) (l2 : Lst w a2 n2 k2 ms) (E : Int) (hz : nextE c n X DI DO n1 ws n2 ms step = E) (hE : E ≠ 0) :
    Calls Tryz.prog 46 #[c.val, .slice a n cap, .agg #[.slice a1 n1 k1, .slice a2 n2 k2], .int .i64 step] w fun e w' => e = .returned (.tuple #[.agg #[.int .i64 0, .slice none 0 0, .int .i64 0, .int .u64 0, .int .u64 0], .int .i64 E]) ∧ Below w.heap.size w w' := by
  have sb0 := RdBox.start w c (.slice a1 n1 k1) (.slice a2 n2 k2)
  have NX := tNext_calls c hs a n cap X DI DO a1 n1 k1 ws a2 n2 k2 ms step _ (hx.below sb0.bel (Nat.le_refl _)) (l1.below sb0.bel (Nat.le_refl _)) (l2.below sb0.bel (Nat.le_refl _))
  rw [hz] at NX
  have hb : (E != 0) = true := by rw [bne_iff_ne]; exact hE
  generalize nxR c n X DI DO n1 ws n2 ms step = NR at *
  generalize nxW c n X DI DO n1 ws n2 ms step = NW at *
  generalize nxM c n X DI DO n1 ws n2 ms step = NM at *
  generalize nxB c n X DI DO n1 ws n2 ms step = NB at *
  clear hx l1 l2 hz hs
  obtain ⟨i, h, o, seed, batch, steps, crate, decay, how, keep, clip⟩ := c
  simp only [Cfg.val, Cfg.cells] at *
  obtain ⟨c0, c1, c2, c3, c4, c5, c6, c7, c8, c9, c10⟩ := sb0.cfg
  obtain ⟨s0, s1⟩ := fn2_cells sb0.st
  dsimp only at c0 c1 c2 c3 c4 c5 c6 c7 c8 c9 c10
  go_enter Tryz.func46, Tryz.ntmps46
  go_wp2_with fail
  refine NX.mono ?_
  rintro e u4 ⟨b1, m1, d1, b2, m2, d2, a3, m3, d3, rfl, _, _, _, _, _, _, hu4⟩
  have sb4 := sb0.below hu4
  have z3 := sb0.res.lt
  clear NX c0 c1 c2 c3 c4 c5 c6 c7 c8 c9 c10 s0 s1 sb0
  have hal := low_alloc u4 (.cells #[.slice b1 m1 d1, .slice b2 m2 d2] 28)
  have sb5 := sb4.below hal
  obtain ⟨r0, r1, r2, r3, r4⟩ := fn5_box sb5.res
  have f0 := sb5.res.frozen 0
  have f1 := sb5.res.frozen 1
  have f2 := sb5.res.frozen 2
  have f3 := sb5.res.frozen 3
  have f4 := sb5.res.frozen 4
  have hrs := sb5.res
  have hbb := sb5.bel
  clear sb4 hu4 sb5 hal
  go_wp2_with fail
  obtain ⟨y0, y1, y2, y3, y4⟩ := fn5_box (fn5_set hrs (.int .i64 0) (.slice none 0 0) (.int .i64 0) (.int .u64 0) (.int .u64 0))
  exact bodyPost_ret (v := .tuple #[.agg #[.int .i64 0, .slice none 0 0, .int .i64 0, .int .u64 0, .int .u64 0], .int .i64 E]) (by simp [results, Tryz.results46, go_sem, y0, y1, y2, y3, y4]) rfl ⟨rfl, below_set5 hbb (by omega) _ _ _ _ _⟩
end Go.Proofs.YtkikhfdkibekgaaGreat.Fx

/- A list of states that the program itself makes by append: what is known of it, and what one append more leaves. -/
namespace Go.Proofs.YtkikhfdkibekgaaGreat.Fx
open Go.RowKit

def stCells (X : Nat → Exm) : Nat → List Value
  | 0 => []
  | n + 1 => stCells X n ++ [.slice (X n).a (X n).n (X n).k, .slice (X n).b (X n).m (X n).t]
theorem stCells_len (X : Nat → Exm) (n : Nat) : (stCells X n).length = n * 2 := by
  induction n with
  | zero => rfl
  | succ k ih => simp [stCells, ih]; omega
theorem stCells_congr {X Y : Nat → Exm} {n : Nat} (h : ∀ i, i < n → X i = Y i) : stCells X n = stCells Y n := by
  induction n with
  | zero => rfl
  | succ k ih => simp only [stCells]; rw [ih (fun i hi => h i (by omega)), h k (by omega)]
theorem stCells_at (X : Nat → Exm) {n i : Nat} (h : i < n) : (stCells X n)[i * 2]? = some (.slice (X i).a (X i).n (X i).k) ∧ (stCells X n)[i * 2 + 1]? = some (.slice (X i).b (X i).m (X i).t) := by
  induction n with
  | zero => omega
  | succ k ih =>
    have hl := stCells_len X k
    simp only [stCells]
    by_cases e : i = k
    · subst e
      rw [List.getElem?_append_right (by omega), List.getElem?_append_right (by omega), hl]
      simp
    · have g := ih (by omega)
      rw [List.getElem?_append_left (by omega), List.getElem?_append_left (by omega)]
      exact g
theorem stCells_one {X : Nat → Exm} {n : Nat} {v : Value} (h : v ∈ stCells X n) : v.oneCell' = true := by
  induction n with
  | zero => cases h
  | succ k ih =>
    simp only [stCells, List.mem_append, List.mem_cons, List.not_mem_nil, or_false] at h
    rcases h with h | h | h
    · exact ih h
    · rw [h]; rfl
    · rw [h]; rfl
/-- The slice value v, made from block number base on, owns the states X. -/
def OwnS (base : Nat) (w : World) (v : Value) (n : Nat) (X : Nat → Exm) : Prop := w.ownsRow base 28 2 v n (stCells X n)
theorem OwnS.nil (base : Nat) (w : World) (X : Nat → Exm) : OwnS base w (.slice none 0 0) 0 X := World.ownsRow_nil _ _ _ _
theorem OwnS.below {base : Nat} {w w' : World} {v : Value} {n : Nat} {X : Nat → Exm} (h : OwnS base w v n X) (hb : Below w.heap.size w w') : OwnS base w' v n X := by
  refine ⟨h.1, ?_⟩
  rcases h.2 with h0 | ⟨g, cap, cur, hv, hg, hh, r⟩
  · exact .inl h0
  · exact .inr ⟨g, cap, cur, hv, hg, by rw [hb.block g (Array.getElem?_eq_some_iff.1 hh).1]; exact hh, r⟩
theorem OwnS.exs {base : Nat} {w : World} {v : Value} {n : Nat} {X : Nat → Exm} {DI DO : Nat → List Int} (h : OwnS base w v n X) (hin : ∀ i, i < n → InEx w (X i) (DI i) (DO i)) : ∃ a c, v = .slice a n c ∧ Exs w a n c X DI DO := by
  obtain ⟨hl, h2⟩ := h
  rcases h2 with ⟨rfl, rfl⟩ | ⟨g, cap, cur, rfl, _, hh, hle, _, hsz, hcur⟩
  · exact ⟨none, 0, rfl, Nat.le_refl _, .inl rfl⟩
  · refine ⟨_, cap, rfl, hle, .inr ⟨g, 0, rfl, (Array.getElem?_eq_some_iff.1 hh).1, fun i hi => ?_⟩⟩
    have hc : ∀ j, j < n * 2 → w.cell? ⟨g, 0 + j, none⟩ = (stCells X n)[j]? := fun j hj => by
      rw [← hcur, List.getElem?_take_of_lt hj]
      simp [World.cell?, hh]
    have g2 := stCells_at X hi
    refine ⟨(hc (i * 2) (by omega)).trans g2.1, ?_, hin i hi⟩
    have := hc (i * 2 + 1) (by omega)
    rw [← Nat.add_assoc] at this
    exact this.trans g2.2

theorem infoS : (Tryz.prog.info? 28).map (fun i => (i.zero, i.size, i.bytes)) = some (some (.agg #[.slice none 0 0, .slice none 0 0]), 2, 48) := by kernel_rfl

section
variable {w' W0 : World} {ops : Array Oper} {o : Oper} {a : Act} {Q : Exit → Act → World → Prop}
theorem run_append_st (ty : TypeId) (base : Nat) (v : Value) (n : Nat) (X : Nat → Exm) (g : Nat) (hown : OwnS base w' v n X) (hc0 : w'.cell? ⟨g, 0, none⟩ = some (.slice (X n).a (X n).n (X n).k)) (hc1 : w'.cell? ⟨g, 1, none⟩ = some (.slice (X n).b (X n).m (X n).t)) (hn : (n + 1) * 48 ≤ 140737488355328) (hbase : base ≤ w'.heap.size) :
    ∃ v' w1, (Builtin.append_ #[40, 40] ty #[v, .slice (some ⟨g, 0, none⟩) 1 1]).run Tryz.prog w' = .ok v' w1 ∧ OwnS base w1 v' (n + 1) X ∧ w'.grownBy w1 v.ownBlock ∧ (v'.ownBlock = v.ownBlock ∨ v'.ownBlock = some w'.heap.size) := by
  obtain ⟨i0, hi, hz0, hz1, hz2⟩ := info_parts infoS
  obtain ⟨v', w1, hrun, h1, h2, _, h3⟩ := run_append_own_at (P := Tryz.prog) w' base 40 ty 28 i0 (.agg #[.slice none 0 0, .slice none 0 0]) 2 48 Tryz.underlying40 hi hz0 hz1 hz2 rfl (by decide) v n _ hown ⟨g, 0, none⟩ 1 1 [.slice (X n).a (X n).n (X n).k, .slice (X n).b (X n).m (X n).t] rfl
    (by intro j u hj
        match j, hj with
        | 0, hj => simp at hj; subst hj; simpa [Addr.add] using hc0
        | 1, hj => simp at hj; subst hj; simpa [Addr.add] using hc1)
    (by intro u hu
        simp at hu
        rcases hu with rfl | rfl <;> rfl) (by unfold maxLen; omega) hn hbase
  exact ⟨v', w1, hrun, h1, h2, h3⟩

theorem wpList_append_st {rest : List Oper} (hgd : o.guard = none) (s x : Operand) (ho : o.op = .call { callee := .builtin .append, args := #[s, x], argTypes := #[40, 40] })
    (base : Nat) (v : Value) (n : Nat) (X : Nat → Exm) (g : Nat) (hs : a.eval s = v) (hx : a.eval x = .slice (some ⟨g, 0, none⟩) 1 1) (hown : OwnS base w' v n X) (hc0 : w'.cell? ⟨g, 0, none⟩ = some (.slice (X n).a (X n).n (X n).k)) (hc1 : w'.cell? ⟨g, 1, none⟩ = some (.slice (X n).b (X n).m (X n).t)) (hn : (n + 1) * 48 ≤ 140737488355328) (hbase : base ≤ w'.heap.size)
    (h : ∀ v' w1, OwnS base w1 v' (n + 1) X → w'.grownBy w1 v.ownBlock → (v'.ownBlock = v.ownBlock ∨ v'.ownBlock = some w'.heap.size) → wpList Tryz.prog ops Q rest (a.put o.dst v') w1) : wpList Tryz.prog ops Q (o :: rest) a w' := by
  obtain ⟨v', w1, hrun, h1, h2, h3⟩ := run_append_st o.type base v n X g hown hc0 hc1 hn hbase
  refine wpList_plain hgd fun K hK => ?_
  unfold Oper.wp
  simp [execOp, ho, resolve, invoke, builtin, hs, hx, hrun, Result.andThen]
  exact hK _ _ (h v' w1 h1 h2 h3)
end

end Go.Proofs.YtkikhfdkibekgaaGreat.Fx

/- What train.Run returns, whatever is handed in. -/
namespace Go.Proofs.YtkikhfdkibekgaaGreat.Fx
open Go.RowKit

theorem made2 (w : World) (z : Value) (m : Nat) (t : TypeId) : (w.alloc (.cells (madeCells #[z, z] m) t)).rowIs w.heap.size t m (fun _ => z) := by
  refine ⟨_, Go.Deep.blk_alloc_new _ _, size_madeCells _ _, fun i hi => ?_⟩
  have h2 : i % 2 = 0 ∨ i % 2 = 1 := by omega
  rcases h2 with h2 | h2 <;> simp [madeCells, hi, h2]
/-- The cells of a list of states, of which the first K are X's. -/
def outF (X : Nat → Exm) (K i : Nat) : Value := if i < K * 2 then (if i % 2 = 0 then .slice (X (i / 2)).a (X (i / 2)).n (X (i / 2)).k else .slice (X (i / 2)).b (X (i / 2)).m (X (i / 2)).t) else .slice none 0 0
theorem outF_zero {w : World} {b t n : Nat} {X : Nat → Exm} (h : w.rowIs b t n (fun _ => .slice none 0 0)) : w.rowIs b t n (outF X 0) := h.congr (fun i _ => by unfold outF; rw [if_neg (by omega)])
theorem outF_at {w : World} {b t n K j : Nat} {X : Nat → Exm} (h : w.rowIs b t n (outF X K)) (hj : j < K) (hn : K * 2 ≤ n) : w.cell? ⟨b, j * 2, none⟩ = some (.slice (X j).a (X j).n (X j).k) ∧ w.cell? ⟨b, j * 2 + 1, none⟩ = some (.slice (X j).b (X j).m (X j).t) := by
  refine ⟨?_, ?_⟩
  · rw [h.cell (by omega)]
    unfold outF
    rw [if_pos (by omega), if_pos (by omega), show j * 2 / 2 = j by omega]
  · rw [h.cell (by omega)]
    unfold outF
    rw [if_pos (by omega), if_neg (by omega), show (j * 2 + 1) / 2 = j by omega]
theorem outF_new {w : World} {b t n K j : Nat} {X : Nat → Exm} (h : w.rowIs b t n (outF X K)) (hj : K * 2 ≤ j) (hn : j < n) : w.cell? ⟨b, j, none⟩ = some (.slice none 0 0) := by
  rw [h.cell hn]
  unfold outF
  rw [if_neg (by omega)]
theorem outF_push {w : World} {b t n K : Nat} {X : Nat → Exm} (h : w.rowIs b t n (outF X K)) (x : Exm) : ((w.setCell ⟨b, K * 2, none⟩ (.slice x.a x.n x.k)).setCell ⟨b, K * 2 + 1, none⟩ (.slice x.b x.m x.t)).rowIs b t n (outF (fun j => if j = K then x else X j) (K + 1)) := by
  refine ((h.set _ _).set _ _).congr (fun i hi => ?_)
  by_cases e1 : i = K * 2 + 1
  · rw [if_pos e1]
    unfold outF
    rw [if_pos (by omega), if_neg (by omega), show i / 2 = K by omega]
    simp
  · rw [if_neg e1]
    by_cases e2 : i = K * 2
    · rw [if_pos e2]
      unfold outF
      rw [if_pos (by omega), if_pos (by omega), show i / 2 = K by omega]
      simp
    · rw [if_neg e2]
      unfold outF
      by_cases e3 : i < K * 2
      · have e4 : i / 2 ≠ K := by omega
        have e5 : i < (K + 1) * 2 := by omega
        rw [if_pos e3, if_pos e5]
        simp [e4]
      · rw [if_neg e3, if_neg (by omega)]
theorem InEx.setOff {w : World} {x : Exm} {I O : List Int} (h : InEx w x I O) {p : Addr} {u : Option Addr} {y z : Nat} (hp : w.cell? p = some (.slice u y z)) (v : Value) : InEx (w.setCell p v) x I O := ⟨h.i.setOff hp v, h.o.setOff hp v⟩

theorem makeS (k : Nat) (hk : k ≤ 1000) (w : World) : (Instr.makeSlice 40 (.int .i64 ((k : Int) + 1)) (.int .i64 ((k : Int) + 1))).run Tryz.prog w = .ok (.slice (some ⟨w.heap.size, 0, none⟩) (k + 1) (k + 1)) (w.alloc (.cells (madeCells #[.slice none 0 0, .slice none 0 0] ((k + 1) * 2)) 28)) := by
  obtain ⟨i0, hi, hz0, hz1, hz2⟩ := info_parts infoS
  have h := run_make (P := Tryz.prog) w 40 28 i0 _ Tryz.underlying40 hi hz0 .i64 .i64 ((k : Int) + 1) ((k : Int) + 1) (by omega) (Int.le_refl _) (by rw [hz2]; omega) (by omega)
  rw [hz1, show ((k : Int) + 1).toNat = k + 1 by omega] at h
  exact h

/-- A state whose two lists lie in blocks of their own. -/
def St1 (w : World) (base OB N : Nat) (x : Exm) (WL ML : List Int) : Prop := ∃ g1 d1 g2 d2, x = ⟨some ⟨g1, 0, none⟩, N, d1, some ⟨g2, 0, none⟩, N, d2⟩ ∧ base ≤ g1 ∧ base ≤ g2 ∧ g1 ≠ OB ∧ g2 ≠ OB ∧ g1 ≠ g2 ∧ (d1 ≤ maxLen ∧ d2 ≤ maxLen) ∧ Arr w g1 d1 N (fun i => WL.getD i 0) ∧ Arr w g2 d2 N (fun i => ML.getD i 0)
theorem St1.below {w w' : World} {base OB N : Nat} {x : Exm} {WL ML : List Int} (h : St1 w base OB N x WL ML) (hb : Below w.heap.size w w') : St1 w' base OB N x WL ML := by
  obtain ⟨g1, d1, g2, d2, e, b1, b2, b3, b4, b5, b6, a1, a2⟩ := h
  exact ⟨g1, d1, g2, d2, e, b1, b2, b3, b4, b5, b6, a1.below hb, a2.below hb⟩
theorem St1.setO {w : World} {base OB N : Nat} {x : Exm} {WL ML : List Int} (h : St1 w base OB N x WL ML) (i : Nat) (u : Value) : St1 (w.setCell ⟨OB, i, none⟩ u) base OB N x WL ML := by
  obtain ⟨g1, d1, g2, d2, e, b1, b2, b3, b4, b5, b6, a1, a2⟩ := h
  exact ⟨g1, d1, g2, d2, e, b1, b2, b3, b4, b5, b6, a1.setOther (a := ⟨OB, i, none⟩) b3 u, a2.setOther (a := ⟨OB, i, none⟩) b4 u⟩
theorem St1.inEx {w : World} {base OB N : Nat} {x : Exm} {WL ML : List Int} (h : St1 w base OB N x WL ML) (h1 : WL.length = N) (h2 : ML.length = N) : InEx w x WL ML := by
  obtain ⟨g1, d1, g2, d2, rfl, b1, b2, b3, b4, b5, b6, a1, a2⟩ := h
  have l1 := a1.lst
  have l2 := a2.lst
  rw [getD_self h1] at l1
  rw [getD_self h2] at l2
  exact ⟨l1, l2⟩
/-- Two states lie apart. -/
def StApart (x y : Exm) : Prop := ∀ g, (x.a = some ⟨g, 0, none⟩ ∨ x.b = some ⟨g, 0, none⟩) → y.a ≠ some ⟨g, 0, none⟩ ∧ y.b ≠ some ⟨g, 0, none⟩
theorem St1.apart {w : World} {base OB N : Nat} {x : Exm} {WL ML : List Int} (h : St1 w base OB N x WL ML) {a b d1 d2 M1 M2 : Nat} (ha : w.heap.size ≤ a) (hb : w.heap.size ≤ b) : StApart x ⟨some ⟨a, 0, none⟩, M1, d1, some ⟨b, 0, none⟩, M2, d2⟩ := fun g hg => by
  obtain ⟨g1, e1, g2, e2, rfl, b1, b2, b3, b4, b5, b6, a1, a2⟩ := h
  have k1 := a1.lt
  have k2 := a2.lt
  simp only [Option.some.injEq, Addr.mk.injEq, and_true] at hg
  refine ⟨fun e => ?_, fun e => ?_⟩
  · simp only [Option.some.injEq, Addr.mk.injEq, and_true] at e
    omega
  · simp only [Option.some.injEq, Addr.mk.injEq, and_true] at e
    omega
/-- What is known of a course's states that lie in a list. -/
def StIn (w : World) (base OB N k : Nat) (X : Nat → Exm) (DW DM : Nat → List Int) : Prop := (∀ j, j ≤ k → St1 w base OB N (X j) (DW j) (DM j)) ∧ ∀ i j, i < j → j ≤ k → StApart (X i) (X j)
theorem StIn.below {w w' : World} {base OB N k : Nat} {X : Nat → Exm} {DW DM : Nat → List Int} (h : StIn w base OB N k X DW DM) (hb : Below w.heap.size w w') : StIn w' base OB N k X DW DM := ⟨fun j hj => (h.1 j hj).below hb, h.2⟩
theorem StIn.setO {w : World} {base OB N k : Nat} {X : Nat → Exm} {DW DM : Nat → List Int} (h : StIn w base OB N k X DW DM) (i : Nat) (u : Value) : StIn (w.setCell ⟨OB, i, none⟩ u) base OB N k X DW DM := ⟨fun j hj => (h.1 j hj).setO i u, h.2⟩
theorem StIn.push {w : World} {base OB N k : Nat} {X : Nat → Exm} {DW DM : Nat → List Int} (h : StIn w base OB N k X DW DM) {x : Exm} (hx : St1 w base OB N x (DW (k + 1)) (DM (k + 1))) (hap : ∀ i, i ≤ k → StApart (X i) x) : StIn w base OB N (k + 1) (fun j => if j = k + 1 then x else X j) DW DM := by
  refine ⟨fun j hj => ?_, fun i j h1 h2 => ?_⟩
  · by_cases e : j = k + 1
    · subst e; simp only [if_pos]; exact hx
    · simp only [if_neg e]; exact h.1 j (by omega)
  · have e1 : i ≠ k + 1 := by omega
    by_cases e : j = k + 1
    · subst e; simp only [if_neg e1, if_pos]; exact hap i (by omega)
    · simp only [if_neg e1, if_neg e]; exact h.2 i j h1 (by omega)

set_option maxRecDepth 100000 in
set_option maxHeartbeats 6400000 in
theorem tRun_own (I H O B : Nat) (seed crate decay how keep clip : Int) (hs : okW seed) (steps : Int) (hc : cfgB ⟨I, H, O, seed, B, steps, crate, decay, how, keep, clip⟩ = true) (N : Nat) (hN : N = H * I + H + O * H + O) (a : Option Addr) (n cap : Nat) (X : Nat → Exm) (DI DO : Nat → List Int) (nn : Nat) (w : World)
    (hx : Exs w a n cap X DI DO) (hn1 : 1 ≤ n) (hn2 : n ≤ 16) (hex : allEx ⟨I, H, O, seed, B, steps, crate, decay, how, keep, clip⟩ n X DI DO = true) (hnn : (nn : Int) ≤ steps) (HC : Hid (∀ q, Below w.heap.size w q → Calls Tryz.prog 17 #[Cfg.val ⟨I, H, O, seed, B, steps, crate, decay, how, keep, clip⟩, .slice a n cap] q fun e w' => e = .returned (.int .i64 0) ∧ Below q.heap.size q w')) :
    Calls Tryz.prog 9 #[Cfg.val ⟨I, H, O, seed, B, steps, crate, decay, how, keep, clip⟩, .slice a n cap, .int .i64 nn] w fun e w' => ∃ g Y, e = .returned (.tuple #[.slice (some ⟨g, 0, none⟩) (nn + 1) (nn + 1), .int .i64 0]) ∧ w.heap.size ≤ g ∧ w'.rowIs g 28 ((nn + 1) * 2) (outF Y (nn + 1)) ∧ StIn w' w.heap.size g N nn Y (fun j => (stateP ⟨I, H, O, seed, B, steps, crate, decay, how, keep, clip⟩ n DI DO N j).1) (fun j => (stateP ⟨I, H, O, seed, B, steps, crate, decay, how, keep, clip⟩ n DI DO N j).2) ∧ Below w.heap.size w w' := by
  obtain ⟨_, _, _, _, ⟨s1, s2⟩, _⟩ := cfgB_is hc
  dsimp only at s1 s2
  obtain ⟨DW, HDW⟩ : ∃ f : Nat → List Int, Hid (∀ j, f j = (stateP ⟨I, H, O, seed, B, steps, crate, decay, how, keep, clip⟩ n DI DO N j).1) := ⟨_, fun _ => rfl⟩
  obtain ⟨DM, HDM⟩ : ∃ f : Nat → List Int, Hid (∀ j, f j = (stateP ⟨I, H, O, seed, B, steps, crate, decay, how, keep, clip⟩ n DI DO N j).2) := ⟨_, fun _ => rfl⟩
  have hEW : (fun j => (stateP ⟨I, H, O, seed, B, steps, crate, decay, how, keep, clip⟩ n DI DO N j).1) = DW := funext fun j => (HDW.out j).symm
  have hEM : (fun j => (stateP ⟨I, H, O, seed, B, steps, crate, decay, how, keep, clip⟩ n DI DO N j).2) = DM := funext fun j => (HDM.out j).symm
  rw [hEW, hEM]
  clear hEW hEM
  have hNI : (N : Int) = sizeN ⟨I, H, O, seed, B, steps, crate, decay, how, keep, clip⟩ := by unfold sizeN; dsimp only; rw [hN]; push_cast; rfl
  have HNM : Hid (N ≤ maxLen) := by show N ≤ maxLen; have := sizeN_bd hc; unfold maxLen; omega
  have HLN : Hid (∀ j, (DW j).length = N ∧ (DM j).length = N) := fun j => by rw [HDW.out, HDM.out]; exact stateP_len ⟨I, H, O, seed, B, steps, crate, decay, how, keep, clip⟩ n DI DO N j
  have HS : Hid (∀ q, Calls Tryz.prog 20 #[Cfg.val ⟨I, H, O, seed, B, steps, crate, decay, how, keep, clip⟩] q fun e w' => ∃ ga gb, e = .returned (.agg #[.slice (some ⟨ga, 0, none⟩) N N, .slice (some ⟨gb, 0, none⟩) N N]) ∧ q.heap.size ≤ ga ∧ q.heap.size ≤ gb ∧ ga ≠ gb ∧ Arr w' ga N N (fun i => (DW 0).getD i 0) ∧ Arr w' gb N N (fun i => (DM 0).getD i 0) ∧ Below q.heap.size q w') := fun q => by
    refine (tstart_own ⟨I, H, O, seed, B, steps, crate, decay, how, keep, clip⟩ hc hs N hNI q).mono ?_
    rintro e w' ⟨ga, gb, he, h1, h2, h3, h4, h5, h6⟩
    refine ⟨ga, gb, he, h1, h2, h3, h4.congr (fun i hi => ?_), h5.congr (fun i hi => ?_), h6⟩
    · rw [HDW.out]; exact (getD_range _ hi).symm
    · rw [HDM.out]; exact (getD_range _ hi).symm
  have HNX : Hid (∀ (q : World) (k : Nat) (a1 : Option Addr) (k1 : Nat) (a2 : Option Addr) (k2 : Nat), Below w.heap.size w q → (k : Int) ≤ steps - 1 → Lst q a1 N k1 (DW k) → Lst q a2 N k2 (DM k) → Calls Tryz.prog 21 #[Cfg.val ⟨I, H, O, seed, B, steps, crate, decay, how, keep, clip⟩, .slice a n cap, .agg #[.slice a1 N k1, .slice a2 N k2], .int .i64 k] q fun e w' => ∃ na d1 nb d2 bg R, e = .returned (.tuple #[.agg #[.slice (some ⟨na, 0, none⟩) N d1, .slice (some ⟨nb, 0, none⟩) N d2], .slice (some ⟨bg, 0, none⟩) B B, .int .i64 R]) ∧ q.heap.size ≤ na ∧ q.heap.size ≤ nb ∧ na ≠ nb ∧ (d1 ≤ maxLen ∧ d2 ≤ maxLen) ∧ Arr w' na d1 N (fun i => (DW (k + 1)).getD i 0) ∧ Arr w' nb d2 N (fun i => (DM (k + 1)).getD i 0) ∧ Below q.heap.size q w') := fun q k a1 k1 a2 k2 hq hk l1 l2 => by
    have hr := stateP_right ⟨I, H, O, seed, B, steps, crate, decay, how, keep, clip⟩ n DI DO N k
    rw [← HDW.out, ← HDM.out] at hr
    refine (tnext_own I H O B k seed crate decay how keep clip hs steps hc N hN a n cap X DI DO a1 k1 (DW k) a2 k2 (DM k) q (hx.below hq (Nat.le_refl _)) hn1 hn2 hex l1 l2 hr.1 hr.2 hk).mono ?_
    rintro e w' ⟨x1, e1, x2, e2, bg, he, g⟩
    refine ⟨x1, e1, x2, e2, bg, _, he, g.f1, g.f2, g.n12, g.cap, g.a1.congr (fun i hi => ?_), g.a2.congr (fun i hi => ?_), g.bel⟩
    · rw [HDW.out (k + 1), HDW.out k, HDM.out k]; exact (getD_range _ hi).symm
    · rw [HDM.out (k + 1), HDW.out k, HDM.out k]; exact (getD_range _ hi).symm
  have hal := low_alloc w (.cells (Cfg.cells ⟨I, H, O, seed, B, steps, crate, decay, how, keep, clip⟩) 24)
  have CK := HC.out _ hal
  have KB : Hid (∀ q, Below (w.alloc (.cells (Cfg.cells ⟨I, H, O, seed, B, steps, crate, decay, how, keep, clip⟩) 24)).heap.size (w.alloc (.cells (Cfg.cells ⟨I, H, O, seed, B, steps, crate, decay, how, keep, clip⟩) 24)) q → BoxC q w.heap.size ⟨I, H, O, seed, B, steps, crate, decay, how, keep, clip⟩) := fun q hq => boxC hq (by simp)
  have hmk := makeS nn (by omega)
  clear HC hx hex hc hN hNI hs HDW HDM
  simp only [Cfg.val, Cfg.cells] at *
  go_enter Tryz.func9, Tryz.ntmps9
  go_wp2_with fail
  refine CK.mono ?_
  rintro e w1 ⟨rfl, hw1⟩
  have KB1 : Hid (∀ q, Below w1.heap.size w1 q → BoxC q w.heap.size ⟨I, H, O, seed, B, steps, crate, decay, how, keep, clip⟩) := fun q hq => KB.out q (hw1.trans (hq.mono hw1.size))
  have hb1 := hal.trans (hw1.mono hal.size)
  have hlt1 : w.heap.size < w1.heap.size := by have := hw1.size; simp at this; omega
  clear CK KB hw1 hal
  have T0 : Below w1.heap.size w1 w1 := Below.refl _ _
  have Ta : Below w1.heap.size w1 (w1.alloc (.cells (madeCells #[.slice none 0 0, .slice none 0 0] ((nn + 1) * 2)) 28)) := T0.alloc T0.size _
  obtain ⟨c0, c1, c2, c3, c4, c5, c6, c7, c8, c9, c10⟩ := KB1.out _ T0
  obtain ⟨e0, e1, e2, e3, e4, e5, e6, e7, e8, e9, e10⟩ := KB1.out _ Ta
  dsimp only at c0 c1 c2 c3 c4 c5 c6 c7 c8 c9 c10 e0 e1 e2 e3 e4 e5 e6 e7 e8 e9 e10
  have rowz := made2 w1 (.slice none 0 0) ((nn + 1) * 2) 28
  have z0 : ¬ (nn : Int) < 0 := by omega
  have z1 : ¬ steps < (nn : Int) := by omega
  go_wp2_with fail
  refine (HS.out _).mono ?_
  rintro e w2 ⟨ga, gb, rfl, hga, hgb, hgn, l1, l2, hw2⟩
  have hgs : (w1.alloc (.cells (madeCells #[.slice none 0 0, .slice none 0 0] ((nn + 1) * 2)) 28)).heap.size = w1.heap.size + 1 := by simp
  rw [hgs] at hga hgb
  have T2 := Ta.trans (hw2.mono Ta.size)
  have row2 := rowz.of_block (hw2.block _ rowz.lt)
  have y0 : w2.cell? ⟨w1.heap.size, 0, none⟩ = some (.slice none 0 0) := row2.cell (by omega)
  have y1 : w2.cell? ⟨w1.heap.size, 1, none⟩ = some (.slice none 0 0) := row2.cell (by omega)
  have x0 := row2.frozen 0
  have x1 := row2.frozen 1
  have i0 : (0 : Int) < (nn : Int) + 1 := by omega
  clear c0 c1 c2 c3 c4 c5 c6 c7 c8 c9 c10 e0 e1 e2 e3 e4 e5 e6 e7 e8 e9 e10 hw2 rowz HS hmk
  go_wp2_with fail
  have y1' : (w2.setCell ⟨w1.heap.size, 0, none⟩ (.slice (some ⟨ga, 0, none⟩) N N)).cell? ⟨w1.heap.size, 1, none⟩ = some (.slice none 0 0) := (row2.set 0 _).cell (i := 1) (by omega)
  have row3 := outF_push (X := fun _ => ⟨some ⟨ga, 0, none⟩, N, N, some ⟨gb, 0, none⟩, N, N⟩) (outF_zero row2) ⟨some ⟨ga, 0, none⟩, N, N, some ⟨gb, 0, none⟩, N, N⟩
  have st3 : StIn ((w2.setCell ⟨w1.heap.size, 0, none⟩ (.slice (some ⟨ga, 0, none⟩) N N)).setCell ⟨w1.heap.size, 1, none⟩ (.slice (some ⟨gb, 0, none⟩) N N)) w.heap.size w1.heap.size N 0 (fun j => if j = 0 then ⟨some ⟨ga, 0, none⟩, N, N, some ⟨gb, 0, none⟩, N, N⟩ else ⟨some ⟨ga, 0, none⟩, N, N, some ⟨gb, 0, none⟩, N, N⟩) DW DM := ⟨fun j hj => by
    obtain rfl : j = 0 := by omega
    exact ⟨ga, N, gb, N, rfl, by omega, by omega, by omega, by omega, hgn, ⟨HNM.out, HNM.out⟩, (l1.setOther (a := ⟨w1.heap.size, 0, none⟩) (show ga ≠ w1.heap.size by omega) _).setOther (a := ⟨w1.heap.size, 1, none⟩) (show ga ≠ w1.heap.size by omega) _, (l2.setOther (a := ⟨w1.heap.size, 0, none⟩) (show gb ≠ w1.heap.size by omega) _).setOther (a := ⟨w1.heap.size, 1, none⟩) (show gb ≠ w1.heap.size by omega) _⟩, fun i j h1 h2 => by omega⟩
  have T3 : Below w1.heap.size w1 ((w2.setCell ⟨w1.heap.size, 0, none⟩ (.slice (some ⟨ga, 0, none⟩) N N)).setCell ⟨w1.heap.size, 1, none⟩ (.slice (some ⟨gb, 0, none⟩) N N)) := (T2.setCell (Nat.le_refl _) _).setCell (Nat.le_refl _) _
  go_loopw [33] (fun v wr => ∃ (k : Nat) (Y : Nat → Exm), k ≤ nn ∧ v = .int .i64 k ∧ wr.rowIs w1.heap.size 28 ((nn + 1) * 2) (outF Y (k + 1)) ∧ StIn wr w.heap.size w1.heap.size N k Y DW DM ∧ Below w1.heap.size w1 wr) (fun v _ => nn - (intOf v).toNat)
  case atStart => exact ⟨0, _, Nat.zero_le _, rfl, row3, st3, T3⟩
  case round =>
    clear row3 st3 T3 y0 y1 y1' x0 x1 l1 l2 row2 T2 hga hgb hgs hgn
    obtain ⟨k, Y, hk, rfl, row, hst, hbel⟩ := hrel
    by_cases hlt : k < nn
    · have cells := outF_at row (show k < k + 1 by omega) (by omega)
      obtain ⟨g1, xk, g2, xt, hxk, _, _, _, _, _, _, ar1, ar2⟩ := hst.1 k (Nat.le_refl _)
      rw [hxk] at cells
      dsimp only at cells
      have lI := ar1.lst
      have lO := ar2.lst
      rw [getD_self (HLN.out k).1] at lI
      rw [getD_self (HLN.out k).2] at lO
      clear ar1 ar2
      obtain ⟨u0, u1⟩ := cells
      obtain ⟨m, HM⟩ : ∃ m : Nat, Hid (m = k + 1) := ⟨_, rfl⟩
      have em : (k : Int) + 1 = (m : Int) := by rw [HM.out]; omega
      have ew : IntKind.i64.wrap (m : Int) = (m : Int) := wrap_in _ (by have := HM.out; omega) (by have := HM.out; omega)
      have m0 : (0 : Int) ≤ (m : Int) := by omega
      have m1 : (m : Int) < (nn : Int) + 1 := by have := HM.out; omega
      have k0 : (0 : Int) ≤ (k : Int) := by omega
      have k2 : (k : Int) < (nn : Int) + 1 := by omega
      have mk : m < nn + 1 := by have := HM.out; omega
      have KS : Hid (∀ q, Below wr.heap.size wr q → q.cell? ⟨w.heap.size, 0, none⟩ = some (.int .i64 I) ∧ q.cell? ⟨w.heap.size, 1, none⟩ = some (.int .i64 H) ∧ q.cell? ⟨w.heap.size, 2, none⟩ = some (.int .i64 O) ∧ q.cell? ⟨w.heap.size, 3, none⟩ = some (.int .u64 seed) ∧ q.cell? ⟨w.heap.size, 4, none⟩ = some (.int .i64 B) ∧ q.cell? ⟨w.heap.size, 5, none⟩ = some (.int .i64 steps) ∧ q.cell? ⟨w.heap.size, 6, none⟩ = some (.int .i64 crate) ∧ q.cell? ⟨w.heap.size, 7, none⟩ = some (.int .i64 decay) ∧ q.cell? ⟨w.heap.size, 8, none⟩ = some (.int .i64 how) ∧ q.cell? ⟨w.heap.size, 9, none⟩ = some (.int .i64 keep) ∧ q.cell? ⟨w.heap.size, 10, none⟩ = some (.int .i64 clip) ∧ q.cell? ⟨w1.heap.size, k * 2, none⟩ = some (.slice (some ⟨g1, 0, none⟩) N xk) ∧ q.cell? ⟨w1.heap.size, k * 2 + 1, none⟩ = some (.slice (some ⟨g2, 0, none⟩) N xt)) := fun q hq => by
        obtain ⟨x0, x1, x2, x3, x4, x5, x6, x7, x8, x9, x10⟩ := KB1.out q (hbel.trans (hq.mono hbel.size))
        exact ⟨x0, x1, x2, x3, x4, x5, x6, x7, x8, x9, x10, (hq.cell (p := ⟨w1.heap.size, k * 2, none⟩) row.lt).trans u0, (hq.cell (p := ⟨w1.heap.size, k * 2 + 1, none⟩) row.lt).trans u1⟩
      have bd : Below wr.heap.size wr wr.drew := below_drewN (Below.refl _ _) 1
      have S0 := KS.out _ bd
      have NX := HNX.out wr.drew k (some ⟨g1, 0, none⟩) xk (some ⟨g2, 0, none⟩) xt (hb1.trans ((hbel.trans (bd.mono hbel.size)).mono hb1.size)) (by omega) (lI.below bd (Nat.le_refl _)) (lO.below bd (Nat.le_refl _))
      have HNX2 : Hid (Calls Tryz.prog 21 #[.agg #[.int .i64 I, .int .i64 H, .int .i64 O, .int .u64 seed, .int .i64 B, .int .i64 steps, .int .i64 crate, .int .i64 decay, .int .i64 how, .int .i64 keep, .int .i64 clip], .slice a n cap, .agg #[.slice (some ⟨g1, 0, none⟩) N xk, .slice (some ⟨g2, 0, none⟩) N xt], .int .i64 k] wr.drew fun e w' => ∃ na d1 nb d2 bg R, e = .returned (.tuple #[.agg #[.slice (some ⟨na, 0, none⟩) N d1, .slice (some ⟨nb, 0, none⟩) N d2], .slice (some ⟨bg, 0, none⟩) B B, .int .i64 R]) ∧ wr.drew.heap.size ≤ na ∧ wr.drew.heap.size ≤ nb ∧ na ≠ nb ∧ (d1 ≤ maxLen ∧ d2 ≤ maxLen) ∧ Arr w' na d1 N (fun i => (DW (k + 1)).getD i 0) ∧ Arr w' nb d2 N (fun i => (DM (k + 1)).getD i 0) ∧ Below wr.drew.heap.size wr.drew w') := NX
      clear NX lI lO hxk
      go_wp2_with fail
      go_region_held3 (fun q => q.cell? ⟨w.heap.size, 0, none⟩ = some (.int .i64 I) ∧ q.cell? ⟨w.heap.size, 1, none⟩ = some (.int .i64 H) ∧ q.cell? ⟨w.heap.size, 2, none⟩ = some (.int .i64 O) ∧ q.cell? ⟨w.heap.size, 3, none⟩ = some (.int .u64 seed) ∧ q.cell? ⟨w.heap.size, 4, none⟩ = some (.int .i64 B) ∧ q.cell? ⟨w.heap.size, 5, none⟩ = some (.int .i64 steps) ∧ q.cell? ⟨w.heap.size, 6, none⟩ = some (.int .i64 crate) ∧ q.cell? ⟨w.heap.size, 7, none⟩ = some (.int .i64 decay) ∧ q.cell? ⟨w.heap.size, 8, none⟩ = some (.int .i64 how) ∧ q.cell? ⟨w.heap.size, 9, none⟩ = some (.int .i64 keep) ∧ q.cell? ⟨w.heap.size, 10, none⟩ = some (.int .i64 clip) ∧ q.cell? ⟨w1.heap.size, k * 2, none⟩ = some (.slice (some ⟨g1, 0, none⟩) N xk) ∧ q.cell? ⟨w1.heap.size, k * 2 + 1, none⟩ = some (.slice (some ⟨g2, 0, none⟩) N xt)) (first | with_reducible exact S0 | with_reducible exact S2 | with_reducible exact S1)
        (first | (go_at_call 21; refine HNX2.out.mono ?_; rintro e v1 ⟨na, d1, nb, d2, bg, R, rfl, q1d, q2d, q3, q4, lw, lm, hv1d⟩; have q1 : wr.heap.size ≤ na := q1d; have q2 : wr.heap.size ≤ nb := q2d; have hv1 := undrew hv1d; have S1 := KS.out _ hv1; have row1 := row.of_block (hv1.block _ row.lt); have o0 : v1.cell? ⟨w1.heap.size, m * 2, none⟩ = some (.slice none 0 0) := outF_new row1 (by have := HM.out; omega) (by omega); have o1 : v1.cell? ⟨w1.heap.size, m * 2 + 1, none⟩ = some (.slice none 0 0) := outF_new row1 (by have := HM.out; omega) (by omega); have p0 := row1.frozen (m * 2); have p1 := row1.frozen (m * 2 + 1); have rowm : v1.rowIs w1.heap.size 28 ((nn + 1) * 2) (outF Y m) := (by rw [HM.out]; exact row1); have row2 := outF_push rowm ⟨some ⟨na, 0, none⟩, N, d1, some ⟨nb, 0, none⟩, N, d2⟩; have o1' : (v1.setCell ⟨w1.heap.size, m * 2, none⟩ (.slice (some ⟨na, 0, none⟩) N d1)).cell? ⟨w1.heap.size, m * 2 + 1, none⟩ = some (.slice none 0 0) := (by have h := (rowm.set (m * 2) (.slice (some ⟨na, 0, none⟩) N d1)).cell (i := m * 2 + 1) (by omega); rw [if_neg (by omega)] at h; have h2 := o1; rw [rowm.cell (by omega)] at h2; exact h.trans h2); have p1' := (rowm.set (m * 2) (.slice (some ⟨na, 0, none⟩) N d1)).frozen (m * 2 + 1); have bel2 : Below w1.heap.size w1 ((v1.setCell ⟨w1.heap.size, m * 2, none⟩ (.slice (some ⟨na, 0, none⟩) N d1)).setCell ⟨w1.heap.size, m * 2 + 1, none⟩ (.slice (some ⟨nb, 0, none⟩) N d2)) := ((hbel.trans (hv1.mono hbel.size)).setCell (Nat.le_refl _) _).setCell (Nat.le_refl _) _; have S2 : (fun q : World => q.cell? ⟨w.heap.size, 0, none⟩ = some (.int .i64 I) ∧ q.cell? ⟨w.heap.size, 1, none⟩ = some (.int .i64 H) ∧ q.cell? ⟨w.heap.size, 2, none⟩ = some (.int .i64 O) ∧ q.cell? ⟨w.heap.size, 3, none⟩ = some (.int .u64 seed) ∧ q.cell? ⟨w.heap.size, 4, none⟩ = some (.int .i64 B) ∧ q.cell? ⟨w.heap.size, 5, none⟩ = some (.int .i64 steps) ∧ q.cell? ⟨w.heap.size, 6, none⟩ = some (.int .i64 crate) ∧ q.cell? ⟨w.heap.size, 7, none⟩ = some (.int .i64 decay) ∧ q.cell? ⟨w.heap.size, 8, none⟩ = some (.int .i64 how) ∧ q.cell? ⟨w.heap.size, 9, none⟩ = some (.int .i64 keep) ∧ q.cell? ⟨w.heap.size, 10, none⟩ = some (.int .i64 clip) ∧ q.cell? ⟨w1.heap.size, k * 2, none⟩ = some (.slice (some ⟨g1, 0, none⟩) N xk) ∧ q.cell? ⟨w1.heap.size, k * 2 + 1, none⟩ = some (.slice (some ⟨g2, 0, none⟩) N xt)) ((v1.setCell ⟨w1.heap.size, m * 2, none⟩ (.slice (some ⟨na, 0, none⟩) N d1)).setCell ⟨w1.heap.size, m * 2 + 1, none⟩ (.slice (some ⟨nb, 0, none⟩) N d2)) := (by obtain ⟨x0, x1, x2, x3, x4, x5, x6, x7, x8, x9, x10⟩ := KB1.out _ bel2; have hc := outF_at row2 (show k < m + 1 by have := HM.out; omega) (by omega); have hne : k ≠ m := (by have := HM.out; omega); have hk0 : w1.heap.size = w1.heap.size := rfl; exact ⟨x0, x1, x2, x3, x4, x5, x6, x7, x8, x9, x10, (World.cell?_setCell_other _ _ _ _ (by simp <;> omega)).trans ((World.cell?_setCell_other _ _ _ _ (by simp <;> omega)).trans S1.2.2.2.2.2.2.2.2.2.2.2.1), (World.cell?_setCell_other _ _ _ _ (by simp <;> omega)).trans ((World.cell?_setCell_other _ _ _ _ (by simp <;> omega)).trans S1.2.2.2.2.2.2.2.2.2.2.2.2)⟩); dsimp only at S2))
      have st2 := hst.below hv1
      have st4 := (st2.setO (m * 2) (.slice (some ⟨na, 0, none⟩) N d1)).setO (m * 2 + 1) (.slice (some ⟨nb, 0, none⟩) N d2)
      have hrl := row.lt
      have hble := hb1.size
      have lw4 := (lw.setOther (a := ⟨w1.heap.size, m * 2, none⟩) (show na ≠ w1.heap.size by omega) (.slice (some ⟨na, 0, none⟩) N d1)).setOther (a := ⟨w1.heap.size, m * 2 + 1, none⟩) (show na ≠ w1.heap.size by omega) (.slice (some ⟨nb, 0, none⟩) N d2)
      have lm4 := (lm.setOther (a := ⟨w1.heap.size, m * 2, none⟩) (show nb ≠ w1.heap.size by omega) (.slice (some ⟨na, 0, none⟩) N d1)).setOther (a := ⟨w1.heap.size, m * 2 + 1, none⟩) (show nb ≠ w1.heap.size by omega) (.slice (some ⟨nb, 0, none⟩) N d2)
      have st5 := st4.push (x := ⟨some ⟨na, 0, none⟩, N, d1, some ⟨nb, 0, none⟩, N, d2⟩) ⟨na, d1, nb, d2, rfl, by omega, by omega, by omega, by omega, q3, q4, lw4, lm4⟩ (fun t ht => (hst.1 t ht).apart q1 q2)
      rw [← HM.out] at st5
      clear S0 S1 S2 KS bd HNX2 o0 o1 o1' p0 p1 p1' u0 u1 st2 st4 lw lm lw4 lm4 hv1 hv1d row1 rowm hst hbel row
      go_wp2_with fail
      go_roundw
      case rel => exact ⟨m, _, by omega, by first | rfl | go_num, row2, st5, bel2⟩
      case measure => simp [intOf]; have := HM.out; omega
    · obtain rfl : k = nn := by omega
      go_wp2_with fail
      go_ret2
      exact ⟨w1.heap.size, Y, rfl, hb1.size, row, hst, hb1.trans (hbel.mono hb1.size)⟩

theorem tRun_good (I H O B : Nat) (seed crate decay how keep clip : Int) (hs : okW seed) (steps : Int) (hc : cfgB ⟨I, H, O, seed, B, steps, crate, decay, how, keep, clip⟩ = true) (N : Nat) (hN : N = H * I + H + O * H + O) (a : Option Addr) (n cap : Nat) (X : Nat → Exm) (DI DO : Nat → List Int) (nn : Nat) (w : World)
    (hx : Exs w a n cap X DI DO) (hn1 : 1 ≤ n) (hn2 : n ≤ 16) (hex : allEx ⟨I, H, O, seed, B, steps, crate, decay, how, keep, clip⟩ n X DI DO = true) (hnn : (nn : Int) ≤ steps) (HC : Hid (∀ q, Below w.heap.size w q → Calls Tryz.prog 17 #[Cfg.val ⟨I, H, O, seed, B, steps, crate, decay, how, keep, clip⟩, .slice a n cap] q fun e w' => e = .returned (.int .i64 0) ∧ Below q.heap.size q w')) :
    Calls Tryz.prog 9 #[Cfg.val ⟨I, H, O, seed, B, steps, crate, decay, how, keep, clip⟩, .slice a n cap, .int .i64 nn] w fun e w' => ∃ g Y, e = .returned (.tuple #[.slice (some ⟨g, 0, none⟩) (nn + 1) (nn + 1), .int .i64 0]) ∧ Exs w' (some ⟨g, 0, none⟩) (nn + 1) (nn + 1) Y (fun j => (stateP ⟨I, H, O, seed, B, steps, crate, decay, how, keep, clip⟩ n DI DO N j).1) (fun j => (stateP ⟨I, H, O, seed, B, steps, crate, decay, how, keep, clip⟩ n DI DO N j).2) ∧ Below w.heap.size w w' := by
  refine (tRun_own I H O B seed crate decay how keep clip hs steps hc N hN a n cap X DI DO nn w hx hn1 hn2 hex hnn HC).mono ?_
  rintro e w' ⟨g, Y, he, _, row, hst, hb⟩
  refine ⟨g, Y, he, ⟨Nat.le_refl _, .inr ⟨g, 0, rfl, row.lt, fun j hj => ?_⟩⟩, hb⟩
  have hcl := outF_at row hj (Nat.le_refl _)
  rw [Nat.zero_add]
  have hl := stateP_len ⟨I, H, O, seed, B, steps, crate, decay, how, keep, clip⟩ n DI DO N j
  exact ⟨hcl.1, hcl.2, (hst.1 j (by omega)).inEx hl.1 hl.2⟩
end Go.Proofs.YtkikhfdkibekgaaGreat.Fx

/- What train.Run returns, whatever is handed in. -/
namespace Go.Proofs.YtkikhfdkibekgaaGreat.Fx
open Go.RowKit

def runE (c : Cfg) (n : Nat) (X : Nat → Exm) (DI DO : Nat → List Int) (m : Int) : Int := if courseI c n X DI DO = 0 then (if inB m 0 c.steps = true then 0 else 1) else courseI c n X DI DO
def runN (c : Cfg) (n : Nat) (X : Nat → Exm) (DI DO : Nat → List Int) (m : Int) : Nat := if runE c n X DI DO m = 0 then m.toNat + 1 else 0
def stW (c : Cfg) (n : Nat) (DI DO : Nat → List Int) (j : Nat) : List Int := (stateP c n DI DO (sizeN c).toNat j).1
def stM (c : Cfg) (n : Nat) (DI DO : Nat → List Int) (j : Nat) : List Int := (stateP c n DI DO (sizeN c).toNat j).2
theorem Exs.nil (w : World) (a : Option Addr) (cap : Nat) (X : Nat → Exm) (DI DO : Nat → List Int) : Exs w a 0 cap X DI DO := ⟨Nat.zero_le _, .inl rfl⟩
def noEx (_ : Nat) : Exm := ⟨none, 0, 0, none, 0, 0⟩

set_option maxHeartbeats 800000 in
theorem tRun_c (c : Cfg) (a : Option Addr) (n cap : Nat) (m E : Int) (w : World) (hE : E ≠ 0) (HC : Hid (∀ q, Below w.heap.size w q → Calls Tryz.prog 17 #[c.val, .slice a n cap] q fun e w' => e = .returned (.int .i64 E) ∧ Below q.heap.size q w')) :
    Calls Tryz.prog 9 #[c.val, .slice a n cap, .int .i64 m] w fun e w' => e = .returned (.tuple #[.slice none 0 0, .int .i64 E]) ∧ Below w.heap.size w w' := by
  have hal := low_alloc w (.cells c.cells 24)
  have hne : (E != 0) = true := by rw [bne_iff_ne]; exact hE
  have CK := HC.out _ hal
  clear hE HC
  obtain ⟨i, h, o, seed, batch, steps, crate, decay, how, keep, clip⟩ := c
  simp only [Cfg.val, Cfg.cells] at *
  go_enter Tryz.func9, Tryz.ntmps9
  go_wp2_with fail
  refine CK.mono ?_
  rintro e w1 ⟨rfl, hw1⟩
  go_wp2_with fail
  go_ret2
  exact ⟨rfl, hal.trans (hw1.mono hal.size)⟩

set_option maxHeartbeats 800000 in
theorem tRun_r (c : Cfg) (a : Option Addr) (n cap : Nat) (m : Int) (w : World) (hm : inB m 0 c.steps = false) (HC : Hid (∀ q, Below w.heap.size w q → Calls Tryz.prog 17 #[c.val, .slice a n cap] q fun e w' => e = .returned (.int .i64 0) ∧ Below q.heap.size q w')) :
    Calls Tryz.prog 9 #[c.val, .slice a n cap, .int .i64 m] w fun e w' => e = .returned (.tuple #[.slice none 0 0, .int .i64 1]) ∧ Below w.heap.size w w' := by
  have hlow : ¬ (0 ≤ m ∧ m ≤ c.steps) := fun g => by rw [in_yes g] at hm; cases hm
  have hal := low_alloc w (.cells c.cells 24)
  have CK := HC.out _ hal
  have KB : Hid (∀ q, Below (w.alloc (.cells c.cells 24)).heap.size (w.alloc (.cells c.cells 24)) q → BoxC q w.heap.size c) := fun q hq => boxC hq (by simp)
  clear hm HC
  obtain ⟨i, h, o, seed, batch, steps, crate, decay, how, keep, clip⟩ := c
  simp only [Cfg.val, Cfg.cells] at *
  by_cases hn : m < 0
  · go_enter Tryz.func9, Tryz.ntmps9
    go_wp2_with fail
    refine CK.mono ?_
    rintro e w1 ⟨rfl, hw1⟩
    go_wp2_with fail
    go_ret2
    exact ⟨rfl, hal.trans (hw1.mono hal.size)⟩
  · have hge : steps < m := by omega
    go_enter Tryz.func9, Tryz.ntmps9
    go_wp2_with fail
    refine CK.mono ?_
    rintro e w1 ⟨rfl, hw1⟩
    have c5 := (KB.out _ hw1).c5
    dsimp only at c5
    go_wp2_with fail
    go_ret2
    exact ⟨rfl, hal.trans (hw1.mono hal.size)⟩

theorem tRun_calls (c : Cfg) (hs : okW c.seed) (a : Option Addr) (n cap : Nat) (X : Nat → Exm) (DI DO : Nat → List Int) (m : Int) (w : World) (hx : Exs w a n cap X DI DO) :
    Calls Tryz.prog 9 #[c.val, .slice a n cap, .int .i64 m] w fun e w' => ∃ b k Y, e = .returned (.tuple #[.slice b (runN c n X DI DO m) k, .int .i64 (runE c n X DI DO m)]) ∧ Exs w' b (runN c n X DI DO m) k Y (stW c n DI DO) (stM c n DI DO) ∧ Below w.heap.size w w' := by
  have HC : ∀ q, Below w.heap.size w q → Calls Tryz.prog 17 #[c.val, .slice a n cap] q fun e w' => e = .returned (.int .i64 (courseI c n X DI DO)) ∧ Below q.heap.size q w' := fun q hq => tcheck_calls c a n cap X DI DO q (hx.below hq (Nat.le_refl _))
  have bad : ∀ E : Int, E ≠ 0 → runE c n X DI DO m = E → Calls Tryz.prog 9 #[c.val, .slice a n cap, .int .i64 m] w (fun e w' => e = .returned (.tuple #[.slice none 0 0, .int .i64 E]) ∧ Below w.heap.size w w') →
      Calls Tryz.prog 9 #[c.val, .slice a n cap, .int .i64 m] w fun e w' => ∃ b k Y, e = .returned (.tuple #[.slice b (runN c n X DI DO m) k, .int .i64 (runE c n X DI DO m)]) ∧ Exs w' b (runN c n X DI DO m) k Y (stW c n DI DO) (stM c n DI DO) ∧ Below w.heap.size w w' := by
    intro E hE he hcall
    refine hcall.mono ?_
    rintro e w' ⟨rfl, hb⟩
    unfold runN
    rw [he, if_neg hE]
    exact ⟨none, 0, noEx, rfl, Exs.nil _ _ _ _ _ _, hb⟩
  by_cases hE : courseI c n X DI DO = 0
  · rw [hE] at HC
    obtain ⟨hc, hn1, hn2, hex⟩ := course_ok hE
    cases hm : inB m 0 c.steps with
    | false => exact bad 1 (by decide) (by unfold runE; rw [if_pos hE, hm]; rfl) (tRun_r c a n cap m w hm HC)
    | true =>
      have hz : runE c n X DI DO m = 0 := by unfold runE; rw [if_pos hE, hm]; rfl
      have hlow := in_is hm
      obtain ⟨M, hM⟩ := Int.eq_ofNat_of_zero_le hlow.1
      have hRN : runN c n X DI DO m = M + 1 := by unfold runN; rw [if_pos hz, hM]; rfl
      rw [hRN, hz]
      obtain ⟨⟨i1, i2⟩, ⟨h1, h2⟩, ⟨o1, o2⟩, ⟨b1, b2⟩, _⟩ := cfgB_is hc
      have hzn := sizeN_bd hc
      obtain ⟨N, hNz⟩ := Int.eq_ofNat_of_zero_le (show 0 ≤ sizeN c by omega)
      have hNt : (sizeN c).toNat = N := by rw [hNz]; rfl
      unfold stW stM
      rw [hNt]
      clear bad hRN hz hm
      subst hM
      obtain ⟨i, h, o, seed, batch, steps, crate, decay, how, keep, clip⟩ := c
      dsimp only at i1 i2 h1 h2 o1 o2 b1 b2 hs hlow
      obtain ⟨I, rfl⟩ := Int.eq_ofNat_of_zero_le (show 0 ≤ i by omega)
      obtain ⟨H, rfl⟩ := Int.eq_ofNat_of_zero_le (show 0 ≤ h by omega)
      obtain ⟨O, rfl⟩ := Int.eq_ofNat_of_zero_le (show 0 ≤ o by omega)
      obtain ⟨B, rfl⟩ := Int.eq_ofNat_of_zero_le (show 0 ≤ batch by omega)
      have hN : N = H * I + H + O * H + O := by have := hNz.symm; unfold sizeN at this; dsimp only at this; exact_mod_cast this
      refine (tRun_good I H O B seed crate decay how keep clip hs steps hc N hN a n cap X DI DO M w hx hn1 hn2 hex (by omega) HC).mono ?_
      rintro e w' ⟨g, Y, he, hY, hb⟩
      exact ⟨some ⟨g, 0, none⟩, M + 1, Y, he, hY, hb⟩
  · exact bad _ hE (by unfold runE; rw [if_neg hE]) (tRun_c c a n cap m _ w hE HC)
end Go.Proofs.YtkikhfdkibekgaaGreat.Fx

/- What package spot's Prove and Holds answer, in plain numbers, for every input; what a law may ask of them is said as a contract that is handed in. -/
namespace Go.Proofs.YtkikhfdkibekgaaGreat.Fx
open Go.RowKit

def prE (c : Cfg) (n : Nat) (X : Nat → Exm) (DI DO : Nat → List Int) (step : Int) : Int := if courseI c n X DI DO = 0 then (if inB step 0 (c.steps - 1) = true then 0 else 1) else courseI c n X DI DO
def prW (c : Cfg) (n : Nat) (X : Nat → Exm) (DI DO : Nat → List Int) (step : Int) : List Int := if prE c n X DI DO step = 0 then stW c n DI DO step.toNat else []
def prM (c : Cfg) (n : Nat) (X : Nat → Exm) (DI DO : Nat → List Int) (step : Int) : List Int := if prE c n X DI DO step = 0 then stM c n DI DO step.toNat else []
theorem prE_ok {c : Cfg} {n : Nat} {X : Nat → Exm} {DI DO : Nat → List Int} {step : Int} (h : prE c n X DI DO step = 0) : courseI c n X DI DO = 0 ∧ inB step 0 (c.steps - 1) = true := by
  unfold prE at h
  by_cases h1 : courseI c n X DI DO = 0
  · rw [if_pos h1] at h
    by_cases h2 : inB step 0 (c.steps - 1) = true
    · exact ⟨h1, h2⟩
    · rw [if_neg h2] at h; cases h
  · rw [if_neg h1] at h; exact absurd h h1
theorem prE_in {c : Cfg} {n : Nat} {X : Nat → Exm} {DI DO : Nat → List Int} {step : Int} (h1 : courseI c n X DI DO = 0) (h2 : inB step 0 (c.steps - 1) = true) : prE c n X DI DO step = 0 ∧ prW c n X DI DO step = stW c n DI DO step.toNat ∧ prM c n X DI DO step = stM c n DI DO step.toNat := by
  have h : prE c n X DI DO step = 0 := by unfold prE; rw [if_pos h1, if_pos h2]
  exact ⟨h, by unfold prW; rw [if_pos h], by unfold prM; rw [if_pos h]⟩
def hoB (c : Cfg) (n : Nat) (X : Nat → Exm) (DI DO : Nat → List Int) (n1 : Nat) (ws : List Int) (n2 : Nat) (ms : List Int) (step root : Int) (x : Rcm) (xs : List Int) : Bool :=
  if nextE c n X DI DO n1 ws n2 ms step = 0 then (decide (rootV n1 ws n2 ms = root % 2305843009213693951) && jgB c n X DI DO n1 ws n2 ms step x xs) else false

structure SpBox (w : World) (c : Cfg) (v0 v1 : Value) (x : Rcm) (wr : World) : Prop where
  cfg : BoxC wr w.heap.size c
  st : wr.rowIs (w.heap.size + 1) 28 2 (fn2 v0 v1)
  ra : wr.rowIs (w.heap.size + 1 + 1) 30 5 (fn5 (.int .i64 x.s) (.slice x.a x.n x.k) (.int .i64 x.r) (.int .u64 x.root) (.int .u64 x.chain))
  bel : Below w.heap.size w wr
theorem SpBox.start (w : World) (c : Cfg) (v0 v1 : Value) (x : Rcm) : SpBox w c v0 v1 x (((w.alloc (.cells c.cells 24)).alloc (.cells #[v0, v1] 28)).alloc (.cells x.cells 30)) := by
  refine ⟨?_, ?_, ?_, (((Below.refl w.heap.size w).alloc (Nat.le_refl _) _).alloc (by simp) _).alloc (by simp; omega) _⟩
  · exact boxC (B := w.heap.size + 1) (((Below.refl _ _).alloc (by simp) _).alloc (by simp) _) (by omega)
  · have h := (fn2_alloc (w.alloc (.cells c.cells 24)) v0 v1 28).alloc (.cells x.cells 30)
    simpa using h
  · have h := fn5_alloc ((w.alloc (.cells c.cells 24)).alloc (.cells #[v0, v1] 28)) (.int .i64 x.s) (.slice x.a x.n x.k) (.int .i64 x.r) (.int .u64 x.root) (.int .u64 x.chain) 30
    simpa [Rcm.cells] using h
theorem SpBox.below {w : World} {c : Cfg} {v0 v1 : Value} {x : Rcm} {wr w2 : World} (h : SpBox w c v0 v1 x wr) (hb : Below wr.heap.size wr w2) : SpBox w c v0 v1 x w2 := by
  have l2 := h.ra.lt
  have k : ∀ i, w2.cell? ⟨w.heap.size, i, none⟩ = wr.cell? ⟨w.heap.size, i, none⟩ := fun i => hb.cell (p := ⟨w.heap.size, i, none⟩) (by show w.heap.size < _; omega)
  exact ⟨⟨(k 0).trans h.cfg.c0, (k 1).trans h.cfg.c1, (k 2).trans h.cfg.c2, (k 3).trans h.cfg.c3, (k 4).trans h.cfg.c4, (k 5).trans h.cfg.c5, (k 6).trans h.cfg.c6, (k 7).trans h.cfg.c7, (k 8).trans h.cfg.c8, (k 9).trans h.cfg.c9, (k 10).trans h.cfg.c10⟩,
    h.st.of_block (hb.block _ (by omega)), h.ra.of_block (hb.block _ l2), h.bel.trans (hb.mono h.bel.size)⟩

/-- What spot.Holds is to answer. -/
def HoldsSays : Prop := ∀ (c : Cfg), okW c.seed → ∀ (a : Option Addr) (n cap : Nat) (X : Nat → Exm) (DI DO : Nat → List Int) (a1 : Option Addr) (n1 k1 : Nat) (ws : List Int) (a2 : Option Addr) (n2 k2 : Nat) (ms : List Int) (step root : Int) (x : Rcm) (xs : List Int) (w : World), okW root → Exs w a n cap X DI DO → Lst w a1 n1 k1 ws → Lst w a2 n2 k2 ms → Lst w x.a x.n x.k xs → n1 + n2 ≤ 4611686018427387904 → x.n ≤ 9223372036854775807 →
  Calls Tryz.prog 11 #[c.val, .slice a n cap, .int .i64 step, .int .u64 root, .agg #[.slice a1 n1 k1, .slice a2 n2 k2], x.val] w fun e w' => e = .returned (.tuple #[.bool (hoB c n X DI DO n1 ws n2 ms step root x xs), .int .i64 (nextE c n X DI DO n1 ws n2 ms step)]) ∧ Below w.heap.size w w'

end Go.Proofs.YtkikhfdkibekgaaGreat.Fx
