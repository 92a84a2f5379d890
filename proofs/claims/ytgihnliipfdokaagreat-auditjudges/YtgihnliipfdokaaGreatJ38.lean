/- AuditJudges holds: whatever config, examples, state, number and records are handed in, it returns true (audit.Judge answers what the document says), and what was handed in stays as it was; no condition. -/
import Derived.Test.YtgihnliipfdokaaGreatJ08
import Derived.Test.YtgihnliipfdokaaGreatJ22
import Derived.Test.YtgihnliipfdokaaGreatJ14
import Derived.Test.YtgihnliipfdokaaGreatJ23
import Derived.Test.YtgihnliipfdokaaGreatJ17
import Derived.Test.YtgihnliipfdokaaGreatJ34
import Derived.Test.YtgihnliipfdokaaGreatJ25
import Derived.Test.YtgihnliipfdokaaGreatJ16
import Derived.Test.YtgihnliipfdokaaGreatJ24
import Derived.Test.YtgihnliipfdokaaGreatJ00
import Derived.Test.YtgihnliipfdokaaGreatJ07
import Derived.WalkKit
namespace Go.Proofs.YtgihnliipfdokaaGreat.Fx
open Go.RowKit

/-- The root of the state that a step leads to. -/
def nxZ (c : Cfg) (n : Nat) (X : Nat → Exm) (DI DO : Nat → List Int) (n1 : Nat) (ws : List Int) (n2 : Nat) (ms : List Int) (step : Int) : Int := rootV (nxW c n X DI DO n1 ws n2 ms step).length (nxW c n X DI DO n1 ws n2 ms step) (nxM c n X DI DO n1 ws n2 ms step).length (nxM c n X DI DO n1 ws n2 ms step)
/-- Is a record that of the step done again, but for its chain? -/
def jgB (c : Cfg) (n : Nat) (X : Nat → Exm) (DI DO : Nat → List Int) (n1 : Nat) (ws : List Int) (n2 : Nat) (ms : List Int) (step : Int) (x : Rcm) (xs : List Int) : Bool :=
  decide (x.s = step) && decide (x.r = nxR c n X DI DO n1 ws n2 ms step) && decide (x.root = nxZ c n X DI DO n1 ws n2 ms step) && decide (xs = nxB c n X DI DO n1 ws n2 ms step)
theorem jgB_is (c : Cfg) (n : Nat) (X : Nat → Exm) (DI DO : Nat → List Int) (n1 : Nat) (ws : List Int) (n2 : Nat) (ms : List Int) (step : Int) (x : Rcm) (xs : List Int) (a : Option Addr) (m k : Nat) (ch : Int) : likeB x ⟨step, a, m, k, nxR c n X DI DO n1 ws n2 ms step, nxZ c n X DI DO n1 ws n2 ms step, ch⟩ xs (nxB c n X DI DO n1 ws n2 ms step) = jgB c n X DI DO n1 ws n2 ms step x xs := by simp only [jgB, likeB]
theorem nextE_ok {c : Cfg} {n : Nat} {X : Nat → Exm} {DI DO : Nat → List Int} {n1 : Nat} {ws : List Int} {n2 : Nat} {ms : List Int} {step : Int} (h : nextE c n X DI DO n1 ws n2 ms step = 0) : courseI c n X DI DO = 0 ∧ fitB c n1 ws = true ∧ fitB c n2 ms = true ∧ inB step 0 (c.steps - 1) = true := by
  unfold nextE at h
  by_cases h1 : courseI c n X DI DO = 0
  · rw [if_pos h1] at h
    by_cases h2 : (fitB c n1 ws && fitB c n2 ms) = true
    · rw [if_pos h2] at h
      by_cases h3 : inB step 0 (c.steps - 1) = true
      · rw [Bool.and_eq_true] at h2
        exact ⟨h1, h2.1, h2.2, h3⟩
      · rw [if_neg h3] at h; cases h
    · rw [if_neg h2] at h; cases h
  · rw [if_neg h1] at h; exact absurd h h1

/-- Where nothing is wrong the batch lies in a block of its own. -/
theorem tNext_far (c : Cfg) (hs : okW c.seed) (a : Option Addr) (n cap : Nat) (X : Nat → Exm) (DI DO : Nat → List Int) (a1 : Option Addr) (n1 k1 : Nat) (ws : List Int) (a2 : Option Addr) (n2 k2 : Nat) (ms : List Int) (step : Int) (w : World) (hx : Exs w a n cap X DI DO) (l1 : Lst w a1 n1 k1 ws) (l2 : Lst w a2 n2 k2 ms) (hz : nextE c n X DI DO n1 ws n2 ms step = 0) :
    Calls Tryz.prog 63 #[c.val, .slice a n cap, .agg #[.slice a1 n1 k1, .slice a2 n2 k2], .int .i64 step] w fun e w' => ∃ g1 d1 g2 d2 bg N B, e = .returned (.tuple #[.agg #[.slice (some ⟨g1, 0, none⟩) N d1, .slice (some ⟨g2, 0, none⟩) N d2], .slice (some ⟨bg, 0, none⟩) B B, .int .i64 (nxR c n X DI DO n1 ws n2 ms step), .int .i64 0]) ∧ N ≤ 200 ∧ B ≤ 200 ∧ Lst w' (some ⟨g1, 0, none⟩) N d1 (nxW c n X DI DO n1 ws n2 ms step) ∧ Lst w' (some ⟨g2, 0, none⟩) N d2 (nxM c n X DI DO n1 ws n2 ms step) ∧ Arr w' bg B B (batchG c.seed n (step.toNat * c.batch.toNat)) ∧ (List.range B).map (batchG c.seed n (step.toNat * c.batch.toNat)) = nxB c n X DI DO n1 ws n2 ms step ∧ w.heap.size ≤ bg ∧ Below w.heap.size w w' := by
  have HC : ∀ q, Below w.heap.size w q → Calls Tryz.prog 25 #[c.val, .slice a n cap] q fun e w' => e = .returned (.int .i64 (courseI c n X DI DO)) ∧ Below q.heap.size q w' := fun q hq => tcheck_calls c a n cap X DI DO q (hx.below hq (Nat.le_refl _))
  obtain ⟨hE, f1, f2, hst⟩ := nextE_ok hz
  rw [hE] at HC
  obtain ⟨hc, hn1, hn2, hex⟩ := course_ok hE
  have g1 := fit_len hc f1
  have g2 := fit_len hc f2
  have hn : n2 = n1 := by have := g1.1; have := g2.1; omega
  subst hn
  unfold nxR nxW nxM nxB
  rw [hz, if_pos rfl, if_pos rfl, if_pos rfl, if_pos rfl]
  have hlow := in_is hst
  obtain ⟨T, hT⟩ := Int.eq_ofNat_of_zero_le hlow.1
  obtain ⟨⟨i1, i2⟩, ⟨h1, h2⟩, ⟨o1, o2⟩, ⟨b1, b2⟩, _⟩ := cfgB_is hc
  obtain ⟨i, h, o, seed, batch, steps, crate, decay, how, keep, clip⟩ := c
  dsimp only at i1 i2 h1 h2 o1 o2 b1 b2 hs hlow ⊢
  obtain ⟨I, rfl⟩ := Int.eq_ofNat_of_zero_le (show 0 ≤ i by omega)
  obtain ⟨H, rfl⟩ := Int.eq_ofNat_of_zero_le (show 0 ≤ h by omega)
  obtain ⟨O, rfl⟩ := Int.eq_ofNat_of_zero_le (show 0 ≤ o by omega)
  obtain ⟨B, rfl⟩ := Int.eq_ofNat_of_zero_le (show 0 ≤ batch by omega)
  subst hT
  have hN : n2 = H * I + H + O * H + O := by have := g1.1; unfold sizeN at this; dsimp only at this; exact_mod_cast this
  refine (tNext_own _ hc a n cap a1 n2 k1 ws a2 n2 k2 ms T w l1 l2 HC f1 f2 hst B _ _ _ _ (fun q hq => tnext_own I H O B T seed crate decay how keep clip hs steps hc n2 hN a n cap X DI DO a1 k1 ws a2 k2 ms q (hx.below hq (Nat.le_refl _)) hn1 hn2 hex (l1.below hq (Nat.le_refl _)) (l2.below hq (Nat.le_refl _)) g1.2.2.2 g2.2.2.2 (by omega))).mono ?_
  rintro e w' ⟨x1, d1, x2, d2, bg, he, h⟩
  exact ⟨x1, d1, x2, d2, bg, n2, B, he, by omega, by omega, h.a1.lst, h.a2.lst, h.a3, rfl, h.f3, h.bel⟩

structure RdBox (w : World) (c : Cfg) (v0 v1 : Value) (wr : World) : Prop where
  cfg : BoxC wr w.heap.size c
  st : wr.rowIs (w.heap.size + 1) 35 2 (fn2 v0 v1)
  res : wr.rowIs (w.heap.size + 1 + 1) 37 5 (fn5 (.int .i64 0) (.slice none 0 0) (.int .i64 0) (.int .u64 0) (.int .u64 0))
  bel : Below w.heap.size w wr
theorem RdBox.start (w : World) (c : Cfg) (v0 v1 : Value) : RdBox w c v0 v1 (((w.alloc (.cells c.cells 24)).alloc (.cells #[v0, v1] 35)).alloc (.cells #[.int .i64 0, .slice none 0 0, .int .i64 0, .int .u64 0, .int .u64 0] 37)) := by
  refine ⟨?_, ?_, ?_, (((Below.refl w.heap.size w).alloc (Nat.le_refl _) _).alloc (by simp) _).alloc (by simp; omega) _⟩
  · exact boxC (B := w.heap.size + 1) (((Below.refl _ _).alloc (by simp) _).alloc (by simp) _) (by omega)
  · have h := (fn2_alloc (w.alloc (.cells c.cells 24)) v0 v1 35).alloc (.cells #[.int .i64 0, .slice none 0 0, .int .i64 0, .int .u64 0, .int .u64 0] 37)
    simpa using h
  · have h := fn5_alloc ((w.alloc (.cells c.cells 24)).alloc (.cells #[v0, v1] 35)) (.int .i64 0) (.slice none 0 0) (.int .i64 0) (.int .u64 0) (.int .u64 0) 37
    simpa using h
theorem RdBox.below {w : World} {c : Cfg} {v0 v1 : Value} {wr w2 : World} (h : RdBox w c v0 v1 wr) (hb : Below wr.heap.size wr w2) : RdBox w c v0 v1 w2 := by
  have l2 := h.res.lt
  have k : ∀ i, w2.cell? ⟨w.heap.size, i, none⟩ = wr.cell? ⟨w.heap.size, i, none⟩ := fun i => hb.cell (p := ⟨w.heap.size, i, none⟩) (by show w.heap.size < _; omega)
  exact ⟨⟨(k 0).trans h.cfg.c0, (k 1).trans h.cfg.c1, (k 2).trans h.cfg.c2, (k 3).trans h.cfg.c3, (k 4).trans h.cfg.c4, (k 5).trans h.cfg.c5, (k 6).trans h.cfg.c6, (k 7).trans h.cfg.c7, (k 8).trans h.cfg.c8, (k 9).trans h.cfg.c9, (k 10).trans h.cfg.c10⟩,
    h.st.of_block (hb.block _ (by omega)), h.res.of_block (hb.block _ l2), h.bel.trans (hb.mono h.bel.size)⟩

set_option maxRecDepth 100000 in
set_option maxHeartbeats 1600000 in
theorem redo_good (c : Cfg) (hs : okW c.seed) (a : Option Addr) (n cap : Nat) (X : Nat → Exm) (DI DO : Nat → List Int) (a1 : Option Addr) (n1 k1 : Nat) (ws : List Int) (a2 : Option Addr) (n2 k2 : Nat) (ms : List Int) (step : Int) (w : World) (hx : Exs w a n cap X DI DO) (l1 : Lst w a1 n1 k1 ws) (l2 : Lst w a2 n2 k2 ms) (hz : nextE c n X DI DO n1 ws n2 ms step = 0) :
    Calls Tryz.prog 40 #[c.val, .slice a n cap, .agg #[.slice a1 n1 k1, .slice a2 n2 k2], .int .i64 step] w fun e w' => ∃ a3 m3 k3, e = .returned (.tuple #[.agg #[.int .i64 step, .slice a3 m3 k3, .int .i64 (nxR c n X DI DO n1 ws n2 ms step), .int .u64 (nxZ c n X DI DO n1 ws n2 ms step), .int .u64 0], .int .i64 0]) ∧ m3 ≤ 200 ∧ Lst w' a3 m3 k3 (nxB c n X DI DO n1 ws n2 ms step) ∧ Below w.heap.size w w' := by
  have sb0 := RdBox.start w c (.slice a1 n1 k1) (.slice a2 n2 k2)
  have NX := tNext_far c hs a n cap X DI DO a1 n1 k1 ws a2 n2 k2 ms step _ (hx.below sb0.bel (Nat.le_refl _)) (l1.below sb0.bel (Nat.le_refl _)) (l2.below sb0.bel (Nat.le_refl _)) hz
  have HZ : Hid (∀ (g1 d1 g2 d2 N : Nat) (q : World), Lst q (some ⟨g1, 0, none⟩) N d1 (nxW c n X DI DO n1 ws n2 ms step) → Lst q (some ⟨g2, 0, none⟩) N d2 (nxM c n X DI DO n1 ws n2 ms step) → N ≤ 200 → Calls Tryz.prog 20 #[.agg #[.slice (some ⟨g1, 0, none⟩) N d1, .slice (some ⟨g2, 0, none⟩) N d2]] q fun e w' => ∃ z, e = .returned (.tuple #[.int .u64 (nxZ c n X DI DO n1 ws n2 ms step), .int .i64 z]) ∧ Below q.heap.size q w') := fun g1 d1 g2 d2 N q m1 m2 hN => by
    have h := jroot_calls _ _ _ _ _ _ _ _ q m1 m2 (by omega)
    unfold nxZ
    rw [m1.len, m2.len]
    exact h.mono fun e w' ⟨he, hb⟩ => ⟨_, he, hb⟩
  generalize nxR c n X DI DO n1 ws n2 ms step = NR at *
  generalize nxZ c n X DI DO n1 ws n2 ms step = NZ at *
  generalize nxW c n X DI DO n1 ws n2 ms step = NW at *
  generalize nxM c n X DI DO n1 ws n2 ms step = NM at *
  generalize nxB c n X DI DO n1 ws n2 ms step = NB at *
  generalize batchG c.seed n (step.toNat * c.batch.toNat) = BG at *
  clear hx l1 l2 hz hs
  obtain ⟨i, h, o, seed, batch, steps, crate, decay, how, keep, clip⟩ := c
  simp only [Cfg.val, Cfg.cells] at *
  obtain ⟨c0, c1, c2, c3, c4, c5, c6, c7, c8, c9, c10⟩ := sb0.cfg
  obtain ⟨s0, s1⟩ := fn2_cells sb0.st
  dsimp only at c0 c1 c2 c3 c4 c5 c6 c7 c8 c9 c10
  go_enter Tryz.func40, Tryz.ntmps40
  go_wp2_with fail
  refine NX.mono ?_
  rintro e u4 ⟨xa, e1, xb, e2, bg, N, B, rfl, hN2, hB2, lw, lm, lb, hlb, m3, hu4⟩
  have HLB : Hid ((List.range B).map BG = NB) := hlb
  have sb4 := sb0.below hu4
  have z3 := sb0.res.lt
  clear NX c0 c1 c2 c3 c4 c5 c6 c7 c8 c9 c10 s0 s1 hlb sb0
  have hal := low_alloc u4 (.cells #[.slice (some ⟨xa, 0, none⟩) N e1, .slice (some ⟨xb, 0, none⟩) N e2] 35)
  have orow := fn2_alloc u4 (.slice (some ⟨xa, 0, none⟩) N e1) (.slice (some ⟨xb, 0, none⟩) N e2) 35
  have sb5 := sb4.below hal
  have lb5 := lb.below hal
  have RT := HZ.out xa e1 xb e2 N _ (lw.below hal (Nat.le_refl _)) (lm.below hal (Nat.le_refl _)) hN2
  obtain ⟨o0, o1⟩ := fn2_cells orow
  clear sb4 hu4 lw lm lb HZ
  go_wp2_with fail
  refine RT.mono ?_
  rintro e u5 ⟨zz, rfl, hu5⟩
  have sb6 := sb5.below hu5
  have lb6 := lb5.below hu5
  clear sb5 lb5 hu5 o0 o1 orow RT hal
  obtain ⟨r0, r1, r2, r3, r4⟩ := fn5_box sb6.res
  have f0 := sb6.res.frozen 0
  have f1 := sb6.res.frozen 1
  have f2 := sb6.res.frozen 2
  have f3 := sb6.res.frozen 3
  have f4 := sb6.res.frozen 4
  have hrs := sb6.res
  have hbb := sb6.bel
  have hne : bg ≠ w.heap.size + 1 + 1 := by omega
  have LB6 : Hid (Arr u5 bg B B BG) := lb6
  clear lb6 sb6
  go_wp2_with fail
  obtain ⟨y0, y1, y2, y3, y4⟩ := fn5_box (fn5_set hrs (.int .i64 step) (.slice (some ⟨bg, 0, none⟩) B B) (.int .i64 NR) (.int .u64 NZ) (.int .u64 0))
  exact bodyPost_ret (v := .tuple #[.agg #[.int .i64 step, .slice (some ⟨bg, 0, none⟩) B B, .int .i64 NR, .int .u64 NZ, .int .u64 0], .int .i64 0]) (by simp [results, Tryz.results40, go_sem, y0, y1, y2, y3, y4]) rfl ⟨some ⟨bg, 0, none⟩, B, B, rfl, hB2, HLB.out ▸ (((((LB6.out.setOther hne _).setOther hne _).setOther hne _).setOther hne _).setOther hne _).lst, below_set5 hbb (by omega) _ _ _ _ _⟩

set_option maxRecDepth 100000 in
set_option maxHeartbeats 1600000 in
theorem redo_bad (c : Cfg) (hs : okW c.seed) (a : Option Addr) (n cap : Nat) (X : Nat → Exm) (DI DO : Nat → List Int) (a1 : Option Addr) (n1 k1 : Nat) (ws : List Int) (a2 : Option Addr) (n2 k2 : Nat) (ms : List Int) (step : Int) (w : World) (hx : Exs w a n cap X DI DO) (l1 : Lst w a1 n1 k1 ws) (l2 : Lst w a2 n2 k2 ms) (E : Int) (hz : nextE c n X DI DO n1 ws n2 ms step = E) (hE : E ≠ 0) :
    Calls Tryz.prog 40 #[c.val, .slice a n cap, .agg #[.slice a1 n1 k1, .slice a2 n2 k2], .int .i64 step] w fun e w' => e = .returned (.tuple #[.agg #[.int .i64 0, .slice none 0 0, .int .i64 0, .int .u64 0, .int .u64 0], .int .i64 E]) ∧ Below w.heap.size w w' := by
  have sb0 := RdBox.start w c (.slice a1 n1 k1) (.slice a2 n2 k2)
  have NX := tNext_calls c hs a n cap X DI DO a1 n1 k1 ws a2 n2 k2 ms step _ (hx.below sb0.bel (Nat.le_refl _)) (l1.below sb0.bel (Nat.le_refl _)) (l2.below sb0.bel (Nat.le_refl _))
  rw [hz] at NX
  have hb : (E != 0) = true := by rw [bne_iff_ne]; exact hE
  generalize nxR c n X DI DO n1 ws n2 ms step = NR at *
  generalize nxW c n X DI DO n1 ws n2 ms step = NW at *
  generalize nxM c n X DI DO n1 ws n2 ms step = NM at *
  generalize nxB c n X DI DO n1 ws n2 ms step = NB at *
  clear hx l1 l2 hz hs
  obtain ⟨i, h, o, seed, batch, steps, crate, decay, how, keep, clip⟩ := c
  simp only [Cfg.val, Cfg.cells] at *
  obtain ⟨c0, c1, c2, c3, c4, c5, c6, c7, c8, c9, c10⟩ := sb0.cfg
  obtain ⟨s0, s1⟩ := fn2_cells sb0.st
  dsimp only at c0 c1 c2 c3 c4 c5 c6 c7 c8 c9 c10
  go_enter Tryz.func40, Tryz.ntmps40
  go_wp2_with fail
  refine NX.mono ?_
  rintro e u4 ⟨b1, m1, d1, b2, m2, d2, a3, m3, d3, rfl, _, _, _, _, _, _, hu4⟩
  have sb4 := sb0.below hu4
  have z3 := sb0.res.lt
  clear NX c0 c1 c2 c3 c4 c5 c6 c7 c8 c9 c10 s0 s1 sb0
  have hal := low_alloc u4 (.cells #[.slice b1 m1 d1, .slice b2 m2 d2] 35)
  have sb5 := sb4.below hal
  obtain ⟨r0, r1, r2, r3, r4⟩ := fn5_box sb5.res
  have f0 := sb5.res.frozen 0
  have f1 := sb5.res.frozen 1
  have f2 := sb5.res.frozen 2
  have f3 := sb5.res.frozen 3
  have f4 := sb5.res.frozen 4
  have hrs := sb5.res
  have hbb := sb5.bel
  clear sb4 hu4 sb5 hal
  go_wp2_with fail
  obtain ⟨y0, y1, y2, y3, y4⟩ := fn5_box (fn5_set hrs (.int .i64 0) (.slice none 0 0) (.int .i64 0) (.int .u64 0) (.int .u64 0))
  exact bodyPost_ret (v := .tuple #[.agg #[.int .i64 0, .slice none 0 0, .int .i64 0, .int .u64 0, .int .u64 0], .int .i64 E]) (by simp [results, Tryz.results40, go_sem, y0, y1, y2, y3, y4]) rfl ⟨rfl, below_set5 hbb (by omega) _ _ _ _ _⟩
end Go.Proofs.YtgihnliipfdokaaGreat.Fx

/- What audit.Judge returns, whatever is handed in. -/
namespace Go.Proofs.YtgihnliipfdokaaGreat.Fx
open Go.RowKit

def jdN (E : Int) (qa qb : Bool) : Int := if E = 0 then (if qa = true then 1 else 0) + (if qb = true then 2 else 0) else 0

structure JdBox (w : World) (c : Cfg) (v0 v1 : Value) (x y : Rcm) (wr : World) : Prop where
  cfg : BoxC wr w.heap.size c
  st : wr.rowIs (w.heap.size + 1) 35 2 (fn2 v0 v1)
  ra : wr.rowIs (w.heap.size + 1 + 1) 37 5 (fn5 (.int .i64 x.s) (.slice x.a x.n x.k) (.int .i64 x.r) (.int .u64 x.root) (.int .u64 x.chain))
  rb : wr.rowIs (w.heap.size + 1 + 1 + 1) 37 5 (fn5 (.int .i64 y.s) (.slice y.a y.n y.k) (.int .i64 y.r) (.int .u64 y.root) (.int .u64 y.chain))
  bel : Below w.heap.size w wr
theorem JdBox.start (w : World) (c : Cfg) (v0 v1 : Value) (x y : Rcm) : JdBox w c v0 v1 x y ((((w.alloc (.cells c.cells 24)).alloc (.cells #[v0, v1] 35)).alloc (.cells x.cells 37)).alloc (.cells y.cells 37)) := by
  refine ⟨?_, ?_, ?_, ?_, ((((Below.refl w.heap.size w).alloc (Nat.le_refl _) _).alloc (by simp) _).alloc (by simp; omega) _).alloc (by simp; omega) _⟩
  · exact boxC (B := w.heap.size + 1) ((((Below.refl _ _).alloc (by simp) _).alloc (by simp) _).alloc (by simp) _) (by omega)
  · have h := ((fn2_alloc (w.alloc (.cells c.cells 24)) v0 v1 35).alloc (.cells x.cells 37)).alloc (.cells y.cells 37)
    simpa using h
  · have h := (fn5_alloc ((w.alloc (.cells c.cells 24)).alloc (.cells #[v0, v1] 35)) (.int .i64 x.s) (.slice x.a x.n x.k) (.int .i64 x.r) (.int .u64 x.root) (.int .u64 x.chain) 37).alloc (.cells y.cells 37)
    simpa [Rcm.cells] using h
  · have h := fn5_alloc (((w.alloc (.cells c.cells 24)).alloc (.cells #[v0, v1] 35)).alloc (.cells x.cells 37)) (.int .i64 y.s) (.slice y.a y.n y.k) (.int .i64 y.r) (.int .u64 y.root) (.int .u64 y.chain) 37
    simpa [Rcm.cells] using h
theorem JdBox.below {w : World} {c : Cfg} {v0 v1 : Value} {x y : Rcm} {wr w2 : World} (h : JdBox w c v0 v1 x y wr) (hb : Below wr.heap.size wr w2) : JdBox w c v0 v1 x y w2 := by
  have l2 := h.rb.lt
  have k : ∀ i, w2.cell? ⟨w.heap.size, i, none⟩ = wr.cell? ⟨w.heap.size, i, none⟩ := fun i => hb.cell (p := ⟨w.heap.size, i, none⟩) (by show w.heap.size < _; omega)
  exact ⟨⟨(k 0).trans h.cfg.c0, (k 1).trans h.cfg.c1, (k 2).trans h.cfg.c2, (k 3).trans h.cfg.c3, (k 4).trans h.cfg.c4, (k 5).trans h.cfg.c5, (k 6).trans h.cfg.c6, (k 7).trans h.cfg.c7, (k 8).trans h.cfg.c8, (k 9).trans h.cfg.c9, (k 10).trans h.cfg.c10⟩,
    h.st.of_block (hb.block _ (by omega)), h.ra.of_block (hb.block _ (by omega)), h.rb.of_block (hb.block _ l2), h.bel.trans (hb.mono h.bel.size)⟩

set_option maxRecDepth 100000 in
set_option maxHeartbeats 1600000 in
theorem judge_good (c : Cfg) (hs : okW c.seed) (a : Option Addr) (n cap : Nat) (X : Nat → Exm) (DI DO : Nat → List Int) (a1 : Option Addr) (n1 k1 : Nat) (ws : List Int) (a2 : Option Addr) (n2 k2 : Nat) (ms : List Int) (step : Int) (x y : Rcm) (xs ys : List Int) (w : World) (hx : Exs w a n cap X DI DO) (l1 : Lst w a1 n1 k1 ws) (l2 : Lst w a2 n2 k2 ms) (lx : Lst w x.a x.n x.k xs) (ly : Lst w y.a y.n y.k ys) (hx1 : x.n ≤ 9223372036854775807) (hy1 : y.n ≤ 9223372036854775807) (hz : nextE c n X DI DO n1 ws n2 ms step = 0) :
    Calls Tryz.prog 13 #[c.val, .slice a n cap, .agg #[.slice a1 n1 k1, .slice a2 n2 k2], .int .i64 step, x.val, y.val] w fun e w' => e = .returned (.tuple #[.int .i64 (jdN 0 (jgB c n X DI DO n1 ws n2 ms step x xs) (jgB c n X DI DO n1 ws n2 ms step y ys)), .int .i64 0]) ∧ Below w.heap.size w w' := by
  have jb0 := JdBox.start w c (.slice a1 n1 k1) (.slice a2 n2 k2) x y
  have RD := redo_good c hs a n cap X DI DO a1 n1 k1 ws a2 n2 k2 ms step _ (hx.below jb0.bel (Nat.le_refl _)) (l1.below jb0.bel (Nat.le_refl _)) (l2.below jb0.bel (Nat.le_refl _)) hz
  have HSA : Hid (∀ (r : Rcm) q, Below w.heap.size w q → r.s = step → r.r = nxR c n X DI DO n1 ws n2 ms step → r.root = nxZ c n X DI DO n1 ws n2 ms step → Lst q r.a r.n r.k (nxB c n X DI DO n1 ws n2 ms step) → Calls Tryz.prog 26 #[x.val, r.val] q fun e w' => e = .returned (.bool (jgB c n X DI DO n1 ws n2 ms step x xs)) ∧ Below q.heap.size q w') := fun r q hq e1 e2 e3 lr => by
    have h := sstep_calls x r xs _ q (lx.below hq (Nat.le_refl _)) lr hx1
    have e : likeB x r xs (nxB c n X DI DO n1 ws n2 ms step) = jgB c n X DI DO n1 ws n2 ms step x xs := by simp only [jgB, likeB, e1, e2, e3]
    rw [e] at h
    exact h
  have HSB : Hid (∀ (r : Rcm) q, Below w.heap.size w q → r.s = step → r.r = nxR c n X DI DO n1 ws n2 ms step → r.root = nxZ c n X DI DO n1 ws n2 ms step → Lst q r.a r.n r.k (nxB c n X DI DO n1 ws n2 ms step) → Calls Tryz.prog 26 #[y.val, r.val] q fun e w' => e = .returned (.bool (jgB c n X DI DO n1 ws n2 ms step y ys)) ∧ Below q.heap.size q w') := fun r q hq e1 e2 e3 lr => by
    have h := sstep_calls y r ys _ q (ly.below hq (Nat.le_refl _)) lr hy1
    have e : likeB y r ys (nxB c n X DI DO n1 ws n2 ms step) = jgB c n X DI DO n1 ws n2 ms step y ys := by simp only [jgB, likeB, e1, e2, e3]
    rw [e] at h
    exact h
  generalize jgB c n X DI DO n1 ws n2 ms step x xs = QA at *
  generalize jgB c n X DI DO n1 ws n2 ms step y ys = QB at *
  generalize nxR c n X DI DO n1 ws n2 ms step = NR at *
  generalize nxZ c n X DI DO n1 ws n2 ms step = NZ at *
  generalize nxB c n X DI DO n1 ws n2 ms step = NB at *
  clear hx l1 l2 hz hs lx ly hx1 hy1
  obtain ⟨i, h, o, seed, batch, steps, crate, decay, how, keep, clip⟩ := c
  obtain ⟨xs0, xa, xn, xk, xr, xroot, xchain⟩ := x
  obtain ⟨ys0, ya, yn, yk, yr, yroot, ychain⟩ := y
  simp only [Cfg.val, Cfg.cells, Rcm.val, Rcm.cells] at *
  obtain ⟨c0, c1, c2, c3, c4, c5, c6, c7, c8, c9, c10⟩ := jb0.cfg
  obtain ⟨s0, s1⟩ := fn2_cells jb0.st
  dsimp only at c0 c1 c2 c3 c4 c5 c6 c7 c8 c9 c10
  go_enter Tryz.func13, Tryz.ntmps13
  go_wp2_with fail
  refine RD.mono ?_
  rintro e u1 ⟨a3, m3, k3, rfl, hm3, l3, hu1⟩
  have jb1 := jb0.below hu1
  clear RD c0 c1 c2 c3 c4 c5 c6 c7 c8 c9 c10 s0 s1 jb0
  have hal := low_alloc u1 (.cells #[.int .i64 step, .slice a3 m3 k3, .int .i64 NR, .int .u64 NZ, .int .u64 0] 37)
  have orow := fn5_alloc u1 (.int .i64 step) (.slice a3 m3 k3) (.int .i64 NR) (.int .u64 NZ) (.int .u64 0) 37
  have jb2 := jb1.below hal
  have l4 := l3.below hal (Nat.le_refl _)
  have SA := HSA.out ⟨step, a3, m3, k3, NR, NZ, 0⟩ _ jb2.bel rfl rfl rfl l4
  dsimp only at SA
  obtain ⟨o0, o1, o2, o3, o4⟩ := fn5_box orow
  obtain ⟨x0, x1, x2, x3, x4⟩ := fn5_box jb2.ra
  clear jb1 hu1 l3 HSA
  go_wp2_with fail
  refine SA.mono ?_
  rintro e u2 ⟨rfl, hu2⟩
  have jb3 := jb2.below hu2
  have l5 := l4.below hu2 (Nat.le_refl _)
  have SB := HSB.out ⟨step, a3, m3, k3, NR, NZ, 0⟩ _ jb3.bel rfl rfl rfl l5
  dsimp only at SB
  have orow2 := orow.of_block (hu2.block _ orow.lt)
  clear x0 x1 x2 x3 x4 o0 o1 o2 o3 o4 SA HSB
  obtain ⟨o0, o1, o2, o3, o4⟩ := fn5_box orow2
  obtain ⟨y0, y1, y2, y3, y4⟩ := fn5_box jb3.rb
  have hb3 := jb3.bel
  clear jb2 jb3 orow orow2 l4 l5 hal hu2
  cases QA with
  | false =>
    go_wp2_with fail
    refine SB.mono ?_
    rintro e u3 ⟨rfl, hu3⟩
    cases QB with
    | false =>
      go_wp2_with fail
      go_ret2
      exact ⟨rfl, hb3.trans (hu3.mono hb3.size)⟩
    | true =>
      go_wp2_with fail
      go_ret2
      exact ⟨rfl, hb3.trans (hu3.mono hb3.size)⟩
  | true =>
    go_wp2_with fail
    refine SB.mono ?_
    rintro e u3 ⟨rfl, hu3⟩
    cases QB with
    | false =>
      go_wp2_with fail
      go_ret2
      exact ⟨rfl, hb3.trans (hu3.mono hb3.size)⟩
    | true =>
      go_wp2_with fail
      go_ret2
      exact ⟨rfl, hb3.trans (hu3.mono hb3.size)⟩

set_option maxRecDepth 100000 in
set_option maxHeartbeats 1600000 in
theorem judge_calls (c : Cfg) (hs : okW c.seed) (a : Option Addr) (n cap : Nat) (X : Nat → Exm) (DI DO : Nat → List Int) (a1 : Option Addr) (n1 k1 : Nat) (ws : List Int) (a2 : Option Addr) (n2 k2 : Nat) (ms : List Int) (step : Int) (x y : Rcm) (xs ys : List Int) (w : World) (hx : Exs w a n cap X DI DO) (l1 : Lst w a1 n1 k1 ws) (l2 : Lst w a2 n2 k2 ms) (lx : Lst w x.a x.n x.k xs) (ly : Lst w y.a y.n y.k ys) (hx1 : x.n ≤ 9223372036854775807) (hy1 : y.n ≤ 9223372036854775807) :
    Calls Tryz.prog 13 #[c.val, .slice a n cap, .agg #[.slice a1 n1 k1, .slice a2 n2 k2], .int .i64 step, x.val, y.val] w fun e w' => e = .returned (.tuple #[.int .i64 (jdN (nextE c n X DI DO n1 ws n2 ms step) (jgB c n X DI DO n1 ws n2 ms step x xs) (jgB c n X DI DO n1 ws n2 ms step y ys)), .int .i64 (nextE c n X DI DO n1 ws n2 ms step)]) ∧ Below w.heap.size w w' := by
  by_cases hz : nextE c n X DI DO n1 ws n2 ms step = 0
  · rw [hz]
    exact judge_good c hs a n cap X DI DO a1 n1 k1 ws a2 n2 k2 ms step x y xs ys w hx l1 l2 lx ly hx1 hy1 hz
  · have jb0 := JdBox.start w c (.slice a1 n1 k1) (.slice a2 n2 k2) x y
    have RD := redo_bad c hs a n cap X DI DO a1 n1 k1 ws a2 n2 k2 ms step _ (hx.below jb0.bel (Nat.le_refl _)) (l1.below jb0.bel (Nat.le_refl _)) (l2.below jb0.bel (Nat.le_refl _)) _ rfl hz
    have hJ : jdN (nextE c n X DI DO n1 ws n2 ms step) (jgB c n X DI DO n1 ws n2 ms step x xs) (jgB c n X DI DO n1 ws n2 ms step y ys) = 0 := if_neg hz
    rw [hJ]
    have hb : (nextE c n X DI DO n1 ws n2 ms step != 0) = true := by rw [bne_iff_ne]; exact hz
    generalize nextE c n X DI DO n1 ws n2 ms step = E at *
    clear hx l1 l2 hs lx ly hx1 hy1 hJ hz
    obtain ⟨i, h, o, seed, batch, steps, crate, decay, how, keep, clip⟩ := c
    obtain ⟨xs0, xa, xn, xk, xr, xroot, xchain⟩ := x
    obtain ⟨ys0, ya, yn, yk, yr, yroot, ychain⟩ := y
    simp only [Cfg.val, Cfg.cells, Rcm.val, Rcm.cells] at *
    obtain ⟨c0, c1, c2, c3, c4, c5, c6, c7, c8, c9, c10⟩ := jb0.cfg
    obtain ⟨s0, s1⟩ := fn2_cells jb0.st
    dsimp only at c0 c1 c2 c3 c4 c5 c6 c7 c8 c9 c10
    go_enter Tryz.func13, Tryz.ntmps13
    go_wp2_with fail
    refine RD.mono ?_
    rintro e u1 ⟨rfl, hu1⟩
    have hb1 := (jb0.below hu1).bel
    have hal := low_alloc u1 (.cells #[.int .i64 0, .slice none 0 0, .int .i64 0, .int .u64 0, .int .u64 0] 37)
    go_wp2_with fail
    go_ret2
    exact ⟨rfl, hb1.trans (hal.mono hb1.size)⟩
end Go.Proofs.YtgihnliipfdokaaGreat.Fx

/- AuditJudges returns true, whatever is handed in, and nothing that was there is written. -/
namespace Go.Proofs.YtgihnliipfdokaaGreat.Fx
open Go.RowKit

theorem rnext_any (c : Cfg) (hs : okW c.seed) (a : Option Addr) (n cap : Nat) (X : Nat → Exm) (DI DO : Nat → List Int) (a1 : Option Addr) (n1 k1 : Nat) (ws : List Int) (a2 : Option Addr) (n2 k2 : Nat) (ms : List Int) (step : Int) (q : World) (HX : Exs q a n cap X DI DO) (L1 : Lst q a1 n1 k1 ws) (L2 : Lst q a2 n2 k2 ms) (hz : nextE c n X DI DO n1 ws n2 ms step = 0) :
    Calls Tryz.prog 11 #[c.val, .slice a n cap, .agg #[.slice a1 n1 k1, .slice a2 n2 k2], .int .i64 step] q fun e w' => ∃ ga M d1 gb d2 a3 m3 k3, e = .returned (.tuple #[.agg #[.slice (some ⟨ga, 0, none⟩) M d1, .slice (some ⟨gb, 0, none⟩) M d2], .agg #[.int .i64 step, .slice a3 m3 k3, .int .i64 (nxR c n X DI DO n1 ws n2 ms step), .int .u64 (nxZ c n X DI DO n1 ws n2 ms step), .int .u64 0]]) ∧ Lst w' a3 m3 k3 (nxB c n X DI DO n1 ws n2 ms step) ∧ Below q.heap.size q w' := by
  obtain ⟨hF, f1, f2, hst⟩ := nextE_ok hz
  obtain ⟨hc, hn1, hn2, hex⟩ := course_ok hF
  have g1 := fit_len hc f1
  have g2 := fit_len hc f2
  have hzn := sizeN_bd hc
  have hn : n2 = n1 := by have := g1.1; have := g2.1; omega
  subst hn
  have hZ : nxZ c n X DI DO n2 ws n2 ms step = rootP (nextW c n ws ms DI DO step n2) (nextM c n ws ms DI DO step n2) (n2 + n2) := by
    have e1 : nxW c n X DI DO n2 ws n2 ms step = nextW c n ws ms DI DO step n2 := by unfold nxW; rw [if_pos hz]
    have e2 : nxM c n X DI DO n2 ws n2 ms step = nextM c n ws ms DI DO step n2 := by unfold nxM; rw [if_pos hz]
    have e3 : (nextW c n ws ms DI DO step n2).length = n2 := by unfold nextW; simp
    have e4 : (nextM c n ws ms DI DO step n2).length = n2 := by unfold nextM; simp
    have e5 : rootE n2 n2 = 0 := by unfold rootE; rw [if_neg (by have := g1.1; omega), if_neg (by have := g1.1; omega)]
    unfold nxZ
    rw [e1, e2, e3, e4]
    unfold rootV
    rw [if_pos e5]
  rw [hZ]
  unfold nxR nxB
  rw [hz, if_pos rfl, if_pos rfl]
  have hlow := in_is hst
  obtain ⟨T, hT⟩ := Int.eq_ofNat_of_zero_le hlow.1
  obtain ⟨⟨i1, i2⟩, ⟨h1, h2⟩, ⟨o1, o2⟩, ⟨b1, b2⟩, _⟩ := cfgB_is hc
  obtain ⟨x1, y1, rfl, _, _⟩ := L1.at (by omega)
  obtain ⟨x2, y2, rfl, _, _⟩ := L2.at (by omega)
  clear hZ hz hzn
  obtain ⟨i, h, o, seed, batch, steps, crate, decay, how, keep, clip⟩ := c
  dsimp only at i1 i2 h1 h2 o1 o2 b1 b2 hs hlow ⊢
  obtain ⟨I, rfl⟩ := Int.eq_ofNat_of_zero_le (show 0 ≤ i by omega)
  obtain ⟨H, rfl⟩ := Int.eq_ofNat_of_zero_le (show 0 ≤ h by omega)
  obtain ⟨O, rfl⟩ := Int.eq_ofNat_of_zero_le (show 0 ≤ o by omega)
  obtain ⟨B, rfl⟩ := Int.eq_ofNat_of_zero_le (show 0 ≤ batch by omega)
  subst hT
  have hN : n2 = H * I + H + O * H + O := by have := g1.1; unfold sizeN at this; dsimp only at this; exact_mod_cast this
  refine (rnext_calls I H O B T seed crate decay how keep clip hs steps hc n2 hN a n cap X DI DO x1 y1 k1 ws x2 y2 k2 ms q HX hn1 hn2 hex L1 L2 (by omega) _ _ _ rfl rfl rfl).mono ?_
  rintro e w' ⟨ga, d1, gb, d2, a3, k3, he, hga, hgb, lw, lm, lb, hnew, hb⟩
  exact ⟨ga, n2, d1, gb, d2, a3, B, k3, he, lb, hb⟩

structure NeBox (w : World) (c : Cfg) (v0 v1 : Value) (wr : World) : Prop where
  cfg : BoxC wr w.heap.size c
  st : wr.rowIs (w.heap.size + 1) 35 2 (fn2 v0 v1)
  bel : Below w.heap.size w wr
theorem NeBox.start (w : World) (c : Cfg) (v0 v1 : Value) : NeBox w c v0 v1 ((w.alloc (.cells c.cells 24)).alloc (.cells #[v0, v1] 35)) := by
  refine ⟨?_, ?_, ((Below.refl w.heap.size w).alloc (Nat.le_refl _) _).alloc (by simp) _⟩
  · exact boxC (B := w.heap.size + 1) ((Below.refl _ _).alloc (by simp) _) (by omega)
  · have h := fn2_alloc (w.alloc (.cells c.cells 24)) v0 v1 35
    simpa using h
theorem NeBox.below {w : World} {c : Cfg} {v0 v1 : Value} {wr w2 : World} (h : NeBox w c v0 v1 wr) (hb : Below wr.heap.size wr w2) : NeBox w c v0 v1 w2 := by
  have l2 := h.st.lt
  have k : ∀ i, w2.cell? ⟨w.heap.size, i, none⟩ = wr.cell? ⟨w.heap.size, i, none⟩ := fun i => hb.cell (p := ⟨w.heap.size, i, none⟩) (by show w.heap.size < _; omega)
  exact ⟨⟨(k 0).trans h.cfg.c0, (k 1).trans h.cfg.c1, (k 2).trans h.cfg.c2, (k 3).trans h.cfg.c3, (k 4).trans h.cfg.c4, (k 5).trans h.cfg.c5, (k 6).trans h.cfg.c6, (k 7).trans h.cfg.c7, (k 8).trans h.cfg.c8, (k 9).trans h.cfg.c9, (k 10).trans h.cfg.c10⟩,
    h.st.of_block (hb.block _ l2), h.bel.trans (hb.mono h.bel.size)⟩

set_option maxRecDepth 100000 in
set_option maxHeartbeats 1600000 in
theorem nextError_calls (c : Cfg) (a : Option Addr) (n cap : Nat) (X : Nat → Exm) (DI DO : Nat → List Int) (a1 : Option Addr) (n1 k1 : Nat) (ws : List Int) (a2 : Option Addr) (n2 k2 : Nat) (ms : List Int) (step : Int) (w : World) (hx : Exs w a n cap X DI DO) (l1 : Lst w a1 n1 k1 ws) (l2 : Lst w a2 n2 k2 ms) :
    Calls Tryz.prog 10 #[c.val, .slice a n cap, .agg #[.slice a1 n1 k1, .slice a2 n2 k2], .int .i64 step] w fun e w' => e = .returned (.int .i64 (nextE c n X DI DO n1 ws n2 ms step)) ∧ Below w.heap.size w w' := by
  have nb0 := NeBox.start w c (.slice a1 n1 k1) (.slice a2 n2 k2)
  have CK := rcourse_calls c a n cap X DI DO _ (hx.below nb0.bel (Nat.le_refl _))
  by_cases hF : courseI c n X DI DO = 0
  · rw [hF] at CK
    have hc := (course_ok hF).1
    have HSF : Hid (∀ q, Below w.heap.size w q → Calls Tryz.prog 27 #[c.val, .agg #[.slice a1 n1 k1, .slice a2 n2 k2]] q fun e w' => e = .returned (.bool (fitB c n1 ws && fitB c n2 ms)) ∧ Below q.heap.size q w') := fun q hq => rstfits_calls c hc a1 n1 k1 a2 n2 k2 ws ms q (l1.below hq (Nat.le_refl _)) (l2.below hq (Nat.le_refl _))
    have HIN : Hid (∀ q, Calls Tryz.prog 28 #[.int .i64 step, .int .i64 0, .int .i64 (c.steps - 1)] q fun e w' => e = .returned (.bool (inB step 0 (c.steps - 1))) ∧ w' = q) := fun q => rin_calls step 0 (c.steps - 1) q
    have hE : nextE c n X DI DO n1 ws n2 ms step = if (fitB c n1 ws && fitB c n2 ms) = true then (if inB step 0 (c.steps - 1) = true then 0 else 1) else 5 := by unfold nextE; rw [if_pos hF]
    rw [hE]
    obtain ⟨_, _, _, _, ⟨p1, p2⟩, _⟩ := cfgB_is hc
    generalize (fitB c n1 ws && fitB c n2 ms) = FB at *
    generalize inB step 0 (c.steps - 1) = IB at *
    clear hE hF hx l1 l2 hc
    obtain ⟨i, h, o, seed, batch, steps, crate, decay, how, keep, clip⟩ := c
    simp only [Cfg.val, Cfg.cells] at *
    obtain ⟨c0, c1, c2, c3, c4, c5, c6, c7, c8, c9, c10⟩ := nb0.cfg
    dsimp only at c0 c1 c2 c3 c4 c5 c6 c7 c8 c9 c10
    go_enter Tryz.func10, Tryz.ntmps10
    go_wp2_with fail
    refine CK.mono ?_
    rintro e u1 ⟨rfl, hu1⟩
    have nb1 := nb0.below hu1
    clear CK c0 c1 c2 c3 c4 c5 c6 c7 c8 c9 c10 nb0
    obtain ⟨c0, c1, c2, c3, c4, c5, c6, c7, c8, c9, c10⟩ := nb1.cfg
    obtain ⟨s0, s1⟩ := fn2_cells nb1.st
    dsimp only at c0 c1 c2 c3 c4 c5 c6 c7 c8 c9 c10
    have SF := HSF.out _ nb1.bel
    go_wp2_with fail
    refine SF.mono ?_
    rintro e u2 ⟨rfl, hu2⟩
    have nb2 := nb1.below hu2
    have hb2 := nb2.bel
    clear SF HSF c0 c1 c2 c3 c4 c5 c6 c7 c8 c9 c10 nb1 s0 s1
    obtain ⟨c0, c1, c2, c3, c4, c5, c6, c7, c8, c9, c10⟩ := nb2.cfg
    dsimp only at c0 c1 c2 c3 c4 c5 c6 c7 c8 c9 c10
    cases FB with
    | false =>
      go_wp2_with fail
      go_ret
      exact ⟨rfl, hb2⟩
    | true =>
      go_wp2_with fail
      refine (HIN.out _).mono ?_
      rintro e u3 ⟨rfl, hu3⟩
      replace hu3 := hu3.symm
      subst hu3
      cases IB with
      | false =>
        go_wp2_with fail
        go_ret
        exact ⟨rfl, hb2⟩
      | true =>
        go_wp2_with fail
        go_ret
        exact ⟨rfl, hb2⟩
  · have hE : nextE c n X DI DO n1 ws n2 ms step = courseI c n X DI DO := by unfold nextE; rw [if_neg hF]
    have hb : (courseI c n X DI DO != 0) = true := by rw [bne_iff_ne]; exact hF
    rw [hE]
    generalize courseI c n X DI DO = E at *
    clear hE hF hx l1 l2
    obtain ⟨i, h, o, seed, batch, steps, crate, decay, how, keep, clip⟩ := c
    simp only [Cfg.val, Cfg.cells] at *
    obtain ⟨c0, c1, c2, c3, c4, c5, c6, c7, c8, c9, c10⟩ := nb0.cfg
    dsimp only at c0 c1 c2 c3 c4 c5 c6 c7 c8 c9 c10
    go_enter Tryz.func10, Tryz.ntmps10
    go_wp2_with fail
    refine CK.mono ?_
    rintro e u1 ⟨rfl, hu1⟩
    have nb1 := (nb0.below hu1).bel
    go_wp2_with fail
    go_ret
    exact ⟨rfl, nb1⟩

set_option maxRecDepth 100000 in
set_option maxHeartbeats 3200000 in
theorem auditJudges_core (c : Cfg) (hs : okW c.seed) (a : Option Addr) (n cap : Nat) (X : Nat → Exm) (DI DO : Nat → List Int) (a1 : Option Addr) (n1 k1 : Nat) (ws : List Int) (a2 : Option Addr) (n2 k2 : Nat) (ms : List Int) (step : Int) (x y : Rcm) (xs ys : List Int) (w : World) (hx : Exs w a n cap X DI DO) (l1 : Lst w a1 n1 k1 ws) (l2 : Lst w a2 n2 k2 ms) (lx : Lst w x.a x.n x.k xs) (ly : Lst w y.a y.n y.k ys) (hx1 : x.n ≤ 9223372036854775807) (hy1 : y.n ≤ 9223372036854775807) :
    Calls Tryz.prog 4 #[c.val, .slice a n cap, .agg #[.slice a1 n1 k1, .slice a2 n2 k2], .int .i64 step, x.val, y.val] w fun e w' => e = .returned (.bool true) ∧ Below w.heap.size w w' := by
  have jb0 := JdBox.start w c (.slice a1 n1 k1) (.slice a2 n2 k2) x y
  have NE := nextError_calls c a n cap X DI DO a1 n1 k1 ws a2 n2 k2 ms step _ (hx.below jb0.bel (Nat.le_refl _)) (l1.below jb0.bel (Nat.le_refl _)) (l2.below jb0.bel (Nat.le_refl _))
  have HJD : Hid (∀ q, Below w.heap.size w q → Calls Tryz.prog 13 #[c.val, .slice a n cap, .agg #[.slice a1 n1 k1, .slice a2 n2 k2], .int .i64 step, x.val, y.val] q fun e w' => e = .returned (.tuple #[.int .i64 (jdN (nextE c n X DI DO n1 ws n2 ms step) (jgB c n X DI DO n1 ws n2 ms step x xs) (jgB c n X DI DO n1 ws n2 ms step y ys)), .int .i64 (nextE c n X DI DO n1 ws n2 ms step)]) ∧ Below q.heap.size q w') := fun q hq => judge_calls c hs a n cap X DI DO a1 n1 k1 ws a2 n2 k2 ms step x y xs ys q (hx.below hq (Nat.le_refl _)) (l1.below hq (Nat.le_refl _)) (l2.below hq (Nat.le_refl _)) (lx.below hq (Nat.le_refl _)) (ly.below hq (Nat.le_refl _)) hx1 hy1
  have HNX : Hid (nextE c n X DI DO n1 ws n2 ms step = 0 → ∀ q, Below w.heap.size w q → Calls Tryz.prog 11 #[c.val, .slice a n cap, .agg #[.slice a1 n1 k1, .slice a2 n2 k2], .int .i64 step] q fun e w' => ∃ ga M d1 gb d2 a3 m3 k3, e = .returned (.tuple #[.agg #[.slice (some ⟨ga, 0, none⟩) M d1, .slice (some ⟨gb, 0, none⟩) M d2], .agg #[.int .i64 step, .slice a3 m3 k3, .int .i64 (nxR c n X DI DO n1 ws n2 ms step), .int .u64 (nxZ c n X DI DO n1 ws n2 ms step), .int .u64 0]]) ∧ Lst w' a3 m3 k3 (nxB c n X DI DO n1 ws n2 ms step) ∧ Below q.heap.size q w') := fun hz q hq => rnext_any c hs a n cap X DI DO a1 n1 k1 ws a2 n2 k2 ms step q (hx.below hq (Nat.le_refl _)) (l1.below hq (Nat.le_refl _)) (l2.below hq (Nat.le_refl _)) hz
  have HSA : Hid (∀ (r : Rcm) q, Below w.heap.size w q → r.s = step → r.r = nxR c n X DI DO n1 ws n2 ms step → r.root = nxZ c n X DI DO n1 ws n2 ms step → Lst q r.a r.n r.k (nxB c n X DI DO n1 ws n2 ms step) → Calls Tryz.prog 12 #[x.val, r.val] q fun e w' => e = .returned (.bool (jgB c n X DI DO n1 ws n2 ms step x xs)) ∧ Below q.heap.size q w') := fun r q hq e1 e2 e3 lr => by
    have h := rlike_big x r xs _ q (lx.below hq (Nat.le_refl _)) lr hx1
    have e : likeB x r xs (nxB c n X DI DO n1 ws n2 ms step) = jgB c n X DI DO n1 ws n2 ms step x xs := by simp only [jgB, likeB, e1, e2, e3]
    rw [e] at h
    exact h
  have HSB : Hid (∀ (r : Rcm) q, Below w.heap.size w q → r.s = step → r.r = nxR c n X DI DO n1 ws n2 ms step → r.root = nxZ c n X DI DO n1 ws n2 ms step → Lst q r.a r.n r.k (nxB c n X DI DO n1 ws n2 ms step) → Calls Tryz.prog 12 #[y.val, r.val] q fun e w' => e = .returned (.bool (jgB c n X DI DO n1 ws n2 ms step y ys)) ∧ Below q.heap.size q w') := fun r q hq e1 e2 e3 lr => by
    have h := rlike_big y r ys _ q (ly.below hq (Nat.le_refl _)) lr hy1
    have e : likeB y r ys (nxB c n X DI DO n1 ws n2 ms step) = jgB c n X DI DO n1 ws n2 ms step y ys := by simp only [jgB, likeB, e1, e2, e3]
    rw [e] at h
    exact h
  generalize jgB c n X DI DO n1 ws n2 ms step x xs = QA at *
  generalize jgB c n X DI DO n1 ws n2 ms step y ys = QB at *
  generalize nxR c n X DI DO n1 ws n2 ms step = NR at *
  generalize nxZ c n X DI DO n1 ws n2 ms step = NZ at *
  generalize nxB c n X DI DO n1 ws n2 ms step = NB at *
  generalize nextE c n X DI DO n1 ws n2 ms step = E at *
  clear hx l1 l2 hs lx ly hx1 hy1
  obtain ⟨i, h, o, seed, batch, steps, crate, decay, how, keep, clip⟩ := c
  obtain ⟨xs0, xa, xn, xk, xr, xroot, xchain⟩ := x
  obtain ⟨ys0, ya, yn, yk, yr, yroot, ychain⟩ := y
  simp only [Cfg.val, Cfg.cells, Rcm.val, Rcm.cells] at *
  obtain ⟨c0, c1, c2, c3, c4, c5, c6, c7, c8, c9, c10⟩ := jb0.cfg
  obtain ⟨s0, s1⟩ := fn2_cells jb0.st
  dsimp only at c0 c1 c2 c3 c4 c5 c6 c7 c8 c9 c10
  by_cases hE : E = 0
  · subst hE
    have NX0 := HNX.out rfl
    have HNX2 : Hid (∀ q, Below w.heap.size w q → Calls Tryz.prog 11 #[.agg #[.int .i64 i, .int .i64 h, .int .i64 o, .int .u64 seed, .int .i64 batch, .int .i64 steps, .int .i64 crate, .int .i64 decay, .int .i64 how, .int .i64 keep, .int .i64 clip], .slice a n cap, .agg #[.slice a1 n1 k1, .slice a2 n2 k2], .int .i64 step] q fun e w' => ∃ ga M d1 gb d2 a3 m3 k3, e = .returned (.tuple #[.agg #[.slice (some ⟨ga, 0, none⟩) M d1, .slice (some ⟨gb, 0, none⟩) M d2], .agg #[.int .i64 step, .slice a3 m3 k3, .int .i64 NR, .int .u64 NZ, .int .u64 0]]) ∧ Lst w' a3 m3 k3 NB ∧ Below q.heap.size q w') := NX0
    clear NX0 HNX
    go_enter Tryz.func4, Tryz.ntmps4
    go_wp2_with fail
    refine NE.mono ?_
    rintro e u1 ⟨rfl, hu1⟩
    have jb1 := jb0.below hu1
    clear NE c0 c1 c2 c3 c4 c5 c6 c7 c8 c9 c10 s0 s1 jb0
    obtain ⟨c0, c1, c2, c3, c4, c5, c6, c7, c8, c9, c10⟩ := jb1.cfg
    obtain ⟨s0, s1⟩ := fn2_cells jb1.st
    dsimp only at c0 c1 c2 c3 c4 c5 c6 c7 c8 c9 c10
    have NX := HNX2.out _ jb1.bel
    go_wp2_with fail
    refine NX.mono ?_
    rintro e u2 ⟨ga, M, d1, gb, d2, a3, m3, k3, rfl, l3, hu2⟩
    have jb2 := jb1.below hu2
    clear NX HNX2 c0 c1 c2 c3 c4 c5 c6 c7 c8 c9 c10 s0 s1 jb1
    have hal := (low_alloc u2 (.cells #[.slice (some ⟨ga, 0, none⟩) M d1, .slice (some ⟨gb, 0, none⟩) M d2] 35)).trans ((low_alloc (u2.alloc (.cells #[.slice (some ⟨ga, 0, none⟩) M d1, .slice (some ⟨gb, 0, none⟩) M d2] 35)) (.cells #[.int .i64 step, .slice a3 m3 k3, .int .i64 NR, .int .u64 NZ, .int .u64 0] 37)).mono (low_alloc u2 (.cells #[.slice (some ⟨ga, 0, none⟩) M d1, .slice (some ⟨gb, 0, none⟩) M d2] 35)).size)
    have orow := fn5_alloc (u2.alloc (.cells #[.slice (some ⟨ga, 0, none⟩) M d1, .slice (some ⟨gb, 0, none⟩) M d2] 35)) (.int .i64 step) (.slice a3 m3 k3) (.int .i64 NR) (.int .u64 NZ) (.int .u64 0) 37
    have esz : (u2.alloc (.cells #[.slice (some ⟨ga, 0, none⟩) M d1, .slice (some ⟨gb, 0, none⟩) M d2] 35)).heap.size = u2.heap.size + 1 := by simp
    rw [esz] at orow
    have jb3 := jb2.below hal
    have l4 := l3.below hal (Nat.le_refl _)
    have SA := HSA.out ⟨step, a3, m3, k3, NR, NZ, 0⟩ _ jb3.bel rfl rfl rfl l4
    dsimp only at SA
    obtain ⟨o0, o1, o2, o3, o4⟩ := fn5_box orow
    obtain ⟨x0, x1, x2, x3, x4⟩ := fn5_box jb3.ra
    clear jb2 hu2 l3 HSA
    go_wp2_with fail
    refine SA.mono ?_
    rintro e u3 ⟨rfl, hu3⟩
    have jb4 := jb3.below hu3
    have l5 := l4.below hu3 (Nat.le_refl _)
    have SB := HSB.out ⟨step, a3, m3, k3, NR, NZ, 0⟩ _ jb4.bel rfl rfl rfl l5
    dsimp only at SB
    have orow2 := orow.of_block (hu3.block _ orow.lt)
    clear x0 x1 x2 x3 x4 o0 o1 o2 o3 o4 SA HSB
    obtain ⟨o0, o1, o2, o3, o4⟩ := fn5_box orow2
    obtain ⟨y0, y1, y2, y3, y4⟩ := fn5_box jb4.rb
    clear jb3 orow orow2 l4 l5 hal hu3
    have KJ : Hid (JdBox w ⟨i, h, o, seed, batch, steps, crate, decay, how, keep, clip⟩ (.slice a1 n1 k1) (.slice a2 n2 k2) ⟨xs0, xa, xn, xk, xr, xroot, xchain⟩ ⟨ys0, ya, yn, yk, yr, yroot, ychain⟩ u3) := jb4
    clear jb4
    cases QA with
    | false =>
      go_wp2_with fail
      refine SB.mono ?_
      rintro e u4 ⟨rfl, hu4⟩
      have jb5 := KJ.out.below hu4
      obtain ⟨c0, c1, c2, c3, c4, c5, c6, c7, c8, c9, c10⟩ := jb5.cfg
      obtain ⟨s0, s1⟩ := fn2_cells jb5.st
      obtain ⟨x0, x1, x2, x3, x4⟩ := fn5_box jb5.ra
      obtain ⟨z0, z1, z2, z3, z4⟩ := fn5_box jb5.rb
      dsimp only at c0 c1 c2 c3 c4 c5 c6 c7 c8 c9 c10
      have JD := HJD.out _ jb5.bel
      have hb5 := jb5.bel
      clear jb5 KJ SB HJD o0 o1 o2 o3 o4 y0 y1 y2 y3 y4 hu4
      cases QB with
      | false =>
        go_wp2_with fail
        refine JD.mono ?_
        rintro e u5 ⟨rfl, hu5⟩
        go_wp2_with fail
        go_ret
        exact ⟨by simp, hb5.trans (hu5.mono hb5.size)⟩
      | true =>
        go_wp2_with fail
        refine JD.mono ?_
        rintro e u5 ⟨rfl, hu5⟩
        go_wp2_with fail
        go_ret
        exact ⟨by simp, hb5.trans (hu5.mono hb5.size)⟩
    | true =>
      go_wp2_with fail
      refine SB.mono ?_
      rintro e u4 ⟨rfl, hu4⟩
      have jb5 := KJ.out.below hu4
      obtain ⟨c0, c1, c2, c3, c4, c5, c6, c7, c8, c9, c10⟩ := jb5.cfg
      obtain ⟨s0, s1⟩ := fn2_cells jb5.st
      obtain ⟨x0, x1, x2, x3, x4⟩ := fn5_box jb5.ra
      obtain ⟨z0, z1, z2, z3, z4⟩ := fn5_box jb5.rb
      dsimp only at c0 c1 c2 c3 c4 c5 c6 c7 c8 c9 c10
      have JD := HJD.out _ jb5.bel
      have hb5 := jb5.bel
      clear jb5 KJ SB HJD o0 o1 o2 o3 o4 y0 y1 y2 y3 y4 hu4
      cases QB with
      | false =>
        go_wp2_with fail
        refine JD.mono ?_
        rintro e u5 ⟨rfl, hu5⟩
        go_wp2_with fail
        go_ret
        exact ⟨by simp, hb5.trans (hu5.mono hb5.size)⟩
      | true =>
        go_wp2_with fail
        refine JD.mono ?_
        rintro e u5 ⟨rfl, hu5⟩
        go_wp2_with fail
        go_ret
        exact ⟨by simp, hb5.trans (hu5.mono hb5.size)⟩
  · have hb : (E == 0) = false := by rw [beq_eq_false_iff_ne]; exact hE
    have hJ : jdN E QA QB = 0 := if_neg hE
    rw [hJ] at HJD
    clear hJ HNX HSA HSB hE
    go_enter Tryz.func4, Tryz.ntmps4
    go_wp2_with fail
    refine NE.mono ?_
    rintro e u1 ⟨rfl, hu1⟩
    have jb1 := jb0.below hu1
    clear NE c0 c1 c2 c3 c4 c5 c6 c7 c8 c9 c10 s0 s1 jb0
    obtain ⟨c0, c1, c2, c3, c4, c5, c6, c7, c8, c9, c10⟩ := jb1.cfg
    obtain ⟨s0, s1⟩ := fn2_cells jb1.st
    obtain ⟨x0, x1, x2, x3, x4⟩ := fn5_box jb1.ra
    obtain ⟨z0, z1, z2, z3, z4⟩ := fn5_box jb1.rb
    dsimp only at c0 c1 c2 c3 c4 c5 c6 c7 c8 c9 c10
    have JD := HJD.out _ jb1.bel
    have hb1 := jb1.bel
    clear jb1 HJD
    go_wp2_with fail
    refine JD.mono ?_
    rintro e u5 ⟨rfl, hu5⟩
    go_wp2_with fail
    go_ret
    exact ⟨by simp, hb1.trans (hu5.mono hb1.size)⟩

theorem auditJudges_any (c : Cfg) (a : Option Addr) (n cap : Nat) (X : Nat → Exm) (DI DO : Nat → List Int) (s : Exm) (ws ms : List Int) (step : Int) (x : Rcm) (xs : List Int) (y : Rcm) (ys : List Int) (w : World) (hs : (Lit.int .u64 c.seed).wf = true) (hx : Exs w a n cap X DI DO) (l : InEx w s ws ms) (_ : (Lit.int .i64 step).wf = true) (hrx : RecIn w x xs) (hry : RecIn w y ys) :
    Calls Tryz.prog 4 #[c.val, .slice a n cap, s.val, .int .i64 step, x.val, y.val] w fun e w' => e = .returned (.bool true) ∧ Below w.heap.size w w' :=
  auditJudges_core c (wf_word hs) a n cap X DI DO s.a s.n s.k ws s.b s.m s.t ms step x y xs ys w hx l.i l.o hrx.l hry.l (Nat.le_trans hrx.n (by decide)) (Nat.le_trans hry.n (by decide))
end Go.Proofs.YtgihnliipfdokaaGreat.Fx

/- AuditJudges holds: whatever config, examples, state, number and records are handed in, it returns true, and what was handed in stays as it was; no condition. -/
namespace Go.Proofs.YtgihnliipfdokaaGreat.auditJudges
open Go.ChangeShapes Go.WideShapes Go.ChangeAt Go.RowKit
set_option linter.unusedVariables false

set_option maxRecDepth 100000 in
theorem lifted (os : Os) (started : os.Started) (H : Type) (enc : TypeId × Value → H) :
    ReturnsInHanded {} Tryz.checked os 4 .any (Rows.auditJudgesSpec.pre6 enc Tryz.prog Tryz.f4 Rows.auditJudgesRow.domain false) (Rows.auditJudgesSpec.post enc Tryz.prog Tryz.f4 false true false false) := by
  refine returnsInHanded_of_change (C := Tryz.checked) Fx.own started (by kernel_rfl) Tryz.func4
    (ChangeSpec.witness6 (enc := enc) (C := Tryz.checked) false ⟨#[], #[.agg #[.int .i64 0, .int .i64 0, .int .i64 0, .int .u64 0, .int .i64 0, .int .i64 0, .int .i64 0, .int .i64 0, .int .i64 0, .int .i64 0, .int .i64 0], .slice none 0 0, .agg #[.slice none 0 0, .slice none 0 0], .int .i64 0, .agg #[.int .i64 0, .slice none 0 0, .int .i64 0, .int .u64 0, .int .u64 0], .agg #[.int .i64 0, .slice none 0 0, .int .i64 0, .int .u64 0, .int .u64 0]], []⟩ 8 (by kernel_rfl) (by kernel_rfl) (by kernel_rfl) (by kernel_rfl)) ?_
  intro W base args ds gs before hval0 hW hcnd _
  have hval : ∀ (j : Nat) t v, Tryz.f4.params[j]? = some t → args[j]? = some v → Value.okWide Tryz.prog W .any base t v := hval0
  have hW' := hW
  obtain ⟨p, q, hA0, hV, rfl, hfz, hnd⟩ := hW
  have hA : DataW.TrodAll enc Tryz.prog W 0 (fun _ => true) true Tryz.f4.params.toList args.toList ds p := hA0
  skip
  rw [Tryz.params4] at hA hval
  obtain ⟨v0, vs0, d0, ds0, p0, q0, hargs, rfl, rfl, h0, r0⟩ := trodAll_cons hA
  obtain ⟨v1, vs1, d1, ds1, p1, q1, rfl, rfl, rfl, h1, r1⟩ := trodAll_cons r0
  obtain ⟨v2, vs2, d2, ds2, p2, q2, rfl, rfl, rfl, h2, r2⟩ := trodAll_cons r1
  obtain ⟨v3, vs3, d3, ds3, p3, q3, rfl, rfl, rfl, h3, r3⟩ := trodAll_cons r2
  obtain ⟨v4, vs4, d4, ds4, p4, q4, rfl, rfl, rfl, h4, r4⟩ := trodAll_cons r3
  obtain ⟨v5, vs5, d5, ds5, p5, q5, rfl, rfl, rfl, h5, r5⟩ := trodAll_cons r4
  obtain ⟨rfl, rfl, rfl⟩ := trodAll_nil r5
  obtain rfl : args = #[v0, v1, v2, v3, v4, v5] := by cases args; simp_all
  obtain ⟨rfl, rfl⟩ := trodVars_none hV
  have k0 := h0
  have lt0 : ∀ x ∈ p0, x.block < W.heap.size := by obtain ⟨m, hm⟩ := k0; exact DataW.trod_lt m _ _ _ hm
  obtain ⟨C0, rfl, w0⟩ := Fx.openCfg (hval 0 24 v0 rfl rfl) h0
  have k1 := h1
  have lt1 : ∀ x ∈ p1, x.block < W.heap.size := by obtain ⟨m, hm⟩ := k1; exact DataW.trod_lt m _ _ _ hm
  obtain ⟨a1, len1, cap1, X1, DI1, DO1, rfl, w1⟩ := Fx.openExs (hval 1 25 v1 rfl rfl) h1
  have k2 := h2
  have lt2 : ∀ x ∈ p2, x.block < W.heap.size := by obtain ⟨m, hm⟩ := k2; exact DataW.trod_lt m _ _ _ hm
  obtain ⟨E2, I2, O2, rfl, w2⟩ := Fx.openState (hval 2 35 v2 rfl rfl) h2
  obtain ⟨a3, rfl, rfl, rfl, w3⟩ := open_int Tryz.underlying3 (hval 3 3 v3 rfl rfl) h3
  have k4 := h4
  have lt4 : ∀ x ∈ p4, x.block < W.heap.size := by obtain ⟨m, hm⟩ := k4; exact DataW.trod_lt m _ _ _ hm
  obtain ⟨E4, I4, rfl, w4⟩ := Fx.openRec (hval 4 37 v4 rfl rfl) h4
  have k5 := h5
  have lt5 : ∀ x ∈ p5, x.block < W.heap.size := by obtain ⟨m, hm⟩ := k5; exact DataW.trod_lt m _ _ _ hm
  obtain ⟨E5, I5, rfl, w5⟩ := Fx.openRec (hval 5 37 v5 rfl rfl) h5
  clear hA0 hval0
  refine (Fx.auditJudges_any C0 a1 len1 cap1 X1 DI1 DO1 E2 I2 O2 a3 E4 I4 E5 I5 W w0 w1 w2 w3 w4 w5).mono fun e W' ⟨he, bel⟩ => ?_
  subst he
  exact ⟨_, rfl, _, _, _, [], _, [], hW', trodAll_mk1 (shut_bool Tryz.underlying4 _), (trodAll_cons_mk (Below.trod Fx.laidOut (by kernel_rfl) (of_decide_eq_true (by kernel_rfl)) k0 bel lt0) (trodAll_cons_mk (Below.trod Fx.laidOut (by kernel_rfl) (of_decide_eq_true (by kernel_rfl)) k1 bel lt1) (trodAll_cons_mk (Below.trod Fx.laidOut (by kernel_rfl) (of_decide_eq_true (by kernel_rfl)) k2 bel lt2) (trodAll_cons_mk (shut_int Tryz.underlying3 w3) (trodAll_cons_mk (Below.trod Fx.laidOut (by kernel_rfl) (of_decide_eq_true (by kernel_rfl)) k4 bel lt4) (trodAll_cons_mk (Below.trod Fx.laidOut (by kernel_rfl) (of_decide_eq_true (by kernel_rfl)) k5 bel lt5) trodAll_mk0)))))), rfl, bel.frame _, fun h => by cases h⟩

theorem over : Rows.auditJudgesRow.holds Tryz.pinned (OpenSpec.ofChange Rows.auditJudgesSpec) :=
  OpenClaim.holds_of_wide 4 Tryz.f4 rfl rfl rfl rfl rfl rfl rfl ⟨rfl, rfl, rfl, rfl, rfl⟩ rfl rfl rfl rfl rfl (by kernel_rfl) Tryz.func4 (by kernel_rfl)
    (of_decide_eq_true (by kernel_rfl)) (by unfold Func.isWrapper; first | (rw [if_pos (by decide +kernel)]; kernel_rfl) | (rw [if_neg (by decide +kernel)]; exact ⟨rfl, rfl⟩))
    (fun os started H enc _ => lifted os started H enc)
end Go.Proofs.YtgihnliipfdokaaGreat.auditJudges

namespace Go.Proofs.YtgihnliipfdokaaGreat
theorem auditJudges_holds : Rows.AuditJudgesSaid := auditJudges.over
end Go.Proofs.YtgihnliipfdokaaGreat
