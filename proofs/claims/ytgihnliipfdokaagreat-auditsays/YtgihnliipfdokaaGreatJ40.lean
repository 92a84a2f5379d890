/- AuditSays holds: whatever config, examples and records are handed in, it returns true (audit.Whole answers what the document says), and what was handed in stays as it was; no condition. -/
import Derived.Test.YtgihnliipfdokaaGreatJ08
import Derived.Test.YtgihnliipfdokaaGreatJ39
import Derived.Test.YtgihnliipfdokaaGreatJ21
import Derived.Test.YtgihnliipfdokaaGreatJ23
import Derived.Test.YtgihnliipfdokaaGreatJ16
import Derived.Deep.QuietTactic
import Derived.BigQuiet
import Derived.Deep.RegionHeld3
import Derived.Test.YtgihnliipfdokaaGreatJ26
import Derived.Test.YtgihnliipfdokaaGreatJ17
import Derived.Test.YtgihnliipfdokaaGreatJ00
import Derived.Test.YtgihnliipfdokaaGreatJ07
import Derived.WalkKit
namespace Go.Proofs.YtgihnliipfdokaaGreat.Fx
open Go.RowKit

theorem via7n {P : Prop} {F Q : Nat → Nat → Nat → Nat → Nat → World → Prop} (h1 : (∀ g1 g2 g3 g4 GB q, F g1 g2 g3 g4 GB q → Q g1 g2 g3 g4 GB q) → P) (h2 : ∀ g1 g2 g3 g4 GB q, F g1 g2 g3 g4 GB q → Q g1 g2 g3 g4 GB q) : P := h1 h2
theorem alj {B : Nat} {W q : World} (h : Below B W q) (hB : B ≤ W.heap.size) {o : Obj} : Below B W (q.alloc o) := h.alloc (Nat.le_trans hB h.size) o
theorem setj {Bd : Nat} {W q : World} (h : Below Bd W q) {b i : Nat} (hb : Bd ≤ b) {v : Value} : Below Bd W (q.setCell ⟨b, i, none⟩ v) := h.setCell hb v
theorem Lst.blkJ {w : World} {g o n c : Nat} {xs : List Int} (h : Lst w (some ⟨g, o, none⟩) n c xs) (hn : 0 < n) : g < w.heap.size := by
  obtain ⟨_, _, e, hs, _⟩ := h.at hn
  simp only [Option.some.injEq, Addr.mk.injEq, and_true] at e
  omega
/-- The batches of records: each lies apart from the block that grows. -/
def JrB (w : World) (B k : Nat) (v : Value) (R : Nat → Rcm) (DB : Nat → List Int) : Prop := ∀ j, j < k → (R j).n = B ∧ Lst w (R j).a (R j).n (R j).k (DB j) ∧ ∀ bg o, (R j).a = some ⟨bg, o, none⟩ → v.ownBlock ≠ some bg
theorem JrB.below {w w' : World} {B k : Nat} {v : Value} {R : Nat → Rcm} {DB : Nat → List Int} (h : JrB w B k v R DB) (hb : Below w.heap.size w w') : JrB w' B k v R DB := fun j hj => ⟨(h j hj).1, (h j hj).2.1.below hb (Nat.le_refl _), (h j hj).2.2⟩
theorem JrB.offS {w : World} {B k : Nat} {v : Value} {R : Nat → Rcm} {DB : Nat → List Int} (h : JrB w B k v R DB) {p : Addr} {x : Option Addr} {y z : Nat} (hp : w.cell? p = some (.slice x y z)) (u : Value) : JrB (w.setCell p u) B k v R DB := fun j hj => ⟨(h j hj).1, (h j hj).2.1.setOff hp u, (h j hj).2.2⟩
theorem JrB.offB {w : World} {B k : Nat} {v : Value} {R : Nat → Rcm} {DB : Nat → List Int} (h : JrB w B k v R DB) (b : Nat) (hb : ∀ j, j < k → FarB (R j).a b) (i : Nat) (u : Value) : JrB (w.setCell ⟨b, i, none⟩ u) B k v R DB := fun j hj => ⟨(h j hj).1, (h j hj).2.1.offB (hb j hj) i u, (h j hj).2.2⟩
theorem JrB.far {w : World} {B k : Nat} {v : Value} {R : Nat → Rcm} {DB : Nat → List Int} (h : JrB w B k v R DB) (hB : 1 ≤ B) {b : Nat} (hb : w.heap.size ≤ b) : ∀ j, j < k → FarB (R j).a b := fun j hj bg o e => by
  have hl := (h j hj).2.1
  rw [e, (h j hj).1] at hl
  have := hl.blkJ (by omega)
  omega
theorem JrB.grown {w w' : World} {B k : Nat} {v v' : Value} {R : Nat → Rcm} {DB : Nat → List Int} (h : JrB w B k v R DB) (hB : 1 ≤ B) (hg : w.grownBy w' v.ownBlock) (he : v'.ownBlock = v.ownBlock ∨ v'.ownBlock = some w.heap.size) : JrB w' B k v' R DB := fun j hj => by
  obtain ⟨h1, hl, h3⟩ := h j hj
  have hl2 := hl
  obtain ⟨bg, o, e, hlt, hc⟩ := hl.at (by omega)
  have hne := h3 bg o e
  refine ⟨h1, ?_, fun bg' o' e' => ?_⟩
  · refine ⟨hl2.1, hl2.2.1, .inr ⟨bg, o, e, Nat.lt_of_lt_of_le hlt hg.size, fun i hi => hg.cell (hc i hi) (fun g => hne g.symm)⟩⟩
  · rw [e] at e'
    simp only [Option.some.injEq, Addr.mk.injEq, and_true] at e'
    rcases he with h | h
    · rw [h, ← e'.1]; exact hne
    · rw [h, ← e'.1]; intro g; simp at g; omega
theorem JrB.push {w : World} {B k : Nat} {v : Value} {R R2 : Nat → Rcm} {DB : Nat → List Int} (h : JrB w B k v R DB) (hR : ∀ j, j < k → R2 j = R j) (hn : (R2 k).n = B) (hl : Lst w (R2 k).a (R2 k).n (R2 k).k (DB k)) (hf : ∀ bg o, (R2 k).a = some ⟨bg, o, none⟩ → v.ownBlock ≠ some bg) : JrB w B (k + 1) v R2 DB := fun j hj => by
  by_cases e : j = k
  · subst e; exact ⟨hn, hl, hf⟩
  · rw [hR j (by omega)]; exact h j (by omega)
theorem OwnR.form {base : Nat} {w : World} {v : Value} {n : Nat} {R : Nat → Rcm} (h : OwnR base w v n R) : ∃ a c, v = .slice a n c := by
  rcases h.2 with ⟨rfl, rfl⟩ | ⟨g, cap, cur, rfl, _⟩
  · exact ⟨none, 0, rfl⟩
  · exact ⟨_, cap, rfl⟩
theorem OwnR.setOther {base : Nat} {w : World} {v : Value} {n : Nat} {R : Nat → Rcm} (h : OwnR base w v n R) {b : Nat} (hb : v.ownBlock ≠ some b) (i : Nat) (u : Value) : OwnR base (w.setCell ⟨b, i, none⟩ u) v n R := by
  refine ⟨h.1, ?_⟩
  rcases h.2 with h0 | ⟨g, cap, cur, hv, hg, hh, r⟩
  · exact .inl h0
  · have hne : g ≠ (⟨b, i, none⟩ : Addr).block := fun e => hb (by rw [hv]; simp [Value.ownBlock, e])
    exact .inr ⟨g, cap, cur, hv, hg, by rw [Go.Deep.blk_setCell_other _ _ _ _ hne]; exact hh, r⟩
theorem Lst.grownO {w w' : World} {g o n c : Nat} {xs : List Int} {row : Option Nat} (h : Lst w (some ⟨g, o, none⟩) n c xs) (hg : w.grownBy w' row) (hne : row ≠ some g) : Lst w' (some ⟨g, o, none⟩) n c xs := by
  refine ⟨h.1, h.2.1, ?_⟩
  rcases h.2.2 with h0 | ⟨b, off, e, hs, hc⟩
  · exact .inl h0
  · simp only [Option.some.injEq, Addr.mk.injEq, and_true] at e
    obtain ⟨rfl, rfl⟩ := e
    exact .inr ⟨g, o, rfl, Nat.lt_of_lt_of_le hs hg.size, fun i hi => hg.cell (hc i hi) (fun e => hne e.symm)⟩
theorem ne_new {x y : Option Nat} {t M : Nat} (hat : x = y ∨ x = some M) (h1 : y ≠ some t) (h2 : t < M) : x ≠ some t := by
  rcases hat with h | h
  · rw [h]; exact h1
  · rw [h]; intro e; simp at e; omega
set_option maxRecDepth 100000 in
set_option maxHeartbeats 6400000 in
theorem rjournal_calls (I H O B : Nat) (seed crate decay how keep clip : Int) (hs : okW seed) (steps : Int) (hc : cfgB ⟨I, H, O, seed, B, steps, crate, decay, how, keep, clip⟩ = true) (N : Nat) (hN : N = H * I + H + O * H + O) (a : Option Addr) (n cap : Nat) (X : Nat → Exm) (DI DO : Nat → List Int) (nn : Nat) (w : World)
    (hx : Exs w a n cap X DI DO) (hn1 : 1 ≤ n) (hn2 : n ≤ 16) (hex : allEx ⟨I, H, O, seed, B, steps, crate, decay, how, keep, clip⟩ n X DI DO = true) (hnn : (nn : Int) ≤ steps) :
    Calls Tryz.prog 24 #[Cfg.val ⟨I, H, O, seed, B, steps, crate, decay, how, keep, clip⟩, .slice a n cap, .int .i64 nn] w fun e w' => ∃ b k R, e = .returned (.slice b nn k) ∧ Recs w' b nn k R (jrBatch ⟨I, H, O, seed, B, steps, crate, decay, how, keep, clip⟩ n) ∧ JrN nn R (fun j => rateV ⟨I, H, O, seed, B, steps, crate, decay, how, keep, clip⟩ j) (jrRoot ⟨I, H, O, seed, B, steps, crate, decay, how, keep, clip⟩ n DI DO N) (jrChain ⟨I, H, O, seed, B, steps, crate, decay, how, keep, clip⟩ n DI DO N) ∧ (∀ j, j < nn → (R j).n = B) ∧ Below w.heap.size w w' := by
  obtain ⟨⟨i1, i2⟩, ⟨h1, h2⟩, ⟨p1, p2⟩, ⟨b1, b2⟩, ⟨s1, s2⟩, _⟩ := cfgB_is hc
  dsimp only at i1 i2 h1 h2 p1 p2 b1 b2 s1 s2
  have hN4 : 4 ≤ N ∧ N ≤ 40 := by
    have := prod_sideN (show H ≤ 4 by omega) (show I ≤ 4 by omega)
    have := prod_sideN (show O ≤ 4 by omega) (show H ≤ 4 by omega)
    have : 1 ≤ H * I := Nat.mul_pos (by omega) (by omega)
    have : 1 ≤ O * H := Nat.mul_pos (by omega) (by omega)
    omega
  obtain ⟨DW, HDW⟩ : ∃ f : Nat → List Int, Hid (∀ j, f j = (stateP ⟨I, H, O, seed, B, steps, crate, decay, how, keep, clip⟩ n DI DO N j).1) := ⟨_, fun _ => rfl⟩
  obtain ⟨DM, HDM⟩ : ∃ f : Nat → List Int, Hid (∀ j, f j = (stateP ⟨I, H, O, seed, B, steps, crate, decay, how, keep, clip⟩ n DI DO N j).2) := ⟨_, fun _ => rfl⟩
  obtain ⟨DB, HDB⟩ : ∃ f : Nat → List Int, Hid (jrBatch ⟨I, H, O, seed, B, steps, crate, decay, how, keep, clip⟩ n = f) := ⟨_, rfl⟩
  obtain ⟨RV, HRV⟩ : ∃ f : Nat → Int, Hid ((fun j : Nat => rateV ⟨I, H, O, seed, B, steps, crate, decay, how, keep, clip⟩ j) = f) := ⟨_, rfl⟩
  obtain ⟨RO, HRO⟩ : ∃ f : Nat → Int, Hid (jrRoot ⟨I, H, O, seed, B, steps, crate, decay, how, keep, clip⟩ n DI DO N = f) := ⟨_, rfl⟩
  obtain ⟨CH, HCH⟩ : ∃ f : Nat → Int, Hid (jrChain ⟨I, H, O, seed, B, steps, crate, decay, how, keep, clip⟩ n DI DO N = f) := ⟨_, rfl⟩
  have HCS : Hid (∀ k : Nat, CH (k + 1) = chainP (CH k) (k : Int) (RV k) (RO k) (DB k)) := fun k => by rw [← HCH.out, ← HRV.out, ← HRO.out, ← HDB.out]; rfl
  have HC0 : Hid (headP ⟨I, H, O, seed, B, steps, crate, decay, how, keep, clip⟩ n DI DO N = CH 0) := by show headP ⟨I, H, O, seed, B, steps, crate, decay, how, keep, clip⟩ n DI DO N = CH 0; rw [← HCH.out]; rfl
  have HCW : Hid (∀ k, okW (CH k)) := fun k => by
    rw [← HCH.out]
    cases k with
    | zero => exact okP_W (ofP_ok _ _)
    | succ k => exact okP_W (ofP_ok _ _)
  have HRB : Hid (∀ k : Nat, (k : Int) ≤ steps - 1 → 0 ≤ RV k ∧ RV k ≤ 9223372036854775807) := fun k hk => by
    rw [← HRV.out]
    have := in_is (rateV_in hc k (by omega) hk)
    dsimp only
    exact ⟨this.1, by omega⟩
  have HDN : Hid (∀ k j, j < B → 0 ≤ (DB k).getD j 0 ∧ (DB k).getD j 0 ≤ 9223372036854775807) := fun k j hj => by
    rw [← HDB.out]
    obtain ⟨t, ht, e⟩ := batch_in seed B n (k * B) hn1 hj
    unfold jrBatch
    dsimp only
    rw [show ((B : Int).toNat) = B from rfl, e]
    omega
  rw [HDB.out, HRV.out, HRO.out, HCH.out]
  have hNI : (N : Int) = sizeN ⟨I, H, O, seed, B, steps, crate, decay, how, keep, clip⟩ := by unfold sizeN; dsimp only; rw [hN]; push_cast; rfl
  have HS : Hid (∀ q, Calls Tryz.prog 49 #[Cfg.val ⟨I, H, O, seed, B, steps, crate, decay, how, keep, clip⟩] q fun e w' => ∃ ga d1 gb d2, e = .returned (.agg #[.slice (some ⟨ga, 0, none⟩) N d1, .slice (some ⟨gb, 0, none⟩) N d2]) ∧ q.heap.size ≤ ga ∧ q.heap.size ≤ gb ∧ Lst w' (some ⟨ga, 0, none⟩) N d1 (DW 0) ∧ Lst w' (some ⟨gb, 0, none⟩) N d2 (DM 0) ∧ Below q.heap.size q w') := fun q => by
    rw [HDW.out, HDM.out]
    exact rstart_calls ⟨I, H, O, seed, B, steps, crate, decay, how, keep, clip⟩ hc hs N hNI q
  have HHD : Hid (∀ q, Below w.heap.size w q → Calls Tryz.prog 50 #[Cfg.val ⟨I, H, O, seed, B, steps, crate, decay, how, keep, clip⟩, .slice a n cap] q fun e w' => e = .returned (.int .u64 (CH 0)) ∧ Below q.heap.size q w') := fun q hq => by
    have := rhead_calls ⟨I, H, O, seed, B, steps, crate, decay, how, keep, clip⟩ hc hs N hNI a n cap X DI DO q (hx.below hq (Nat.le_refl _)) hn2 hex
    rw [HC0.out] at this
    exact this
  have HNX : Hid (∀ k : Nat, (k : Int) ≤ steps - 1 → ∀ q x1 k1 x2 k2, Below w.heap.size w q → Lst q (some ⟨x1, 0, none⟩) N k1 (DW k) → Lst q (some ⟨x2, 0, none⟩) N k2 (DM k) → Calls Tryz.prog 11 #[Cfg.val ⟨I, H, O, seed, B, steps, crate, decay, how, keep, clip⟩, .slice a n cap, .agg #[.slice (some ⟨x1, 0, none⟩) N k1, .slice (some ⟨x2, 0, none⟩) N k2], .int .i64 k] q fun e w' => ∃ ga d1 gb d2 a3 k3, e = .returned (.tuple #[.agg #[.slice (some ⟨ga, 0, none⟩) N d1, .slice (some ⟨gb, 0, none⟩) N d2], .agg #[.int .i64 k, .slice a3 B k3, .int .i64 (RV k), .int .u64 (RO k), .int .u64 0]]) ∧ q.heap.size ≤ ga ∧ q.heap.size ≤ gb ∧ Lst w' (some ⟨ga, 0, none⟩) N d1 (DW (k + 1)) ∧ Lst w' (some ⟨gb, 0, none⟩) N d2 (DM (k + 1)) ∧ Lst w' a3 B k3 (DB k) ∧ (∀ bg o, a3 = some ⟨bg, o, none⟩ → q.heap.size ≤ bg) ∧ Below q.heap.size q w') := fun k hk q x1 k1 x2 k2 hq l1 l2 => by
    refine (rnext_calls I H O B k seed crate decay how keep clip hs steps hc N hN a n cap X DI DO x1 0 k1 (DW k) x2 0 k2 (DM k) q (hx.below hq (Nat.le_refl _)) hn1 hn2 hex l1 l2 hk _ _ _ rfl rfl rfl).mono ?_
    rintro e w' ⟨ga, e1, gb, e2, a3, k3, he, hga, hgb, lw, lm, lb, hnew, hb⟩
    refine ⟨ga, e1, gb, e2, a3, k3, ?_, hga, hgb, ?_, ?_, ?_, hnew, hb⟩
    · rw [he, ← HRV.out, ← HRO.out, HDW.out, HDM.out]; rfl
    · rw [HDW.out (k + 1)]; rw [HDW.out, HDM.out] at lw; exact lw
    · rw [HDM.out (k + 1)]; rw [HDW.out, HDM.out] at lm; exact lm
    · rw [← HDB.out]; exact lb
  have HCN : Hid (∀ (k : Nat) (a3 : Option Addr) (k3 : Nat) (q : World), (k : Int) ≤ steps - 1 → Lst q a3 B k3 (DB k) → Calls Tryz.prog 51 #[.int .u64 (CH k), .agg #[.int .i64 k, .slice a3 B k3, .int .i64 (RV k), .int .u64 (RO k), .int .u64 0]] q fun e w' => e = .returned (.int .u64 (CH (k + 1))) ∧ Below q.heap.size q w') := fun k a3 k3 q hk hl => by
    have hRO : okW (RO k) := by rw [← HRO.out]; exact rootP_W _ _ _
    have := rchain_calls (CH k) (HCW.out k) ⟨(k : Int), a3, B, k3, RV k, RO k, 0⟩ (DB k) q hl ⟨by show (0 : Int) ≤ (k : Int); omega, by show (k : Int) ≤ _; omega⟩ (HRB.out k hk) hRO (by show B ≤ 8; omega) (fun j hj => HDN.out k j hj)
    rw [HCS.out k]
    exact this
  have hal := low_alloc w (.cells (Cfg.cells ⟨I, H, O, seed, B, steps, crate, decay, how, keep, clip⟩) 24)
  obtain ⟨W, HW⟩ : ∃ q, Hid (q = w.alloc (.cells (Cfg.cells ⟨I, H, O, seed, B, steps, crate, decay, how, keep, clip⟩) 24)) := ⟨_, rfl⟩
  have KB : Hid (∀ q, Below W.heap.size W q → BoxC q w.heap.size ⟨I, H, O, seed, B, steps, crate, decay, how, keep, clip⟩) := fun q hq => by rw [HW.out] at hq; exact boxC hq (by simp)
  have hbW : Below w.heap.size w W := by rw [HW.out]; exact hal
  have hltW : w.heap.size < W.heap.size := by rw [HW.out]; simp
  clear hx hex hc hN hNI hs HDW HDM HDB HRV HRO HCH HCS HC0 HCW HRB HDN hal
  simp only [Cfg.val, Cfg.cells] at *
  have KS : Hid (∀ q, Below W.heap.size W q → q.cell? ⟨w.heap.size, 0, none⟩ = some (.int .i64 I) ∧ q.cell? ⟨w.heap.size, 1, none⟩ = some (.int .i64 H) ∧ q.cell? ⟨w.heap.size, 2, none⟩ = some (.int .i64 O) ∧ q.cell? ⟨w.heap.size, 3, none⟩ = some (.int .u64 seed) ∧ q.cell? ⟨w.heap.size, 4, none⟩ = some (.int .i64 B) ∧ q.cell? ⟨w.heap.size, 5, none⟩ = some (.int .i64 steps) ∧ q.cell? ⟨w.heap.size, 6, none⟩ = some (.int .i64 crate) ∧ q.cell? ⟨w.heap.size, 7, none⟩ = some (.int .i64 decay) ∧ q.cell? ⟨w.heap.size, 8, none⟩ = some (.int .i64 how) ∧ q.cell? ⟨w.heap.size, 9, none⟩ = some (.int .i64 keep) ∧ q.cell? ⟨w.heap.size, 10, none⟩ = some (.int .i64 clip)) := fun q hq => by
    obtain ⟨x0, x1, x2, x3, x4, x5, x6, x7, x8, x9, x10⟩ := KB.out q hq
    exact ⟨x0, x1, x2, x3, x4, x5, x6, x7, x8, x9, x10⟩
  have T0 : Below W.heap.size W W := Below.refl _ _
  have hle : W.heap.size ≤ W.heap.size := Nat.le_refl _
  have Ba : Below W.heap.size W W.drew := Below.drew T0
  have Bb : Below W.heap.size W (W.alloc (.cells #[.slice none 0 0, .slice none 0 0] 35)).drew := Below.drew (alj T0 hle)
  have sbS : (W.alloc (.cells #[.slice none 0 0, .slice none 0 0] 35)).drew.rowIs W.heap.size 35 2 (fn2 (.slice none 0 0) (.slice none 0 0)) := fn2_alloc W (.slice none 0 0) (.slice none 0 0) 35
  have HHD2 : Hid (∀ q, Below W.heap.size W q → Calls Tryz.prog 50 #[.agg #[.int .i64 I, .int .i64 H, .int .i64 O, .int .u64 seed, .int .i64 B, .int .i64 steps, .int .i64 crate, .int .i64 decay, .int .i64 how, .int .i64 keep, .int .i64 clip], .slice a n cap] q fun e w' => e = .returned (.int .u64 (CH 0)) ∧ Below q.heap.size q w') := fun q hq => HHD.out q (hbW.trans (hq.mono hbW.size))
  go_enter Tryz.func24, Tryz.ntmps24
  go_wp2_with fail
  rw [← HW.out]
  clear HW
  apply via7n (F := OutAt W N (DW 0) (DM 0))
  · intro key
    go_region_held3 (fun q => q.cell? ⟨w.heap.size, 0, none⟩ = some (.int .i64 I) ∧ q.cell? ⟨w.heap.size, 1, none⟩ = some (.int .i64 H) ∧ q.cell? ⟨w.heap.size, 2, none⟩ = some (.int .i64 O) ∧ q.cell? ⟨w.heap.size, 3, none⟩ = some (.int .u64 seed) ∧ q.cell? ⟨w.heap.size, 4, none⟩ = some (.int .i64 B) ∧ q.cell? ⟨w.heap.size, 5, none⟩ = some (.int .i64 steps) ∧ q.cell? ⟨w.heap.size, 6, none⟩ = some (.int .i64 crate) ∧ q.cell? ⟨w.heap.size, 7, none⟩ = some (.int .i64 decay) ∧ q.cell? ⟨w.heap.size, 8, none⟩ = some (.int .i64 how) ∧ q.cell? ⟨w.heap.size, 9, none⟩ = some (.int .i64 keep) ∧ q.cell? ⟨w.heap.size, 10, none⟩ = some (.int .i64 clip)) ((with_reducible refine KS.out _ ?_; iterate 12 (first | done | with_reducible exact V2 | with_reducible exact V1 | with_reducible exact T0 | with_reducible refine Below.drew ?_ | with_reducible refine alj ?_ hle | (with_reducible refine setj ?_ ?_; rotate_left; omega))))
      (first | (go_at_call 49; refine (HS.out _).mono ?_; rintro e v1 ⟨ga, d1, gb, d2, rfl, hga, hgb, l1, l2, hv1⟩; have V1 : Below W.heap.size W v1 := (by first | exact Ba.trans (hv1.mono Ba.size) | exact Bb.trans (hv1.mono Bb.size)); have hV1 := V1.size; (try (have zs1 := sbS.of_block (hv1.block _ sbS.lt))); have zs1b := fn2_alloc v1 (.slice none 0 0) (.slice none 0 0) 35; have V1a := alj V1 hle (o := (.cells #[.slice none 0 0, .slice none 0 0] 35))) | (go_at_call 50; (first | refine (HHD2.out _ V1).mono ?_ | refine (HHD2.out _ V1a).mono ?_); rintro e v2 ⟨rfl, hv2⟩; have V2 : Below W.heap.size W v2 := (by first | exact V1.trans (hv2.mono V1.size) | exact V1a.trans (hv2.mono V1a.size)); have hV2 := V2.size; have m1 : Lst v2 (some ⟨ga, 0, none⟩) N d1 (DW 0) := (by first | exact l1.below hv2 (Nat.le_refl _) | exact (l1.below (low_alloc v1 (.cells #[.slice none 0 0, .slice none 0 0] 35)) (Nat.le_refl _)).below hv2 (Nat.le_refl _)); have m2 : Lst v2 (some ⟨gb, 0, none⟩) N d2 (DM 0) := (by first | exact l2.below hv2 (Nat.le_refl _) | exact (l2.below (low_alloc v1 (.cells #[.slice none 0 0, .slice none 0 0] 35)) (Nat.le_refl _)).below hv2 (Nat.le_refl _)); first | (have zs := zs1.of_block (hv2.block _ zs1.lt); obtain ⟨y0, y1⟩ := fn2_cells zs; have f0 := zs.frozen 0; have f1 := zs.frozen 1) | (have zs := zs1b.of_block (hv2.block _ zs1b.lt); obtain ⟨y0, y1⟩ := fn2_cells zs; have f0 := zs.frozen 0; have f1 := zs.frozen 1) | skip))
    all_goals
      have ba := l1.blkJ (by omega)
      have bb := l2.blkJ (by omega)
      simp at hga hgb
      have ba2 := m1.blkJ (by omega)
      have bb2 := m2.blkJ (by omega)
    · have f : OutAt W N (DW 0) (DM 0) ga d1 gb d2 v2.heap.size (v2.alloc (.cells #[.slice (some ⟨ga, 0, none⟩) N d1, .slice (some ⟨gb, 0, none⟩) N d2] 35)) := ⟨fn2_alloc _ _ _ _, hV2, by omega, by omega, m1.below (low_alloc _ _) (Nat.le_refl _), m2.below (low_alloc _ _) (Nat.le_refl _), alj V2 hle⟩
      generalize v2.alloc (.cells #[.slice (some ⟨ga, 0, none⟩) N d1, .slice (some ⟨gb, 0, none⟩) N d2] 35) = q at f ⊢
      generalize v2.heap.size = SB at f ⊢
      exact key ga d1 gb d2 SB q f
    · exact key ga d1 gb d2 _ _ ⟨fn2_set zs _ _, hV1, by omega, by omega, (m1.setFar (a := ⟨v1.heap.size, 0, none⟩) (show ga ≠ v1.heap.size by omega) _).setFar (a := ⟨v1.heap.size, 1, none⟩) (show ga ≠ v1.heap.size by omega) _, (m2.setFar (a := ⟨v1.heap.size, 0, none⟩) (show gb ≠ v1.heap.size by omega) _).setFar (a := ⟨v1.heap.size, 1, none⟩) (show gb ≠ v1.heap.size by omega) _, setj (setj V2 hV1) hV1⟩
    · exact key ga d1 gb d2 _ _ ⟨fn2_set zs _ _, Nat.le_refl _, by omega, by omega, (m1.setFar (a := ⟨W.heap.size, 0, none⟩) (show ga ≠ W.heap.size by omega) _).setFar (a := ⟨W.heap.size, 1, none⟩) (show ga ≠ W.heap.size by omega) _, (m2.setFar (a := ⟨W.heap.size, 0, none⟩) (show gb ≠ W.heap.size by omega) _).setFar (a := ⟨W.heap.size, 1, none⟩) (show gb ≠ W.heap.size by omega) _, setj (setj V2 (Nat.le_refl _)) (Nat.le_refl _)⟩
  · rintro ga d1 gb d2 SB q ⟨srow, hSB, hga, hgb, la, lb, bel⟩
    clear Ba Bb sbS HHD2 HHD HS T0
    go_wp2_with fail
    go_loopw [8, 9, 10] (fun cw v t wr => ∃ (k ga d1 gb d2 : Nat) (sa : Option Addr) (sc : Nat) (R : Nat → Rcm), k ≤ nn ∧ t = .int .i64 k ∧ cw = .int .u64 (CH k) ∧ v = .slice sa k sc ∧ OwnR W.heap.size wr (.slice sa k sc) k R ∧ JrB wr B k (.slice sa k sc) R DB ∧ Hid (JrN k R RV RO CH) ∧ wr.rowIs SB 35 2 (fn2 (.slice (some ⟨ga, 0, none⟩) N d1) (.slice (some ⟨gb, 0, none⟩) N d2)) ∧ Lst wr (some ⟨ga, 0, none⟩) N d1 (DW k) ∧ Lst wr (some ⟨gb, 0, none⟩) N d2 (DM k) ∧ Hid ((Value.slice sa k sc).ownBlock ≠ some ga ∧ (Value.slice sa k sc).ownBlock ≠ some gb ∧ (Value.slice sa k sc).ownBlock ≠ some SB) ∧ Below W.heap.size W wr) (fun _ _ t _ => nn - (intOf t).toNat)
    case atStart => exact ⟨0, ga, d1, gb, d2, none, 0, fun _ => ⟨0, none, 0, 0, 0, 0, 0⟩, Nat.zero_le _, rfl, rfl, rfl, OwnR.nil _ _ _, (fun j hj => by omega), (fun j hj => by omega), srow, la, lb, ⟨by simp [Value.ownBlock], by simp [Value.ownBlock], by simp [Value.ownBlock]⟩, bel⟩
    case round =>
      clear srow la lb bel hga hgb
      obtain ⟨k, xa, e1, xb, e2, sa, sc, R, hk, rfl, rfl, rfl, hown, hjb, hjn, srow, la, lb, hob, hbel⟩ := hrel
      have hSBl := srow.lt
      have hzW := hbel.size
      by_cases hlt : k < nn
      · have hst : (k : Int) ≤ steps - 1 := by omega
        have hw0 := low_alloc wr (.cells #[.int .i64 0, .slice none 0 0, .int .i64 0, .int .u64 0, .int .u64 0] 37)
        have bwa := hbel.trans (hw0.mono hbel.size)
        have NX := HNX.out k hst (wr.alloc (.cells #[.int .i64 0, .slice none 0 0, .int .i64 0, .int .u64 0, .int .u64 0] 37)) xa e1 xb e2 (hbW.trans (bwa.mono hbW.size)) (la.below hw0 (Nat.le_refl _)) (lb.below hw0 (Nat.le_refl _))
        have HNX2 : Hid (Calls Tryz.prog 11 #[.agg #[.int .i64 I, .int .i64 H, .int .i64 O, .int .u64 seed, .int .i64 B, .int .i64 steps, .int .i64 crate, .int .i64 decay, .int .i64 how, .int .i64 keep, .int .i64 clip], .slice a n cap, .agg #[.slice (some ⟨xa, 0, none⟩) N e1, .slice (some ⟨xb, 0, none⟩) N e2], .int .i64 k] (wr.alloc (.cells #[.int .i64 0, .slice none 0 0, .int .i64 0, .int .u64 0, .int .u64 0] 37)) fun e w' => ∃ ga d1 gb d2 a3 k3, e = .returned (.tuple #[.agg #[.slice (some ⟨ga, 0, none⟩) N d1, .slice (some ⟨gb, 0, none⟩) N d2], .agg #[.int .i64 k, .slice a3 B k3, .int .i64 (RV k), .int .u64 (RO k), .int .u64 0]]) ∧ (wr.alloc (.cells #[.int .i64 0, .slice none 0 0, .int .i64 0, .int .u64 0, .int .u64 0] 37)).heap.size ≤ ga ∧ (wr.alloc (.cells #[.int .i64 0, .slice none 0 0, .int .i64 0, .int .u64 0, .int .u64 0] 37)).heap.size ≤ gb ∧ Lst w' (some ⟨ga, 0, none⟩) N d1 (DW (k + 1)) ∧ Lst w' (some ⟨gb, 0, none⟩) N d2 (DM (k + 1)) ∧ Lst w' a3 B k3 (DB k) ∧ (∀ bg o, a3 = some ⟨bg, o, none⟩ → (wr.alloc (.cells #[.int .i64 0, .slice none 0 0, .int .i64 0, .int .u64 0, .int .u64 0] 37)).heap.size ≤ bg) ∧ Below (wr.alloc (.cells #[.int .i64 0, .slice none 0 0, .int .i64 0, .int .u64 0, .int .u64 0] 37)).heap.size (wr.alloc (.cells #[.int .i64 0, .slice none 0 0, .int .i64 0, .int .u64 0, .int .u64 0] 37)) w') := NX
        have rr0 := fn5_alloc wr (.int .i64 0) (.slice none 0 0) (.int .i64 0) (.int .u64 0) (.int .u64 0) 37
        obtain ⟨c0, c1, c2, c3, c4, c5, c6, c7, c8, c9, c10⟩ := KS.out _ bwa
        obtain ⟨s0, s1⟩ := fn2_cells (srow.alloc (.cells #[.int .i64 0, .slice none 0 0, .int .i64 0, .int .u64 0, .int .u64 0] 37))
        clear NX
        go_wp2_with fail
        refine HNX2.out.mono ?_
        rintro e u1 ⟨ga, d1, gb, d2, a3, k3, rfl, hga, hgb, g1, g2, g3, hnew, hu1⟩
        have bu1 : Below wr.heap.size wr u1 := hw0.trans (hu1.mono hw0.size)
        simp at hga hgb
        have hnew2 : ∀ bg o, a3 = some ⟨bg, o, none⟩ → wr.heap.size + 1 ≤ bg := fun bg o e => by have h := hnew bg o e; simpa using h
        clear c0 c1 c2 c3 c4 c5 c6 c7 c8 c9 c10 s0 s1 HNX2 hnew
        have srow1 := srow.of_block (bu1.block _ srow.lt)
        have rr1 := rr0.of_block (hu1.block _ rr0.lt)
        obtain ⟨y0, y1⟩ := fn2_cells srow1
        have f0 := srow1.frozen 0
        have f1 := srow1.frozen 1
        have rr2 := (rr1.setOther (a := ⟨SB, 0, none⟩) (show wr.heap.size ≠ SB by omega) (.slice (some ⟨ga, 0, none⟩) N d1)).setOther (a := ⟨SB, 1, none⟩) (show wr.heap.size ≠ SB by omega) (.slice (some ⟨gb, 0, none⟩) N d2)
        obtain ⟨t0, t1, t2, t3, t4⟩ := fn5_box rr2
        have h0 := rr2.frozen 0
        have h1' := rr2.frozen 1
        have h2' := rr2.frozen 2
        have h3 := rr2.frozen 3
        have h4 := rr2.frozen 4
        have rr3 := fn5_set rr2 (.int .i64 k) (.slice a3 B k3) (.int .i64 (RV k)) (.int .u64 (RO k)) (.int .u64 0)
        obtain ⟨q0, q1, q2, q3, q4⟩ := fn5_box rr3
        have hbS : W.heap.size ≤ SB := hSB
        -- what stands behind the stores
        have y1' : (u1.setCell ⟨SB, 0, none⟩ (.slice (some ⟨ga, 0, none⟩) N d1)).cell? ⟨SB, 1, none⟩ = some (.slice (some ⟨xb, 0, none⟩) N e2) := (srow1.set 0 _).cell (i := 1) (by omega)
        have n2 : ∀ i, SB ≠ (⟨wr.heap.size, i, none⟩ : Addr).block := fun i => by show SB ≠ wr.heap.size; omega
        have srow3 := (((((fn2_set srow1 (.slice (some ⟨ga, 0, none⟩) N d1) (.slice (some ⟨gb, 0, none⟩) N d2)).setOther (n2 0) (.int .i64 k)).setOther (n2 1) (.slice a3 B k3)).setOther (n2 2) (.int .i64 (RV k))).setOther (n2 3) (.int .u64 (RO k))).setOther (n2 4) (.int .u64 0)
        have fga : FarB (some ⟨ga, 0, none⟩) wr.heap.size := FarB.some (by omega)
        have fgb : FarB (some ⟨gb, 0, none⟩) wr.heap.size := FarB.some (by omega)
        have fa3 : FarB a3 wr.heap.size := fun bg o e => by have := hnew2 bg o e; omega
        have la3 := ((((((g1.setOff y0 (.slice (some ⟨ga, 0, none⟩) N d1)).setOff y1' (.slice (some ⟨gb, 0, none⟩) N d2)).offB fga 0 (.int .i64 k)).offB fga 1 (.slice a3 B k3)).offB fga 2 (.int .i64 (RV k))).offB fga 3 (.int .u64 (RO k))).offB fga 4 (.int .u64 0)
        have lb3 := ((((((g2.setOff y0 (.slice (some ⟨ga, 0, none⟩) N d1)).setOff y1' (.slice (some ⟨gb, 0, none⟩) N d2)).offB fgb 0 (.int .i64 k)).offB fgb 1 (.slice a3 B k3)).offB fgb 2 (.int .i64 (RV k))).offB fgb 3 (.int .u64 (RO k))).offB fgb 4 (.int .u64 0)
        have lt3 := ((((((g3.setOff y0 (.slice (some ⟨ga, 0, none⟩) N d1)).setOff y1' (.slice (some ⟨gb, 0, none⟩) N d2)).offB fa3 0 (.int .i64 k)).offB fa3 1 (.slice a3 B k3)).offB fa3 2 (.int .i64 (RV k))).offB fa3 3 (.int .u64 (RO k))).offB fa3 4 (.int .u64 0)
        have fjb := hjb.far (by omega) (Nat.le_refl wr.heap.size)
        have jb3 := (((((((hjb.below bu1).offS y0 (.slice (some ⟨ga, 0, none⟩) N d1)).offS y1' (.slice (some ⟨gb, 0, none⟩) N d2)).offB _ fjb 0 (.int .i64 k)).offB _ fjb 1 (.slice a3 B k3)).offB _ fjb 2 (.int .i64 (RV k))).offB _ fjb 3 (.int .u64 (RO k))).offB _ fjb 4 (.int .u64 0)
        have nob : (Value.slice sa k sc).ownBlock ≠ some wr.heap.size := fun e => by
          rcases hown.blk with h | ⟨g, hg, _, hl⟩
          · rw [h] at e; cases e
          · rw [hg] at e; simp at e; omega
        have ow3 := ((((((((hown.below bu1).setOther hob.out.2.2 0 (.slice (some ⟨ga, 0, none⟩) N d1)).setOther hob.out.2.2 1 (.slice (some ⟨gb, 0, none⟩) N d2)).setOther nob 0 (.int .i64 k)).setOther nob 1 (.slice a3 B k3)).setOther nob 2 (.int .i64 (RV k))).setOther nob 3 (.int .u64 (RO k))).setOther nob 4 (.int .u64 0))
        have bW3 : Below W.heap.size W (((((((u1.setCell ⟨SB, 0, none⟩ (.slice (some ⟨ga, 0, none⟩) N d1)).setCell ⟨SB, 1, none⟩ (.slice (some ⟨gb, 0, none⟩) N d2)).setCell ⟨wr.heap.size, 0, none⟩ (.int .i64 k)).setCell ⟨wr.heap.size, 1, none⟩ (.slice a3 B k3)).setCell ⟨wr.heap.size, 2, none⟩ (.int .i64 (RV k))).setCell ⟨wr.heap.size, 3, none⟩ (.int .u64 (RO k))).setCell ⟨wr.heap.size, 4, none⟩ (.int .u64 0)) := setj (setj (setj (setj (setj (setj (setj (hbel.trans (bu1.mono hbel.size)) hbS) hbS) hzW) hzW) hzW) hzW) hzW
        have HGO : Hid ((Value.slice sa k sc).ownBlock ≠ some ga ∧ (Value.slice sa k sc).ownBlock ≠ some gb ∧ ∀ bg o, a3 = some ⟨bg, o, none⟩ → (Value.slice sa k sc).ownBlock ≠ some bg) := by
          have nn2 : ∀ t, wr.heap.size ≤ t → (Value.slice sa k sc).ownBlock ≠ some t := fun t ht e => by
            rcases hown.blk with h | ⟨g, hg, _, hl⟩
            · rw [h] at e; cases e
            · rw [hg] at e; simp at e; omega
          exact ⟨nn2 _ (by omega), nn2 _ (by omega), fun bg o e => nn2 _ (by have := hnew2 bg o e; omega)⟩
        clear hown hjb srow la lb g1 g2 g3 bu1 hu1 hw0 bwa rr0 rr1 srow1 y1' n2 hnew2
        go_wp2_with fail
        generalize (((((((u1.setCell ⟨SB, 0, none⟩ (.slice (some ⟨ga, 0, none⟩) N d1)).setCell ⟨SB, 1, none⟩ (.slice (some ⟨gb, 0, none⟩) N d2)).setCell ⟨wr.heap.size, 0, none⟩ (.int .i64 k)).setCell ⟨wr.heap.size, 1, none⟩ (.slice a3 B k3)).setCell ⟨wr.heap.size, 2, none⟩ (.int .i64 (RV k))).setCell ⟨wr.heap.size, 3, none⟩ (.int .u64 (RO k))).setCell ⟨wr.heap.size, 4, none⟩ (.int .u64 0)) = u2 at srow3 rr3 la3 lb3 lt3 jb3 ow3 bW3 ⊢
        clear rr2 t0 t1 t2 t3 t4 h0 h1' h2' h3 h4 q0 q1 q2 q3 q4 y0 y1 f0 f1
        refine (HCN.out k a3 k3 u2 hst lt3).mono ?_
        rintro e u3 ⟨rfl, hu3⟩
        generalize hRB : wr.heap.size = RB at *
        have rr4 := rr3.of_block (hu3.block _ rr3.lt)
        have srow4 := srow3.of_block (hu3.block _ srow3.lt)
        have la4 := la3.below hu3 (Nat.le_refl _)
        have lb4 := lb3.below hu3 (Nat.le_refl _)
        have lt4 := lt3.below hu3 (Nat.le_refl _)
        have jb4 := jb3.below hu3
        have ow4 := ow3.below hu3
        have bW4 := bW3.trans (hu3.mono bW3.size)
        obtain ⟨q0, q1, q2, q3, q4⟩ := fn5_box rr4
        have z4 := rr4.frozen 4
        have rr5 : (u3.setCell ⟨RB, 4, none⟩ (.int .u64 (CH (k + 1)))).rowIs RB 37 5 (fn5 (.int .i64 k) (.slice a3 B k3) (.int .i64 (RV k)) (.int .u64 (RO k)) (.int .u64 (CH (k + 1)))) := (rr4.set 4 _).congr (fun t ht => by rcases lt5 ht with rfl | rfl | rfl | rfl | rfl <;> rfl)
        obtain ⟨p0, p1', p2', p3, p4⟩ := fn5_box rr5
        have srow5 := srow4.setOther (a := ⟨RB, 4, none⟩) (show SB ≠ RB by omega) (.int .u64 (CH (k + 1)))
        have la5 := la4.offB fga 4 (.int .u64 (CH (k + 1)))
        have lb5 := lb4.offB fgb 4 (.int .u64 (CH (k + 1)))
        have lt5' := lt4.offB fa3 4 (.int .u64 (CH (k + 1)))
        have jb5 := jb4.offB _ fjb 4 (.int .u64 (CH (k + 1)))
        have ow5 := ow4.setOther nob 4 (.int .u64 (CH (k + 1)))
        have bW5 : Below W.heap.size W (u3.setCell ⟨RB, 4, none⟩ (.int .u64 (CH (k + 1)))) := setj bW4 (by omega)
        have hl6 := low_alloc (u3.setCell ⟨RB, 4, none⟩ (.int .u64 (CH (k + 1)))) (.cells #[.int .i64 k, .slice a3 B k3, .int .i64 (RV k), .int .u64 (RO k), .int .u64 (CH (k + 1))] 37)
        obtain ⟨R2, HR2⟩ : ∃ R2 : Nat → Rcm, Hid (R2 k = ⟨(k : Int), a3, B, k3, RV k, RO k, CH (k + 1)⟩ ∧ ∀ j, j < k → R2 j = R j) := ⟨fun j => if j = k then ⟨(k : Int), a3, B, k3, RV k, RO k, CH (k + 1)⟩ else R j, by exact ⟨if_pos rfl, fun j hj => if_neg (by omega)⟩⟩
        have own6 : OwnR W.heap.size ((u3.setCell ⟨RB, 4, none⟩ (.int .u64 (CH (k + 1)))).alloc (.cells #[.int .i64 k, .slice a3 B k3, .int .i64 (RV k), .int .u64 (RO k), .int .u64 (CH (k + 1))] 37)) (.slice sa k sc) k R2 := (ow5.below hl6).congr (fun j hj => (HR2.out.2 j hj).symm)
        have row6 : ((u3.setCell ⟨RB, 4, none⟩ (.int .u64 (CH (k + 1)))).alloc (.cells #[.int .i64 k, .slice a3 B k3, .int .i64 (RV k), .int .u64 (RO k), .int .u64 (CH (k + 1))] 37)).rowIs u3.heap.size 37 5 (fn5 (.int .i64 (R2 k).s) (.slice (R2 k).a (R2 k).n (R2 k).k) (.int .i64 (R2 k).r) (.int .u64 (R2 k).root) (.int .u64 (R2 k).chain)) := by
          rw [HR2.out.1]
          have h := fn5_alloc (u3.setCell ⟨RB, 4, none⟩ (.int .u64 (CH (k + 1)))) (.int .i64 k) (.slice a3 B k3) (.int .i64 (RV k)) (.int .u64 (RO k)) (.int .u64 (CH (k + 1))) 37
          simpa using h
        have HROW : Hid (((u3.setCell ⟨RB, 4, none⟩ (.int .u64 (CH (k + 1)))).alloc (.cells #[.int .i64 k, .slice a3 B k3, .int .i64 (RV k), .int .u64 (RO k), .int .u64 (CH (k + 1))] 37)).rowIs u3.heap.size 37 5 (fn5 (.int .i64 (R2 k).s) (.slice (R2 k).a (R2 k).n (R2 k).k) (.int .i64 (R2 k).r) (.int .u64 (R2 k).root) (.int .u64 (R2 k).chain))) := row6
        have srow6 := srow5.alloc (.cells #[.int .i64 k, .slice a3 B k3, .int .i64 (RV k), .int .u64 (RO k), .int .u64 (CH (k + 1))] 37)
        have la6 := la5.below hl6 (Nat.le_refl _)
        have lb6 := lb5.below hl6 (Nat.le_refl _)
        have lt6 := lt5'.below hl6 (Nat.le_refl _)
        have jb6 := jb5.below hl6
        have bW6 := bW5.trans (hl6.mono bW5.size)
        have hb6 := bW6.size
        have ba6 := la6.blkJ (by omega)
        have bb6 := lb6.blkJ (by omega)
        have bs6 := srow6.lt
        have jn7 := hjn.out.push HR2.out.2 (by rw [HR2.out.1]) (by rw [HR2.out.1]) (by rw [HR2.out.1]) (by rw [HR2.out.1])
        have HJN : Hid (JrN (k + 1) R2 RV RO CH) := jn7
        have jb7 := jb6.push (R2 := R2) HR2.out.2 (by rw [HR2.out.1]) (by rw [HR2.out.1]; exact lt6) (by rw [HR2.out.1]; exact HGO.out.2.2)
        clear row6 jn7 hjn jb6 jb5 jb4 jb3 ow5 ow4 ow3 lt6 lt5' lt4 lt3 la5 la4 la3 lb5 lb4 lb3 srow5 srow4 srow3 rr3 rr4 hu3
        go_wp2_with (at_builtin; refine wpList_append_rc (by rfl) _ _ (by rfl) W.heap.size (.slice sa k sc) k R2 u3.heap.size (by rfl) (by rfl) (by exact own6) (by exact HROW.out) (by omega) (by exact hb6) ?_; intro v7 w7 hown7 hgr7 hat7; obtain ⟨sa7, sc7, hv7⟩ := hown7.form; subst hv7)
        go_roundw
        case rel =>
          exact ⟨k + 1, ga, d1, gb, d2, sa7, sc7, R2, by omega, by go_num, rfl, rfl, hown7, jb7.grown (by omega) hgr7 hat7, HJN, srow6.of_block (hgr7.block _ srow6.lt (fun e => hob.out.2.2 e.symm)), la6.grownO hgr7 HGO.out.1, lb6.grownO hgr7 HGO.out.2.1, ⟨ne_new hat7 HGO.out.1 ba6, ne_new hat7 HGO.out.2.1 bb6, ne_new hat7 hob.out.2.2 bs6⟩, bW6.grown hgr7 hb6 (fun t ht => by
            rcases own6.blk with h | ⟨g, hg, hge, _⟩
            · rw [h] at ht; cases ht
            · rw [hg] at ht; simp at ht; omega)⟩
        case measure => simp [intOf]; omega
      · obtain rfl : k = nn := by omega
        go_wp2_with fail
        go_ret
        obtain ⟨a', c', ev, hrecs⟩ := hown.recs (fun j hj => (hjb j hj).2.1)
        exact ⟨a', c', R, congrArg Ending.returned ev, hrecs, hjn.out, fun j hj => (hjb j hj).1, hbW.trans (hbel.mono hbW.size)⟩
end Go.Proofs.YtgihnliipfdokaaGreat.Fx

/- What coachref.Audit returns of right things. -/
namespace Go.Proofs.YtgihnliipfdokaaGreat.Fx
open Go.RowKit

theorem rjour_any (c : Cfg) (hs : okW c.seed) (a : Option Addr) (n cap : Nat) (X : Nat → Exm) (DI DO : Nat → List Int) (M : Nat) (q : World) (HX : Exs q a n cap X DI DO) (hF : courseI c n X DI DO = 0) (hm : (M : Int) ≤ c.steps) :
    Calls Tryz.prog 24 #[c.val, .slice a n cap, .int .i64 M] q fun e w' => ∃ b k R, e = .returned (.slice b M k) ∧ Recs w' b M k R (jrBatch c n) ∧ JrN M R (mkRV c) (mkRO c n DI DO) (mkCH c n DI DO) ∧ Below q.heap.size q w' := by
  obtain ⟨hc, hn1, hn2, hex⟩ := course_is hF
  obtain ⟨⟨i1, i2⟩, ⟨h1, h2⟩, ⟨o1, o2⟩, ⟨b1, b2⟩, _⟩ := cfgB_is hc
  have hzn := sizeN_bd hc
  obtain ⟨N, hNz⟩ := Int.eq_ofNat_of_zero_le (show 0 ≤ sizeN c by omega)
  have hNt : (sizeN c).toNat = N := by rw [hNz]; rfl
  have e1 : mkRO c n DI DO = jrRoot c n DI DO N := by unfold mkRO; rw [hNt]
  have e2 : mkCH c n DI DO = jrChain c n DI DO N := by unfold mkCH; rw [hNt]
  have e3 : mkRV c = fun j : Nat => rateV c j := rfl
  rw [e1, e2, e3]
  clear e1 e2 e3
  obtain ⟨i, h, o, seed, batch, steps, crate, decay, how, keep, clip⟩ := c
  dsimp only at i1 i2 h1 h2 o1 o2 b1 b2 hs hm
  obtain ⟨I, rfl⟩ := Int.eq_ofNat_of_zero_le (show 0 ≤ i by omega)
  obtain ⟨H, rfl⟩ := Int.eq_ofNat_of_zero_le (show 0 ≤ h by omega)
  obtain ⟨O, rfl⟩ := Int.eq_ofNat_of_zero_le (show 0 ≤ o by omega)
  obtain ⟨B, rfl⟩ := Int.eq_ofNat_of_zero_le (show 0 ≤ batch by omega)
  have hN : N = H * I + H + O * H + O := by have := hNz.symm; unfold sizeN at this; dsimp only at this; exact_mod_cast this
  refine (rjournal_calls I H O B seed crate decay how keep clip hs steps hc N hN a n cap X DI DO M q HX hn1 hn2 hex (by omega)).mono ?_
  rintro e w' ⟨b, k, R, he, hrc, hjn, _, hbb⟩
  exact ⟨b, k, R, he, hrc, hjn, hbb⟩

set_option maxRecDepth 100000 in
set_option maxHeartbeats 3200000 in
theorem raudit_calls (c : Cfg) (hs : okW c.seed) (a : Option Addr) (n cap : Nat) (X : Nat → Exm) (DI DO : Nat → List Int) (la : Option Addr) (ln lc : Nat) (L : Nat → Rcm) (DL : Nat → List Int) (w : World) (hx : Exs w a n cap X DI DO) (hl : Recs w la ln lc L DL) (hL : ∀ j, j < ln → (L j).n ≤ 9223372036854775807) (h0 : courseI c n X DI DO = 0) (hm : (ln : Int) ≤ c.steps) :
    Calls Tryz.prog 8 #[c.val, .slice a n cap, .slice la ln lc] w fun e w' => e = .returned (.int .i64 (firstNo (auB c n DI DO L DL) ln : Nat)) ∧ Below w.heap.size w w' := by
  have hal := low_alloc w (.cells c.cells 24)
  have KB : Hid (∀ q, Below (w.alloc (.cells c.cells 24)).heap.size (w.alloc (.cells c.cells 24)) q → BoxC q w.heap.size c) := fun q hq => boxC hq (by simp)
  have MK := rjour_any c hs a n cap X DI DO ln _ (hx.below hal (Nat.le_refl _)) h0 hm
  have HQ : Hid (∀ (R : Nat → Rcm), JrN ln R (mkRV c) (mkRO c n DI DO) (mkCH c n DI DO) → ∀ j, j < ln → auB c n DI DO L DL j = recB (L j) (R j) (DL j) (jrBatch c n j)) := fun R h j hj => auB_is h L DL hj
  have HF : Hid (∀ k, k ≤ ln → (∀ j, j < k → auB c n DI DO L DL j = true) → (k < ln → auB c n DI DO L DL k = false) → firstNo (auB c n DI DO L DL) ln = k) := fun k h1 h2 h3 => firstNo_eq _ ln k h1 h2 h3
  have h40 : ln ≤ 40 := by
    obtain ⟨_, _, _, _, ⟨p1, p2⟩, _⟩ := cfgB_is (course_is h0).1
    omega
  have HLN : Hid (∀ j, j < ln → (L j).n ≤ 9223372036854775807) := hL
  generalize firstNo (auB c n DI DO L DL) ln = FN at *
  generalize auB c n DI DO L DL = QF at *
  generalize jrBatch c n = DB at *
  generalize mkRV c = RV at *
  generalize mkRO c n DI DO = RO at *
  generalize mkCH c n DI DO = CH at *
  clear hx hs h0 hL
  obtain ⟨i, h, o, seed, batch, steps, crate, decay, how, keep, clip⟩ := c
  simp only [Cfg.val, Cfg.cells] at *
  obtain ⟨c0, c1, c2, c3, c4, c5, c6, c7, c8, c9, c10⟩ := KB.out _ (Below.refl _ _)
  dsimp only at c0 c1 c2 c3 c4 c5 c6 c7 c8 c9 c10
  go_enter Tryz.func8, Tryz.ntmps8
  go_wp2_with fail
  refine MK.mono ?_
  rintro e w2 ⟨b, kc, R, rfl, hR, hJ, hw2⟩
  have T2 := hal.trans (hw2.mono hal.size)
  have HQ2 := HQ.out R hJ
  have HQ3 : Hid (∀ j, j < ln → QF j = recB (L j) (R j) (DL j) (DB j)) := HQ2
  have HL2 := hl.below T2 (Nat.le_refl _)
  clear hJ HQ HQ2 MK KB hw2 c0 c1 c2 c3 c4 c5 c6 c7 c8 c9 c10 hl
  go_wp2_with fail
  go_loopw [8] (fun v wr => ∃ k : Nat, k ≤ ln ∧ v = .int .i64 k ∧ Hid (∀ j, j < k → QF j = true) ∧ Below w2.heap.size w2 wr) (fun v _ => ln - (intOf v).toNat)
  case atStart => exact ⟨0, Nat.zero_le _, rfl, fun j hj => by omega, Below.refl _ _⟩
  case round =>
    obtain ⟨k, hk, rfl, hg, hbel⟩ := hrel
    by_cases hlt : k < ln
    · obtain ⟨xb, xo, rfl, hc⟩ := (HL2.below hbel (Nat.le_refl _)).at (by omega)
      obtain ⟨yb, yo, rfl, hd⟩ := (hR.below hbel (Nat.le_refl _)).at (by omega)
      obtain ⟨e0, e1, e2, e3, e4, lx⟩ := hc k hlt
      obtain ⟨f0, f1, f2, f3, f4, ly⟩ := hd k hlt
      have hlen := HLN.out k hlt
      have hqk := HQ3.out k hlt
      have hgood : QF k = true → ∀ j, j < k + 1 → QF j = true := fun q j hj => by
        by_cases e : j = k
        · subst e; exact q
        · exact hg.out j (by omega)
      have hbad : QF k = false → FN = k := fun q => HF.out k hk hg.out (fun _ => q)
      have SM0 : ∀ q, Below wr.heap.size wr q → Calls Tryz.prog 12 #[(L k).val, (R k).val] q fun e w' => e = .returned (.bool (likeB (L k) (R k) (DL k) (DB k))) ∧ Below q.heap.size q w' := fun q hq => rlike_big _ _ _ _ q (lx.below hq (Nat.le_refl _)) (ly.below hq (Nat.le_refl _)) hlen
      have hrb : recB (L k) (R k) (DL k) (DB k) = (likeB (L k) (R k) (DL k) (DB k) && decide ((L k).chain = (R k).chain)) := rfl
      rw [hrb] at hqk
      rw [hqk] at hgood hbad
      obtain ⟨x, hxk⟩ : ∃ x, L k = x := ⟨_, rfl⟩
      obtain ⟨y, hyk⟩ : ∃ y, R k = y := ⟨_, rfl⟩
      rw [hxk] at e0 e1 e2 e3 e4 hgood hbad SM0
      rw [hyk] at f0 f1 f2 f3 f4 hgood hbad SM0
      generalize likeB x y (DL k) (DB k) = LB at *
      obtain ⟨ls, lla, lln, llk, lr, lroot, lchain⟩ := x
      obtain ⟨rs, ra, rn, rk, rr, rroot, rchain⟩ := y
      simp only [Rcm.val, Rcm.cells] at *
      have SM := SM0 _ (Below.drew (Below.refl _ _))
      have KS : Hid (∀ q, Below wr.heap.size wr q → q.cell? ⟨xb, xo + k * 5, none⟩ = some (.int .i64 ls) ∧ q.cell? ⟨xb, xo + k * 5 + 1, none⟩ = some (.slice lla lln llk) ∧ q.cell? ⟨xb, xo + k * 5 + 2, none⟩ = some (.int .i64 lr) ∧ q.cell? ⟨xb, xo + k * 5 + 3, none⟩ = some (.int .u64 lroot) ∧ q.cell? ⟨xb, xo + k * 5 + 4, none⟩ = some (.int .u64 lchain) ∧ q.cell? ⟨yb, yo + k * 5, none⟩ = some (.int .i64 rs) ∧ q.cell? ⟨yb, yo + k * 5 + 1, none⟩ = some (.slice ra rn rk) ∧ q.cell? ⟨yb, yo + k * 5 + 2, none⟩ = some (.int .i64 rr) ∧ q.cell? ⟨yb, yo + k * 5 + 3, none⟩ = some (.int .u64 rroot) ∧ q.cell? ⟨yb, yo + k * 5 + 4, none⟩ = some (.int .u64 rchain)) := fun q hq =>
        ⟨(hq.cell (p := ⟨xb, xo + k * 5, none⟩) (cell_lt e0)).trans e0, (hq.cell (p := ⟨xb, xo + k * 5 + 1, none⟩) (cell_lt e1)).trans e1, (hq.cell (p := ⟨xb, xo + k * 5 + 2, none⟩) (cell_lt e2)).trans e2, (hq.cell (p := ⟨xb, xo + k * 5 + 3, none⟩) (cell_lt e3)).trans e3, (hq.cell (p := ⟨xb, xo + k * 5 + 4, none⟩) (cell_lt e4)).trans e4, (hq.cell (p := ⟨yb, yo + k * 5, none⟩) (cell_lt f0)).trans f0, (hq.cell (p := ⟨yb, yo + k * 5 + 1, none⟩) (cell_lt f1)).trans f1, (hq.cell (p := ⟨yb, yo + k * 5 + 2, none⟩) (cell_lt f2)).trans f2, (hq.cell (p := ⟨yb, yo + k * 5 + 3, none⟩) (cell_lt f3)).trans f3, (hq.cell (p := ⟨yb, yo + k * 5 + 4, none⟩) (cell_lt f4)).trans f4⟩
      have S0 := KS.out _ (Below.drew (Below.refl _ _))
      have k0 : (0 : Int) ≤ (k : Int) := by omega
      have kn : (k : Int) < (ln : Int) := by omega
      have HB : Hid ((LB && decide (lchain = rchain)) = false → FN = k) := hbad
      have HG : Hid ((LB && decide (lchain = rchain)) = true → ∀ j, j < k + 1 → QF j = true) := hgood
      clear hc hd lx ly hlen hqk hgood hbad SM0 hrb hxk hyk hR HL2 HLN HQ3 HF hg
      cases LB with
      | false =>
        have hF := (HB.out (by rfl)).symm
        subst hF
        go_wp2_with fail
        refine wp_region_held_drew (S := fun q => q.cell? ⟨xb, xo + k * 5, none⟩ = some (.int .i64 ls) ∧ q.cell? ⟨xb, xo + k * 5 + 1, none⟩ = some (.slice lla lln llk) ∧ q.cell? ⟨xb, xo + k * 5 + 2, none⟩ = some (.int .i64 lr) ∧ q.cell? ⟨xb, xo + k * 5 + 3, none⟩ = some (.int .u64 lroot) ∧ q.cell? ⟨xb, xo + k * 5 + 4, none⟩ = some (.int .u64 lchain) ∧ q.cell? ⟨yb, yo + k * 5, none⟩ = some (.int .i64 rs) ∧ q.cell? ⟨yb, yo + k * 5 + 1, none⟩ = some (.slice ra rn rk) ∧ q.cell? ⟨yb, yo + k * 5 + 2, none⟩ = some (.int .i64 rr) ∧ q.cell? ⟨yb, yo + k * 5 + 3, none⟩ = some (.int .u64 rroot) ∧ q.cell? ⟨yb, yo + k * 5 + 4, none⟩ = some (.int .u64 rchain)) (by kernel_rfl) (by with_reducible exact S0) (fun hHeld => ?_)
        refine wpAnyH_take (i := 0) (oi := _) (v := ?_) rfl (by kernel_rfl) (by kernel_rfl) (by kernel_rfl) (fun _ _ _ h => h) (Or.inl ⟨by rfl, ?_⟩) (by assumption) ?_
        rotate_left
        · intro w hSw
          try dsimp only at hSw
          go_simp
          try with_reducible rfl
        simp only [Act.put, List.getElem_toArray, List.getElem_cons_zero, List.setIfInBounds_toArray, List.set_cons_zero, List.set_cons_succ]
        refine wpAnyH_take (i := 1) (oi := _) (v := ?_) rfl (by kernel_rfl) (by kernel_rfl) (by kernel_rfl) (fun _ _ _ h => h) (Or.inl ⟨by rfl, ?_⟩) (by assumption) ?_
        rotate_left
        · intro w hSw
          try dsimp only at hSw
          go_simp
          try with_reducible rfl
        simp only [Act.put, List.getElem_toArray, List.getElem_cons_zero, List.getElem_cons_succ, List.setIfInBounds_toArray, List.set_cons_zero, List.set_cons_succ]
        refine wpAnyH_take (i := 2) (oi := _) (v := ?_) rfl (by kernel_rfl) (by kernel_rfl) (by kernel_rfl) (fun _ _ _ h => h) (Or.inl ⟨by rfl, ?_⟩) (by assumption) ?_
        rotate_left
        · intro w hSw
          try dsimp only at hSw
          go_simp
          try with_reducible rfl
        simp only [Act.put, List.getElem_toArray, List.getElem_cons_zero, List.getElem_cons_succ, List.setIfInBounds_toArray, List.set_cons_zero, List.set_cons_succ]
        refine wpAnyH_take (i := 3) (oi := _) (v := ?_) rfl (by kernel_rfl) (by kernel_rfl) (by kernel_rfl) (fun _ _ _ h => h) (Or.inl ⟨by rfl, ?_⟩) (by assumption) ?_
        rotate_left
        · intro w hSw
          try dsimp only at hSw
          go_simp
          try with_reducible rfl
        simp only [Act.put, List.getElem_toArray, List.getElem_cons_zero, List.getElem_cons_succ, List.setIfInBounds_toArray, List.set_cons_zero, List.set_cons_succ]
        refine wpAnyH_take (i := 4) (oi := _) (v := ?_) rfl (by kernel_rfl) (by kernel_rfl) (by kernel_rfl) (fun _ _ _ h => h) (Or.inl ⟨by rfl, ?_⟩) (by assumption) ?_
        rotate_left
        · intro w hSw
          try dsimp only at hSw
          go_simp
          try with_reducible rfl
        simp only [Act.put, List.getElem_toArray, List.getElem_cons_zero, List.getElem_cons_succ, List.setIfInBounds_toArray, List.set_cons_zero, List.set_cons_succ]
        refine wpAnyH_take (i := 5) (oi := _) (v := ?_) rfl (by kernel_rfl) (by kernel_rfl) (by kernel_rfl) (fun _ _ _ h => h) (Or.inl ⟨by rfl, ?_⟩) (by assumption) ?_
        rotate_left
        · intro w hSw
          try dsimp only at hSw
          go_simp
          try with_reducible rfl
        simp only [Act.put, List.getElem_toArray, List.getElem_cons_zero, List.getElem_cons_succ, List.setIfInBounds_toArray, List.set_cons_zero, List.set_cons_succ]
        refine wpAnyH_take (i := 6) (oi := _) (v := ?_) rfl (by kernel_rfl) (by kernel_rfl) (by kernel_rfl) (fun _ _ _ h => h) (Or.inl ⟨by rfl, ?_⟩) (by assumption) ?_
        rotate_left
        · intro w hSw
          try dsimp only at hSw
          go_simp
          try with_reducible rfl
        simp only [Act.put, List.getElem_toArray, List.getElem_cons_zero, List.getElem_cons_succ, List.setIfInBounds_toArray, List.set_cons_zero, List.set_cons_succ]
        refine wpAnyH_take (i := 7) (oi := _) (v := ?_) rfl (by kernel_rfl) (by kernel_rfl) (by kernel_rfl) (fun _ _ _ h => h) (Or.inl ⟨by rfl, ?_⟩) (by assumption) ?_
        rotate_left
        · intro w hSw
          try dsimp only at hSw
          go_simp
          try with_reducible rfl
        simp only [Act.put, List.getElem_toArray, List.getElem_cons_zero, List.getElem_cons_succ, List.setIfInBounds_toArray, List.set_cons_zero, List.set_cons_succ]
        refine wpAnyH_ready (rs := [8]) (by kernel_rfl) (by simp) ?_
        refine AllReadyH.cons (o := _) rfl (fun K hK => ?_) AllReadyH.nil
        clear hHeld
        go_simp
        (go_at_call 12; refine SM.mono ?_; rintro e q2 ⟨rfl, hq2⟩; have V2 := undrew hq2; have S1' := KS.out _ V2)
        go_wp2_with fail
        refine hK.out _ _ ?_ (fun hHeld => ?_)
        · with_reducible exact S1'
        clear hK K
        try simp only [Act.put, List.setIfInBounds_toArray, List.set_cons_zero, List.set_cons_succ]
        refine wpAnyH_take (i := 9) (oi := _) (v := ?_) rfl (by kernel_rfl) (by kernel_rfl) (by kernel_rfl) (fun _ _ _ h => h) (Or.inl ⟨by rfl, ?_⟩) (by assumption) ?_
        rotate_left
        · intro w hSw
          try dsimp only at hSw
          go_simp
          try with_reducible rfl
        simp only [Act.put, List.getElem_toArray, List.getElem_cons_zero, List.getElem_cons_succ, List.setIfInBounds_toArray, List.set_cons_zero, List.set_cons_succ]
        refine wpAnyH_take (i := 10) (oi := _) (v := ?_) rfl (by kernel_rfl) (by kernel_rfl) (by kernel_rfl) (fun _ _ _ h => h) (Or.inl ⟨by rfl, ?_⟩) (by assumption) ?_
        rotate_left
        · intro w hSw
          try dsimp only at hSw
          go_simp
          try with_reducible rfl
        simp only [Act.put, List.getElem_toArray, List.getElem_cons_zero, List.getElem_cons_succ, List.setIfInBounds_toArray, List.set_cons_zero, List.set_cons_succ]
        refine wpAnyH_take (i := 11) (oi := _) (v := undef) rfl (by kernel_rfl) (by kernel_rfl) (by kernel_rfl) (fun _ _ _ h => h) (Or.inr ⟨by rfl, rfl⟩) (by assumption) ?_
        simp only [Act.put, List.getElem_toArray, List.getElem_cons_zero, List.getElem_cons_succ, List.setIfInBounds_toArray, List.set_cons_zero, List.set_cons_succ]
        refine wpAnyH_take (i := 12) (oi := _) (v := undef) rfl (by kernel_rfl) (by kernel_rfl) (by kernel_rfl) (fun _ _ _ h => h) (Or.inr ⟨by rfl, rfl⟩) (by assumption) ?_
        simp only [Act.put, List.getElem_toArray, List.getElem_cons_zero, List.getElem_cons_succ, List.setIfInBounds_toArray, List.set_cons_zero, List.set_cons_succ]
        refine wpAnyH_take (i := 13) (oi := _) (v := undef) rfl (by kernel_rfl) (by kernel_rfl) (by kernel_rfl) (fun _ _ _ h => h) (Or.inr ⟨by rfl, rfl⟩) (by assumption) ?_
        simp only [Act.put, List.getElem_toArray, List.getElem_cons_zero, List.getElem_cons_succ, List.setIfInBounds_toArray, List.set_cons_zero, List.set_cons_succ]
        refine wpAnyH_take (i := 14) (oi := _) (v := undef) rfl (by kernel_rfl) (by kernel_rfl) (by kernel_rfl) (fun _ _ _ h => h) (Or.inr ⟨by rfl, rfl⟩) (by assumption) ?_
        simp only [Act.put, List.getElem_toArray, List.getElem_cons_zero, List.getElem_cons_succ, List.setIfInBounds_toArray, List.set_cons_zero, List.set_cons_succ]
        refine wpAnyH_take (i := 15) (oi := _) (v := undef) rfl (by kernel_rfl) (by kernel_rfl) (by kernel_rfl) (fun _ _ _ h => h) (Or.inr ⟨by rfl, rfl⟩) (by assumption) ?_
        simp only [Act.put, List.getElem_toArray, List.getElem_cons_zero, List.getElem_cons_succ, List.setIfInBounds_toArray, List.set_cons_zero, List.set_cons_succ]
        refine wpAnyH_take (i := 16) (oi := _) (v := undef) rfl (by kernel_rfl) (by kernel_rfl) (by kernel_rfl) (fun _ _ _ h => h) (Or.inr ⟨by rfl, rfl⟩) (by assumption) ?_
        simp only [Act.put, List.getElem_toArray, List.getElem_cons_zero, List.getElem_cons_succ, List.setIfInBounds_toArray, List.set_cons_zero, List.set_cons_succ]
        refine wpAnyH_take (i := 17) (oi := _) (v := undef) rfl (by kernel_rfl) (by kernel_rfl) (by kernel_rfl) (fun _ _ _ h => h) (Or.inr ⟨by rfl, rfl⟩) (by assumption) ?_
        simp only [Act.put, List.getElem_toArray, List.getElem_cons_zero, List.getElem_cons_succ, List.setIfInBounds_toArray, List.set_cons_zero, List.set_cons_succ]
        refine wpAnyH_take (i := 18) (oi := _) (v := undef) rfl (by kernel_rfl) (by kernel_rfl) (by kernel_rfl) (fun _ _ _ h => h) (Or.inr ⟨by rfl, rfl⟩) (by assumption) ?_
        simp only [Act.put, List.getElem_toArray, List.getElem_cons_zero, List.getElem_cons_succ, List.setIfInBounds_toArray, List.set_cons_zero, List.set_cons_succ]
        refine wpAnyH_take (i := 19) (oi := _) (v := undef) rfl (by kernel_rfl) (by kernel_rfl) (by kernel_rfl) (fun _ _ _ h => h) (Or.inr ⟨by rfl, rfl⟩) (by assumption) ?_
        simp only [Act.put, List.getElem_toArray, List.getElem_cons_zero, List.getElem_cons_succ, List.setIfInBounds_toArray, List.set_cons_zero, List.set_cons_succ]
        refine wpAnyH_take (i := 20) (oi := _) (v := undef) rfl (by kernel_rfl) (by kernel_rfl) (by kernel_rfl) (fun _ _ _ h => h) (Or.inr ⟨by rfl, rfl⟩) (by assumption) ?_
        simp only [Act.put, List.getElem_toArray, List.getElem_cons_zero, List.getElem_cons_succ, List.setIfInBounds_toArray, List.set_cons_zero, List.set_cons_succ]
        refine wpAnyH_take (i := 21) (oi := _) (v := undef) rfl (by kernel_rfl) (by kernel_rfl) (by kernel_rfl) (fun _ _ _ h => h) (Or.inr ⟨by rfl, rfl⟩) (by assumption) ?_
        simp only [Act.put, List.getElem_toArray, List.getElem_cons_zero, List.getElem_cons_succ, List.setIfInBounds_toArray, List.set_cons_zero, List.set_cons_succ]
        refine wpAnyH_take (i := 22) (oi := _) (v := ?_) rfl (by kernel_rfl) (by kernel_rfl) (by kernel_rfl) (fun _ _ _ h => h) (Or.inl ⟨by rfl, ?_⟩) (by assumption) ?_
        rotate_left
        · intro w hSw
          try dsimp only at hSw
          go_simp
          try with_reducible rfl
        simp only [Act.put, List.getElem_toArray, List.getElem_cons_zero, List.getElem_cons_succ, List.setIfInBounds_toArray, List.set_cons_zero, List.set_cons_succ]
        refine wpAnyH_done (by kernel_rfl) ?_ _
        go_wp2_with fail
        go_ret
        exact ⟨rfl, T2.trans ((hbel.trans (V2.mono hbel.size)).mono T2.size)⟩
      | true =>
        clear e0 e1 e2 e3 e4 f0 f1 f2 f3 f4
        obtain ⟨QN, HQN⟩ : ∃ q, Hid ((lchain != rchain) = q) := ⟨_, rfl⟩
        have q1 : (lchain != rchain) = QN := HQN.out
        have hG : Hid (QN = false → ∀ j, j < k + 1 → QF j = true) := fun h => HG.out (by
          rw [h] at q1
          rw [decide_eq_true (by simpa using q1)]; rfl)
        have hF : Hid (QN = true → k = FN) := fun h => (HB.out (by
          rw [h] at q1
          rw [decide_eq_false (by rw [bne_iff_ne] at q1; exact q1)]; rfl)).symm
        clear HB HG HQN
        go_wp2_with fail
        go_region_held3 (fun q => q.cell? ⟨xb, xo + k * 5, none⟩ = some (.int .i64 ls) ∧ q.cell? ⟨xb, xo + k * 5 + 1, none⟩ = some (.slice lla lln llk) ∧ q.cell? ⟨xb, xo + k * 5 + 2, none⟩ = some (.int .i64 lr) ∧ q.cell? ⟨xb, xo + k * 5 + 3, none⟩ = some (.int .u64 lroot) ∧ q.cell? ⟨xb, xo + k * 5 + 4, none⟩ = some (.int .u64 lchain) ∧ q.cell? ⟨yb, yo + k * 5, none⟩ = some (.int .i64 rs) ∧ q.cell? ⟨yb, yo + k * 5 + 1, none⟩ = some (.slice ra rn rk) ∧ q.cell? ⟨yb, yo + k * 5 + 2, none⟩ = some (.int .i64 rr) ∧ q.cell? ⟨yb, yo + k * 5 + 3, none⟩ = some (.int .u64 rroot) ∧ q.cell? ⟨yb, yo + k * 5 + 4, none⟩ = some (.int .u64 rchain)) (first | with_reducible exact S1' | with_reducible exact S0) (((go_at_call 12; refine SM.mono ?_; rintro e q2 ⟨rfl, hq2⟩; have V2 := undrew hq2; have S1' := KS.out _ V2)))
        all_goals
          cases QN with
          | false =>
            go_wp2_with fail
            go_roundw
            case rel => exact ⟨k + 1, by omega, by go_num, (hG.out (by trivial)), hbel.trans (V2.mono hbel.size)⟩
            case measure => simp [intOf]; omega
          | true =>
            have hF2 := hF.out (by trivial)
            subst hF2
            go_wp2_with fail
            go_ret
            exact ⟨rfl, T2.trans ((hbel.trans (V2.mono hbel.size)).mono T2.size)⟩
    · obtain rfl : k = ln := by omega
      have hF := (HF.out k (Nat.le_refl _) hg.out (fun h => by omega)).symm
      subst hF
      clear hR HL2 HLN HQ3 HF
      go_wp2_with fail
      go_ret
      exact ⟨rfl, T2.trans (hbel.mono T2.size)⟩
end Go.Proofs.YtgihnliipfdokaaGreat.Fx

/- AuditSays returns true, whatever config, examples and records are handed in, and nothing that was there is written. -/
namespace Go.Proofs.YtgihnliipfdokaaGreat.Fx
open Go.RowKit

set_option maxRecDepth 100000 in
set_option maxHeartbeats 1600000 in
theorem auditSays_any (c : Cfg) (a : Option Addr) (n cap : Nat) (X : Nat → Exm) (DI DO : Nat → List Int) (la : Option Addr) (ln lc : Nat) (L : Nat → Rcm) (DL : Nat → List Int) (w : World) (hs0 : (Lit.int .u64 c.seed).wf = true) (hx : Exs w a n cap X DI DO) (hl : RecsIn w la ln lc L DL) :
    Calls Tryz.prog 3 #[c.val, .slice a n cap, .slice la ln lc] w fun e w' => e = .returned (.bool true) ∧ Below w.heap.size w w' := by
  have hs := wf_word hs0
  have hal := low_alloc w (.cells c.cells 24)
  have hL : ∀ j, j < ln → (L j).n ≤ 9223372036854775807 := fun j hj => Nat.le_trans (hl.each j hj).n (by decide)
  have CK := rcourse_calls c a n cap X DI DO _ (hx.below hal (Nat.le_refl _))
  have KB : Hid (∀ q, Below (w.alloc (.cells c.cells 24)).heap.size (w.alloc (.cells c.cells 24)) q → BoxC q w.heap.size c) := fun q hq => boxC hq (by simp)
  have HW : Hid (∀ q, Below w.heap.size w q → Calls Tryz.prog 9 #[c.val, .slice a n cap, .slice la ln lc] q fun e w' => e = .returned (.tuple #[.int .i64 (whN c n X DI DO ln L DL : Nat), .int .i64 (whE c n X DI DO ln)]) ∧ Below q.heap.size q w') := fun q hq => whole_calls c hs a n cap X DI DO la ln lc L DL q (hx.below hq (Nat.le_refl _)) (hl.recs.below hq (Nat.le_refl _)) hL
  have h63 : ln ≤ maxLen := Nat.le_trans hl.recs.1 hl.len
  by_cases h0 : courseI c n X DI DO = 0
  · rw [h0] at CK
    by_cases hm : (ln : Int) ≤ c.steps
    · have hE : whE c n X DI DO ln = 0 := by unfold whE; rw [if_pos h0, if_pos hm]
      have hN : whN c n X DI DO ln L DL = firstNo (auB c n DI DO L DL) ln := by unfold whN; rw [if_pos hE]
      rw [hE, hN] at HW
      have HA : Hid (∀ q, Below w.heap.size w q → Calls Tryz.prog 8 #[c.val, .slice a n cap, .slice la ln lc] q fun e w' => e = .returned (.int .i64 (firstNo (auB c n DI DO L DL) ln : Nat)) ∧ Below q.heap.size q w') := fun q hq => raudit_calls c hs a n cap X DI DO la ln lc L DL q (hx.below hq (Nat.le_refl _)) (hl.recs.below hq (Nat.le_refl _)) hL h0 hm
      generalize firstNo (auB c n DI DO L DL) ln = FN at *
      clear hE hN hx hl hL hs h0 hs0
      obtain ⟨i, h, o, seed, batch, steps, crate, decay, how, keep, clip⟩ := c
      simp only [Cfg.val, Cfg.cells] at *
      obtain ⟨c0, c1, c2, c3, c4, c5, c6, c7, c8, c9, c10⟩ := KB.out _ (Below.refl _ _)
      dsimp only at c0 c1 c2 c3 c4 c5 c6 c7 c8 c9 c10
      go_enter Tryz.func3, Tryz.ntmps3
      go_wp2_with fail
      refine CK.mono ?_
      rintro e w1 ⟨rfl, hw1⟩
      clear c0 c1 c2 c3 c4 c5 c6 c7 c8 c9 c10
      obtain ⟨c0, c1, c2, c3, c4, c5, c6, c7, c8, c9, c10⟩ := KB.out _ hw1
      dsimp only at c0 c1 c2 c3 c4 c5 c6 c7 c8 c9 c10
      have T1 := hal.trans (hw1.mono hal.size)
      go_wp2_with fail
      refine (HA.out _ T1).mono ?_
      rintro e w2 ⟨rfl, hw2⟩
      have T := hw1.trans (hw2.mono hw1.size)
      clear c0 c1 c2 c3 c4 c5 c6 c7 c8 c9 c10
      obtain ⟨c0, c1, c2, c3, c4, c5, c6, c7, c8, c9, c10⟩ := KB.out _ T
      dsimp only at c0 c1 c2 c3 c4 c5 c6 c7 c8 c9 c10
      have T2 := hal.trans (T.mono hal.size)
      go_wp2_with fail
      refine (HW.out _ T2).mono ?_
      rintro e w3 ⟨rfl, hw3⟩
      go_wp2_with fail
      go_ret
      exact ⟨by simp, T2.trans (hw3.mono T2.size)⟩
    · have hE : whE c n X DI DO ln = 2 := by unfold whE; rw [if_pos h0, if_neg hm]
      have hN : whN c n X DI DO ln L DL = 0 := by unfold whN; rw [hE, if_neg (by decide)]
      rw [hE, hN] at HW
      have z1 : c.steps < (ln : Int) := by omega
      clear hE hN hx hl hL hs h0 hm hs0
      obtain ⟨i, h, o, seed, batch, steps, crate, decay, how, keep, clip⟩ := c
      simp only [Cfg.val, Cfg.cells] at *
      obtain ⟨c0, c1, c2, c3, c4, c5, c6, c7, c8, c9, c10⟩ := KB.out _ (Below.refl _ _)
      dsimp only at c0 c1 c2 c3 c4 c5 c6 c7 c8 c9 c10
      go_enter Tryz.func3, Tryz.ntmps3
      go_wp2_with fail
      refine CK.mono ?_
      rintro e w1 ⟨rfl, hw1⟩
      clear c0 c1 c2 c3 c4 c5 c6 c7 c8 c9 c10
      obtain ⟨c0, c1, c2, c3, c4, c5, c6, c7, c8, c9, c10⟩ := KB.out _ hw1
      dsimp only at c0 c1 c2 c3 c4 c5 c6 c7 c8 c9 c10
      have T1 := hal.trans (hw1.mono hal.size)
      go_wp2_with fail
      refine (HW.out _ T1).mono ?_
      rintro e w3 ⟨rfl, hw3⟩
      go_wp2_with fail
      go_ret
      exact ⟨by simp, T1.trans (hw3.mono T1.size)⟩
  · have hE : whE c n X DI DO ln = courseI c n X DI DO := by unfold whE; rw [if_neg h0]
    have hN : whN c n X DI DO ln L DL = 0 := by unfold whN; rw [hE, if_neg h0]
    rw [hE, hN] at HW
    have hb : (courseI c n X DI DO == 0) = false := by rw [beq_eq_false_iff_ne]; exact h0
    generalize courseI c n X DI DO = E at *
    clear hE hN hx hl hL hs hs0
    obtain ⟨i, h, o, seed, batch, steps, crate, decay, how, keep, clip⟩ := c
    simp only [Cfg.val, Cfg.cells] at *
    obtain ⟨c0, c1, c2, c3, c4, c5, c6, c7, c8, c9, c10⟩ := KB.out _ (Below.refl _ _)
    dsimp only at c0 c1 c2 c3 c4 c5 c6 c7 c8 c9 c10
    go_enter Tryz.func3, Tryz.ntmps3
    go_wp2_with fail
    refine CK.mono ?_
    rintro e w1 ⟨rfl, hw1⟩
    clear c0 c1 c2 c3 c4 c5 c6 c7 c8 c9 c10
    obtain ⟨c0, c1, c2, c3, c4, c5, c6, c7, c8, c9, c10⟩ := KB.out _ hw1
    dsimp only at c0 c1 c2 c3 c4 c5 c6 c7 c8 c9 c10
    have T1 := hal.trans (hw1.mono hal.size)
    go_wp2_with fail
    refine (HW.out _ T1).mono ?_
    rintro e w3 ⟨rfl, hw3⟩
    go_wp2_with fail
    go_ret
    exact ⟨by simp, T1.trans (hw3.mono T1.size)⟩
end Go.Proofs.YtgihnliipfdokaaGreat.Fx

/- AuditSays holds: whatever config, examples and records are handed in, it returns true, and what was handed in stays as it was; no condition. -/
namespace Go.Proofs.YtgihnliipfdokaaGreat.auditSays
open Go.ChangeShapes Go.WideShapes Go.ChangeAt Go.RowKit
set_option linter.unusedVariables false

set_option maxRecDepth 100000 in
theorem lifted (os : Os) (started : os.Started) (H : Type) (enc : TypeId × Value → H) :
    ReturnsInHanded {} Tryz.checked os 3 .any (Rows.auditSaysSpec.pre6 enc Tryz.prog Tryz.f3 Rows.auditSaysRow.domain false) (Rows.auditSaysSpec.post enc Tryz.prog Tryz.f3 false true false false) := by
  refine returnsInHanded_of_change (C := Tryz.checked) Fx.own started (by kernel_rfl) Tryz.func3
    (ChangeSpec.witness6 (enc := enc) (C := Tryz.checked) false ⟨#[], #[.agg #[.int .i64 0, .int .i64 0, .int .i64 0, .int .u64 0, .int .i64 0, .int .i64 0, .int .i64 0, .int .i64 0, .int .i64 0, .int .i64 0, .int .i64 0], .slice none 0 0, .slice none 0 0], []⟩ 8 (by kernel_rfl) (by kernel_rfl) (by kernel_rfl) (by kernel_rfl)) ?_
  intro W base args ds gs before hval0 hW hcnd _
  have hval : ∀ (j : Nat) t v, Tryz.f3.params[j]? = some t → args[j]? = some v → Value.okWide Tryz.prog W .any base t v := hval0
  have hW' := hW
  obtain ⟨p, q, hA0, hV, rfl, hfz, hnd⟩ := hW
  have hA : DataW.TrodAll enc Tryz.prog W 0 (fun _ => true) true Tryz.f3.params.toList args.toList ds p := hA0
  skip
  rw [Tryz.params3] at hA hval
  obtain ⟨v0, vs0, d0, ds0, p0, q0, hargs, rfl, rfl, h0, r0⟩ := trodAll_cons hA
  obtain ⟨v1, vs1, d1, ds1, p1, q1, rfl, rfl, rfl, h1, r1⟩ := trodAll_cons r0
  obtain ⟨v2, vs2, d2, ds2, p2, q2, rfl, rfl, rfl, h2, r2⟩ := trodAll_cons r1
  obtain ⟨rfl, rfl, rfl⟩ := trodAll_nil r2
  obtain rfl : args = #[v0, v1, v2] := by cases args; simp_all
  obtain ⟨rfl, rfl⟩ := trodVars_none hV
  have k0 := h0
  have lt0 : ∀ x ∈ p0, x.block < W.heap.size := by obtain ⟨m, hm⟩ := k0; exact DataW.trod_lt m _ _ _ hm
  obtain ⟨C0, rfl, w0⟩ := Fx.openCfg (hval 0 24 v0 rfl rfl) h0
  have k1 := h1
  have lt1 : ∀ x ∈ p1, x.block < W.heap.size := by obtain ⟨m, hm⟩ := k1; exact DataW.trod_lt m _ _ _ hm
  obtain ⟨a1, len1, cap1, X1, DI1, DO1, rfl, w1⟩ := Fx.openExs (hval 1 25 v1 rfl rfl) h1
  have k2 := h2
  have lt2 : ∀ x ∈ p2, x.block < W.heap.size := by obtain ⟨m, hm⟩ := k2; exact DataW.trod_lt m _ _ _ hm
  obtain ⟨a2, len2, cap2, R2, D2, rfl, w2⟩ := Fx.openRecs (hval 2 26 v2 rfl rfl) h2
  clear hA0 hval0
  refine (Fx.auditSays_any C0 a1 len1 cap1 X1 DI1 DO1 a2 len2 cap2 R2 D2 W w0 w1 w2).mono fun e W' ⟨he, bel⟩ => ?_
  subst he
  exact ⟨_, rfl, _, _, _, [], _, [], hW', trodAll_mk1 (shut_bool Tryz.underlying4 _), (trodAll_cons_mk (Below.trod Fx.laidOut (by kernel_rfl) (of_decide_eq_true (by kernel_rfl)) k0 bel lt0) (trodAll_cons_mk (Below.trod Fx.laidOut (by kernel_rfl) (of_decide_eq_true (by kernel_rfl)) k1 bel lt1) (trodAll_cons_mk (Below.trod Fx.laidOut (by kernel_rfl) (of_decide_eq_true (by kernel_rfl)) k2 bel lt2) trodAll_mk0))), rfl, bel.frame _, fun h => by cases h⟩

theorem over : Rows.auditSaysRow.holds Tryz.pinned (OpenSpec.ofChange Rows.auditSaysSpec) :=
  OpenClaim.holds_of_wide 3 Tryz.f3 rfl rfl rfl rfl rfl rfl rfl ⟨rfl, rfl, rfl, rfl, rfl⟩ rfl rfl rfl rfl rfl (by kernel_rfl) Tryz.func3 (by kernel_rfl)
    (of_decide_eq_true (by kernel_rfl)) (by unfold Func.isWrapper; first | (rw [if_pos (by decide +kernel)]; kernel_rfl) | (rw [if_neg (by decide +kernel)]; exact ⟨rfl, rfl⟩))
    (fun os started H enc _ => lifted os started H enc)
end Go.Proofs.YtgihnliipfdokaaGreat.auditSays

namespace Go.Proofs.YtgihnliipfdokaaGreat
theorem auditSays_holds : Rows.AuditSaysSaid := auditSays.over
end Go.Proofs.YtgihnliipfdokaaGreat
