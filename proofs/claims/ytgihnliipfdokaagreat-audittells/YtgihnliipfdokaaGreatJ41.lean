/- AuditTells holds: whatever config, examples, numbers and record are handed in, it returns true (of a bent journal the first bent record is told), and what was handed in stays as it was; no condition. -/
import Derived.Test.YtgihnliipfdokaaGreatJ37
import Derived.Test.YtgihnliipfdokaaGreatJ23
import Derived.Test.YtgihnliipfdokaaGreatJ17
import Derived.Test.YtgihnliipfdokaaGreatJ24
import Derived.Test.YtgihnliipfdokaaGreatJ07
import Derived.Deep.DeepCutAuto
import Derived.Deep.CutBlock
import Derived.Deep.QuietTactic
import Derived.BigQuiet
import Derived.Deep.RegionHeld3
import Derived.Test.YtgihnliipfdokaaGreatJ00
import Derived.WalkKit
namespace Go.Proofs.YtgihnliipfdokaaGreat.Fx
open Go.RowKit

/-- The list with that record put in the place of number K. -/
def bentR (R : Nat → Rcm) (K : Nat) (x : Rcm) (j : Nat) : Rcm := if j = K then x else R j
def bentD (D : Nat → List Int) (K : Nat) (xs : List Int) (j : Nat) : List Int := if j = K then xs else D j
theorem rcsR_put {w : World} {b t n K N : Nat} {R : Nat → Rcm} (h : w.rowIs b t n (rcsR R N)) (x : Rcm) (hK : K < N) :
    (((((w.setCell ⟨b, K * 5, none⟩ (.int .i64 x.s)).setCell ⟨b, K * 5 + 1, none⟩ (.slice x.a x.n x.k)).setCell ⟨b, K * 5 + 2, none⟩ (.int .i64 x.r)).setCell ⟨b, K * 5 + 3, none⟩ (.int .u64 x.root)).setCell ⟨b, K * 5 + 4, none⟩ (.int .u64 x.chain)).rowIs b t n (rcsR (bentR R K x) N) := by
  refine (((((h.set (K * 5) (.int .i64 x.s)).set (K * 5 + 1) (.slice x.a x.n x.k)).set (K * 5 + 2) (.int .i64 x.r)).set (K * 5 + 3) (.int .u64 x.root)).set (K * 5 + 4) (.int .u64 x.chain)).congr (fun i hi => ?_)
  unfold rcsR
  by_cases h0 : i < N * 5
  · rw [if_pos h0]
    by_cases e : i / 5 = K
    · have hb : bentR R K x (i / 5) = x := by unfold bentR; rw [if_pos e]
      rw [hb]
      rcases lt5 (Nat.mod_lt i (show 0 < 5 by omega)) with hm | hm | hm | hm | hm
      · rw [if_neg (by omega), if_neg (by omega), if_neg (by omega), if_neg (by omega), if_pos (by omega), hm, if_pos h0]; rfl
      · rw [if_neg (by omega), if_neg (by omega), if_neg (by omega), if_pos (by omega), hm, if_pos h0]; rfl
      · rw [if_neg (by omega), if_neg (by omega), if_pos (by omega), hm, if_pos h0]; rfl
      · rw [if_neg (by omega), if_pos (by omega), hm, if_pos h0]; rfl
      · rw [if_pos (by omega), hm, if_pos h0]; rfl
    · have hb : bentR R K x (i / 5) = R (i / 5) := by unfold bentR; rw [if_neg e]
      rw [hb, if_neg (by omega), if_neg (by omega), if_neg (by omega), if_neg (by omega), if_neg (by omega), if_pos h0]
  · rw [if_neg h0, if_neg (by omega), if_neg (by omega), if_neg (by omega), if_neg (by omega), if_neg (by omega), if_neg h0]
theorem recs_bent {w : World} {g base B N K : Nat} {R : Nat → Rcm} {DG : Nat → Nat → Int} {x : Rcm} {xs : List Int} (h : w.rowIs g 37 (N * 5) (rcsR (bentR R K x) N)) (hj : JrIn w g base B N R DG) (hl : Lst w x.a x.n x.k xs) : Recs w (some ⟨g, 0, none⟩) N N (bentR R K x) (bentD (fun k => (List.range B).map (DG k)) K xs) := by
  refine ⟨Nat.le_refl _, .inr ⟨g, 0, rfl, h.lt, fun i hi => ?_⟩⟩
  rw [Nat.zero_add]
  refine ⟨rcsR_cell h hi (Nat.le_refl _) (i := 0) (by omega), rcsR_cell h hi (Nat.le_refl _) (i := 1) (by omega), rcsR_cell h hi (Nat.le_refl _) (i := 2) (by omega), rcsR_cell h hi (Nat.le_refl _) (i := 3) (by omega), rcsR_cell h hi (Nat.le_refl _) (i := 4) (by omega), ?_⟩
  by_cases e : i = K
  · unfold bentR bentD
    rw [if_pos e, if_pos e]
    exact hl
  · obtain ⟨h1, h2, bg, h3, _, _, ha⟩ := hj i hi
    unfold bentR bentD
    rw [if_neg e, if_neg e, h1, h2, h3]
    exact ha.lst
theorem one_recs {w : World} (x : Rcm) (xs : List Int) (h : Lst w x.a x.n x.k xs) : Recs (w.alloc (.cells x.cells 37)) (some ⟨w.heap.size, 0, none⟩) 1 1 (fun _ => x) (fun _ => xs) := by
  obtain ⟨b0, b1, b2, b3, b4⟩ := fn5_box (fn5_alloc w (.int .i64 x.s) (.slice x.a x.n x.k) (.int .i64 x.r) (.int .u64 x.root) (.int .u64 x.chain) 37)
  refine ⟨Nat.le_refl _, .inr ⟨w.heap.size, 0, rfl, by simp, fun i hi => ?_⟩⟩
  obtain rfl : i = 0 := by omega
  exact ⟨b0, b1, b2, b3, b4, h.below (low_alloc w _) (Nat.le_refl _)⟩
theorem part_recs {w : World} {g N : Nat} {R : Nat → Rcm} {D : Nat → List Int} (h : Recs w (some ⟨g, 0, none⟩) N N R D) (K : Nat) (hK : K < N) : Recs w (some ⟨g, K * 5, none⟩) 1 (N - K) (fun _ => R K) (fun _ => D K) := by
  obtain ⟨b, off, e, hc⟩ := h.at (by omega)
  simp only [Option.some.injEq, Addr.mk.injEq, and_true] at e
  obtain ⟨rfl, rfl⟩ := e
  have hh := hc K hK
  rw [Nat.zero_add] at hh
  refine ⟨by omega, .inr ⟨g, K * 5, rfl, cell_lt hh.1, fun i hi => ?_⟩⟩
  obtain rfl : i = 0 := by omega
  rw [Nat.zero_mul, Nat.add_zero]
  exact hh
theorem one_same (x y : Rcm) (xs ys : List Int) : recsB 1 1 (fun _ => x) (fun _ => y) (fun _ => xs) (fun _ => ys) = recB x y xs ys := by
  unfold recsB
  rw [decide_eq_true rfl, Bool.true_and]
  simp [List.range_succ]
/-- Of a list with one bent record the first that is not as it was made is that one, or there is none. -/
theorem first_bent {c : Cfg} {n : Nat} {DI DO : Nat → List Int} {m : Nat} {R : Nat → Rcm} (h : JrN m R (mkRV c) (mkRO c n DI DO) (mkCH c n DI DO)) (x : Rcm) (xs : List Int) {K : Nat} (hK : K < m) :
    firstNo (auB c n DI DO (bentR R K x) (bentD (jrBatch c n) K xs)) m = if recB x (R K) xs (jrBatch c n K) = true then m else K := by
  have hne : ∀ j, j < m → j ≠ K → auB c n DI DO (bentR R K x) (bentD (jrBatch c n) K xs) j = true := fun j hj e => by
    have h1 := auB_own h hj
    unfold auB at h1 ⊢
    unfold bentR bentD
    rw [if_neg e, if_neg e]
    exact h1
  have heq : auB c n DI DO (bentR R K x) (bentD (jrBatch c n) K xs) K = recB x (R K) xs (jrBatch c n K) := by
    rw [auB_is h _ _ hK]
    unfold bentR bentD
    rw [if_pos rfl, if_pos rfl]
  by_cases hr : recB x (R K) xs (jrBatch c n K) = true
  · rw [if_pos hr]
    refine firstNo_eq _ m m (Nat.le_refl _) (fun j hj => ?_) (fun h => by omega)
    by_cases e : j = K
    · subst e; rw [heq]; exact hr
    · exact hne j hj e
  · rw [if_neg hr]
    refine firstNo_eq _ m K (by omega) (fun j hj => hne j (by omega) (by omega)) (fun _ => ?_)
    rw [heq]
    exact Bool.not_eq_true _ ▸ hr

end Go.Proofs.YtgihnliipfdokaaGreat.Fx

/- coachref.SameRecords, of records whose batches are of whatever length. -/
namespace Go.Proofs.YtgihnliipfdokaaGreat.Fx
open Go.RowKit

set_option maxRecDepth 100000 in
set_option maxHeartbeats 1600000 in
theorem rsame1_big (x y : Rcm) (xs ys : List Int) (w : World) (l1 : Lst w x.a x.n x.k xs) (l2 : Lst w y.a y.n y.k ys) (hn : x.n ≤ 9223372036854775807) :
    Calls Tryz.prog 44 #[x.val, y.val] w fun e w' => e = .returned (.bool (recB x y xs ys)) ∧ Below w.heap.size w w' := by
  have ha1 := low_alloc w (.cells x.cells 37)
  have hal := ha1.trans ((low_alloc (w.alloc (.cells x.cells 37)) (.cells y.cells 37)).mono ha1.size)
  have HLK : Hid (Calls Tryz.prog 12 #[x.val, y.val] ((w.alloc (.cells x.cells 37)).alloc (.cells y.cells 37)) fun e w' => e = .returned (.bool (likeB x y xs ys)) ∧ Below ((w.alloc (.cells x.cells 37)).alloc (.cells y.cells 37)).heap.size ((w.alloc (.cells x.cells 37)).alloc (.cells y.cells 37)) w') := rlike_big x y xs ys _ (l1.below hal (Nat.le_refl _)) (l2.below hal (Nat.le_refl _)) hn
  have rx := (fn5_alloc w (.int .i64 x.s) (.slice x.a x.n x.k) (.int .i64 x.r) (.int .u64 x.root) (.int .u64 x.chain) 37).alloc (.cells y.cells 37)
  have ry := fn5_alloc (w.alloc (.cells x.cells 37)) (.int .i64 y.s) (.slice y.a y.n y.k) (.int .i64 y.r) (.int .u64 y.root) (.int .u64 y.chain) 37
  unfold recB
  clear l1 l2 ha1
  generalize likeB x y xs ys = LB at *
  obtain ⟨s, a, n, k, r, root, chain⟩ := x
  obtain ⟨s', a', n', k', r', root', chain'⟩ := y
  simp only [Rcm.val, Rcm.cells] at *
  simp at ry
  cases LB with
  | false =>
    go_enter Tryz.func44, Tryz.ntmps44
    go_wp2_with fail
    refine HLK.out.mono ?_
    rintro e w1 ⟨rfl, hw1⟩
    go_wp2_with fail
    go_ret
    exact ⟨rfl, hal.trans (hw1.mono hal.size)⟩
  | true =>
    go_enter Tryz.func44, Tryz.ntmps44
    go_wp2_with fail
    refine HLK.out.mono ?_
    rintro e w1 ⟨rfl, hw1⟩
    have x4 := (fn5_box (rx.of_block (hw1.block _ rx.lt))).c4
    have y4 := (fn5_box (ry.of_block (hw1.block _ ry.lt))).c4
    go_wp2_with fail
    go_ret
    exact ⟨ret_bool (by rw [Bool.true_and]; exact beq_dec _ _), hal.trans (hw1.mono hal.size)⟩

set_option maxRecDepth 100000 in
set_option maxHeartbeats 3200000 in
theorem eqr_big (a b : Option Addr) (n m c1 c2 : Nat) (X Y : Nat → Rcm) (DX DY : Nat → List Int) (w : World) (hx : Recs w a n c1 X DX) (hy : Recs w b m c2 Y DY) (hn : n ≤ 1000000000000000) (hxn : ∀ j, j < n → (X j).n ≤ 9223372036854775807) :
    Calls Tryz.prog 43 #[.slice a n c1, .slice b m c2, .func (.func 44) #[] #[]] w fun e w' => e = .returned (.bool (recsB n m X Y DX DY)) ∧ Below w.heap.size w w' := by
  by_cases hnm : n = m
  · subst hnm
    have hne : ((n : Int) != (n : Int)) = false := by simp
    have HXN : Hid (∀ j, j < n → (X j).n ≤ 9223372036854775807) := hxn
    have HOK : Hid ((∀ j, j < n → recB (X j) (Y j) (DX j) (DY j) = true) → recsB n n X Y DX DY = true) := fun h => by
      unfold recsB
      rw [decide_eq_true rfl, Bool.true_and, List.all_eq_true]
      exact fun i hi => h i (List.mem_range.1 hi)
    have HBAD : Hid (∀ j, j < n → recB (X j) (Y j) (DX j) (DY j) = false → recsB n n X Y DX DY = false) := fun j hj h => by
      unfold recsB
      rw [decide_eq_true rfl, Bool.true_and, List.all_eq_false]
      exact ⟨j, List.mem_range.2 hj, by rw [h]; decide⟩
    generalize recsB n n X Y DX DY = RB at *
    clear hxn
    go_enter Tryz.func43, Tryz.ntmps43
    go_wp2_with fail
    go_loopw [17] (fun v wr => ∃ k : Nat, k ≤ n ∧ v = .int .i64 k ∧ Hid (∀ j, j < k → recB (X j) (Y j) (DX j) (DY j) = true) ∧ Below w.heap.size w wr) (fun v _ => n - (intOf v).toNat)
    case atStart => exact ⟨0, Nat.zero_le _, rfl, fun j hj => by omega, Below.refl _ _⟩
    case round =>
      obtain ⟨k, hk, rfl, hg, hbel⟩ := hrel
      have hx1 := hx.below hbel (Nat.le_refl _)
      have hy1 := hy.below hbel (Nat.le_refl _)
      by_cases hlt : k < n
      · have hlen := HXN.out k hlt
        rcases hx1.2 with h0 | ⟨xb, xo, rfl, _, hc⟩
        · omega
        rcases hy1.2 with h0 | ⟨yb, yo, rfl, _, hd⟩
        · omega
        obtain ⟨e0, e1, e2, e3, e4, lx⟩ := hc k hlt
        obtain ⟨f0, f1, f2, f3, f4, ly⟩ := hd k hlt
        have hbad := HBAD.out k hlt
        have hgood : recB (X k) (Y k) (DX k) (DY k) = true → ∀ j, j < k + 1 → recB (X j) (Y j) (DX j) (DY j) = true := fun g j hj => by
          by_cases e : j = k
          · subst e; exact g
          · exact hg.out j (by omega)
        obtain ⟨x, hxk⟩ : ∃ x, X k = x := ⟨_, rfl⟩
        obtain ⟨y, hyk⟩ : ∃ y, Y k = y := ⟨_, rfl⟩
        rw [hxk] at e0 e1 e2 e3 e4 lx hlen hbad hgood
        rw [hyk] at f0 f1 f2 f3 f4 ly hbad hgood
        have ha := low_alloc wr (.cells x.cells 37)
        have ha2 := ha.trans ((low_alloc (wr.alloc (.cells x.cells 37)) (.cells y.cells 37)).mono ha.size)
        have SM : Calls Tryz.prog 44 #[x.val, y.val] ((wr.alloc (.cells x.cells 37)).alloc (.cells y.cells 37)) fun e w' => e = .returned (.bool (recB x y (DX k) (DY k))) ∧ Below ((wr.alloc (.cells x.cells 37)).alloc (.cells y.cells 37)).heap.size ((wr.alloc (.cells x.cells 37)).alloc (.cells y.cells 37)) w' := rsame1_big x y (DX k) (DY k) _ (lx.below ha2 (Nat.le_refl _)) (ly.below ha2 (Nat.le_refl _)) hlen
        have g0 := (ha.cell (p := ⟨yb, yo + k * 5, none⟩) (cell_lt f0)).trans f0
        have g1 := (ha.cell (p := ⟨yb, yo + k * 5 + 1, none⟩) (cell_lt f1)).trans f1
        have g2 := (ha.cell (p := ⟨yb, yo + k * 5 + 2, none⟩) (cell_lt f2)).trans f2
        have g3 := (ha.cell (p := ⟨yb, yo + k * 5 + 3, none⟩) (cell_lt f3)).trans f3
        have g4 := (ha.cell (p := ⟨yb, yo + k * 5 + 4, none⟩) (cell_lt f4)).trans f4
        have kn : (k : Int) < (n : Int) := by omega
        have HB : Hid (recB x y (DX k) (DY k) = false → RB = false) := hbad
        have HG : Hid (recB x y (DX k) (DY k) = true → ∀ j, j < k + 1 → recB (X j) (Y j) (DX j) (DY j) = true) := hgood
        clear hx hy hx1 hy1 hxk hyk lx ly hlen HXN hc hd f0 f1 f2 f3 f4 hbad hgood hg
        generalize recB x y (DX k) (DY k) = QB at *
        obtain ⟨s, ax, nx, kx, r, root, chain⟩ := x
        obtain ⟨s', ay, ny, ky, r', root', chain'⟩ := y
        simp only [Rcm.val, Rcm.cells] at *
        cases QB with
        | false =>
          go_wp2_with fail
          refine SM.mono ?_
          rintro e w1 ⟨rfl, hw1⟩
          go_wp2_with fail
          go_ret
          exact ⟨ret_bool (HB.out (by trivial)).symm, hbel.trans ((ha2.trans (hw1.mono ha2.size)).mono hbel.size)⟩
        | true =>
          go_wp2_with fail
          refine SM.mono ?_
          rintro e w1 ⟨rfl, hw1⟩
          have hb1 := hbel.trans ((ha2.trans (hw1.mono ha2.size)).mono hbel.size)
          go_wp2_with fail
          go_roundw
          case rel => exact ⟨k + 1, by omega, by go_num, HG.out (by trivial), hb1⟩
          case measure => simp [intOf]; omega
      · obtain rfl : k = n := by omega
        go_wp2_with fail
        go_ret
        exact ⟨ret_bool (HOK.out hg.out).symm, hbel⟩
  · have hne : ((n : Int) != (m : Int)) = true := by rw [bne_iff_ne]; omega
    have HR : Hid (recsB n m X Y DX DY = false) := by show recsB n m X Y DX DY = false; unfold recsB; rw [decide_eq_false hnm, Bool.false_and]
    clear hx hy hxn hnm
    go_enter Tryz.func43, Tryz.ntmps43
    go_wp2_with fail
    go_ret
    exact ⟨ret_bool HR.out.symm, Below.refl _ _⟩

theorem rsameR_big (a b : Option Addr) (n m c1 c2 : Nat) (X Y : Nat → Rcm) (DX DY : Nat → List Int) (w : World) (hx : Recs w a n c1 X DX) (hy : Recs w b m c2 Y DY) (hn : n ≤ 1000000000000000) (hxn : ∀ j, j < n → (X j).n ≤ 9223372036854775807) :
    Calls Tryz.prog 17 #[.slice a n c1, .slice b m c2] w fun e w' => e = .returned (.bool (recsB n m X Y DX DY)) ∧ Below w.heap.size w w' := by
  have K := eqr_big a b n m c1 c2 X Y DX DY w hx hy hn hxn
  clear hx hy hn hxn
  go_enter Tryz.func17, Tryz.ntmps17
  go_wp2_with fail
  refine K.mono ?_
  rintro e w1 ⟨rfl, hw1⟩
  go_wp2_with fail
  go_ret
  exact ⟨rfl, hw1⟩
end Go.Proofs.YtgihnliipfdokaaGreat.Fx

/- The walk of AuditTells: it returns true, whatever is handed in, and nothing that was there is written. -/
namespace Go.Proofs.YtgihnliipfdokaaGreat.Fx
open Go.RowKit

set_option maxRecDepth 100000 in
set_option maxHeartbeats 6400000 in
theorem auditTells_core (c : Cfg) (hs : okW c.seed) (a : Option Addr) (n cap : Nat) (X : Nat → Exm) (DI DO : Nat → List Int) (n0 k0 : Int) (x : Rcm) (xs : List Int) (w : World) (hx : Exs w a n cap X DI DO) (lx : Lst w x.a x.n x.k xs) (hxn : x.n ≤ 9223372036854775807) :
    Calls Tryz.prog 5 #[c.val, .slice a n cap, .int .i64 n0, .int .i64 k0, x.val] w fun e w' => e = .returned (.bool true) ∧ Below w.heap.size w w' := by
  have HRK : Hid (∀ q, Below w.heap.size w q → Calls Tryz.prog 7 #[c.val, .slice a n cap] q fun e w' => e = .returned (.int .i64 (courseI c n X DI DO)) ∧ Below q.heap.size q w') := fun q hq => rcourse_calls c a n cap X DI DO q (hx.below hq (Nat.le_refl _))
  obtain ⟨BB, HBB⟩ : ∃ t : Nat, Hid (c.batch.toNat = t) := ⟨_, rfl⟩
  have HMK : Hid (courseI c n X DI DO = 0 → ∀ (k : Nat) q, (k : Int) ≤ c.steps → Below w.heap.size w q → Calls Tryz.prog 16 #[c.val, .slice a n cap, .int .i64 k] q fun e w' => ∃ g R, e = .returned (.tuple #[.slice (some ⟨g, 0, none⟩) k k, .int .i64 0]) ∧ q.heap.size ≤ g ∧ w'.rowIs g 37 (k * 5) (rcsR R k) ∧ JrIn w' g q.heap.size BB k R (jrG c n) ∧ JrN k R (mkRV c) (mkRO c n DI DO) (mkCH c n DI DO) ∧ Below q.heap.size q w') := fun hF k q hk hq => by
    have h := jMake_good c a n cap X DI DO k q hs (hx.below hq (Nat.le_refl _)) hF hk
    rw [HBB.out] at h
    exact h
  have HRC : Hid (∀ (q : World) (g base k : Nat) (R : Nat → Rcm), q.rowIs g 37 (k * 5) (rcsR R k) → JrIn q g base BB k R (jrG c n) → Recs q (some ⟨g, 0, none⟩) k k R (jrBatch c n)) := fun q g base k R h1 h2 => by
    rw [← HBB.out] at h2
    exact recs_of h1 h2
  have HWO : Hid (courseI c n X DI DO = 0 → ∀ (k : Nat) (q : World) (g : Nat) (R : Nat → Rcm), (k : Int) ≤ c.steps → Below w.heap.size w q → Recs q (some ⟨g, 0, none⟩) k k R (jrBatch c n) → JrN k R (mkRV c) (mkRO c n DI DO) (mkCH c n DI DO) → (∀ j, j < k → (R j).n ≤ 8) → Calls Tryz.prog 9 #[c.val, .slice a n cap, .slice (some ⟨g, 0, none⟩) k k] q fun e w' => e = .returned (.tuple #[.int .i64 k, .int .i64 0]) ∧ Below q.heap.size q w') := fun h0 k q g R hk hq hR hJ h8 => whole_own c hs a n cap X DI DO _ k k R q (hx.below hq (Nat.le_refl _)) hR h8 h0 hk hJ
  have HWB : Hid (courseI c n X DI DO = 0 → ∀ (k : Nat) (q : World) (g base K : Nat) (R : Nat → Rcm), (k : Int) ≤ c.steps → K < k → Below w.heap.size w q → q.rowIs g 37 (k * 5) (rcsR (bentR R K x) k) → JrIn q g base BB k R (jrG c n) → JrN k R (mkRV c) (mkRO c n DI DO) (mkCH c n DI DO) → (∀ j, j < k → (R j).n ≤ 8) → Calls Tryz.prog 9 #[c.val, .slice a n cap, .slice (some ⟨g, 0, none⟩) k k] q fun e w' => e = .returned (.tuple #[.int .i64 ((if recB x (R K) xs (jrBatch c n K) = true then k else K : Nat) : Int), .int .i64 0]) ∧ Below q.heap.size q w') := fun h0 k q g base K R hk hK hq hr hj hJ h8 => by
    rw [← HBB.out] at hj
    have h := whole_good c hs a n cap X DI DO _ k k _ _ q (hx.below hq (Nat.le_refl _)) (recs_bent hr hj (lx.below hq (Nat.le_refl _))) (fun j hj => by
      unfold bentR
      by_cases e : j = K
      · rw [if_pos e]; exact hxn
      · rw [if_neg e]; exact Nat.le_trans (h8 j hj) (by decide)) h0 hk
    have e := first_bent hJ x xs hK
    rw [jrBatch_is] at e
    rw [e] at h
    exact h
  have HSR : Hid (∀ (q : World) (g k K : Nat) (R : Nat → Rcm), Below w.heap.size w q → Recs q (some ⟨g, 0, none⟩) k k R (jrBatch c n) → K < k → Calls Tryz.prog 17 #[.slice (some ⟨q.heap.size, 0, none⟩) 1 1, .slice (some ⟨g, K * 5, none⟩) 1 (k - K)] (q.alloc (.cells x.cells 37)) fun e w' => e = .returned (.bool (recB x (R K) xs (jrBatch c n K))) ∧ Below (q.alloc (.cells x.cells 37)).heap.size (q.alloc (.cells x.cells 37)) w') := fun q g k K R hq hR hK => by
    have h := rsameR_big _ _ 1 1 1 (k - K) _ _ _ _ _ (one_recs x xs (lx.below hq (Nat.le_refl _))) (part_recs (hR.below (low_alloc q (.cells x.cells 37)) (Nat.le_refl _)) K hK) (by omega) (fun j hj => hxn)
    rw [one_same] at h
    exact h
  have HST : Hid (courseI c n X DI DO = 0 → (1 ≤ c.steps ∧ c.steps ≤ 40) ∧ BB ≤ 8) := fun hF => by
    obtain ⟨_, _, _, ⟨b1, b2⟩, p, _⟩ := cfgB_is (course_ok hF).1
    have := HBB.out
    exact ⟨p, by omega⟩
  have hal : Below w.heap.size w ((w.alloc (.cells c.cells 24)).alloc (.cells x.cells 37)) := ((Below.refl w.heap.size w).alloc (Nat.le_refl _) _).alloc (by simp) _
  have KB : Hid (∀ q, Below ((w.alloc (.cells c.cells 24)).alloc (.cells x.cells 37)).heap.size ((w.alloc (.cells c.cells 24)).alloc (.cells x.cells 37)) q → BoxC q w.heap.size c ∧ Box5 q (w.heap.size + 1) (.int .i64 x.s) (.slice x.a x.n x.k) (.int .i64 x.r) (.int .u64 x.root) (.int .u64 x.chain)) := fun q hq => by
    have r5 := fn5_alloc (w.alloc (.cells c.cells 24)) (.int .i64 x.s) (.slice x.a x.n x.k) (.int .i64 x.r) (.int .u64 x.root) (.int .u64 x.chain) 37
    have e : (w.alloc (.cells c.cells 24)).heap.size = w.heap.size + 1 := by simp
    rw [e] at r5
    have r6 : q.rowIs (w.heap.size + 1) 37 5 (fn5 (.int .i64 x.s) (.slice x.a x.n x.k) (.int .i64 x.r) (.int .u64 x.root) (.int .u64 x.chain)) := World.rowIs.of_block r5 (hq.block _ (by simp))
    refine ⟨boxC (B := w.heap.size + 1) (((Below.refl (w.heap.size + 1) (w.alloc (.cells c.cells 24))).alloc (by simp) (.cells x.cells 37)).trans (hq.mono (by simp))) (by omega), fn5_box r6⟩
  clear hx hs HBB lx hxn
  generalize courseI c n X DI DO = F at *
  generalize jrBatch c n = DB at *
  generalize jrG c n = DG at *
  generalize mkRV c = RV at *
  generalize mkRO c n DI DO = RO at *
  generalize mkCH c n DI DO = CH at *
  obtain ⟨W0, HW0⟩ : ∃ q, Hid (q = ((w.alloc (.cells c.cells 24)).alloc (.cells x.cells 37))) := ⟨_, rfl⟩
  rw [← HW0.out] at hal KB
  obtain ⟨QB, HQB⟩ : ∃ f : Rcm → List Int → Bool, Hid (f = fun y ys => recB x y xs ys) := ⟨_, rfl⟩
  have hqb : ∀ y ys, recB x y xs ys = QB y ys := fun y ys => by rw [HQB.out]
  simp only [hqb] at HWB HSR
  clear hqb HQB
  have HPUT : Hid (∀ (q : World) (b t n K N : Nat) (R : Nat → Rcm), q.rowIs b t n (rcsR R N) → K < N → (((((q.setCell ⟨b, K * 5, none⟩ (.int .i64 x.s)).setCell ⟨b, K * 5 + 1, none⟩ (.slice x.a x.n x.k)).setCell ⟨b, K * 5 + 2, none⟩ (.int .i64 x.r)).setCell ⟨b, K * 5 + 3, none⟩ (.int .u64 x.root)).setCell ⟨b, K * 5 + 4, none⟩ (.int .u64 x.chain)).rowIs b t n (rcsR (bentR R K x) N)) := fun q b t n K N R h hK => rcsR_put h x hK
  obtain ⟨BR, HBR⟩ : ∃ f : (Nat → Rcm) → Nat → Nat → Rcm, Hid (f = fun R K => bentR R K x) := ⟨_, rfl⟩
  have hbr : ∀ R K, bentR R K x = BR R K := fun R K => by rw [HBR.out]
  simp only [hbr] at HWB HPUT
  clear hbr HBR
  obtain ⟨i, h, o, seed, batch, steps, crate, decay, how, keep, clip⟩ := c
  obtain ⟨xs0, xa, xn, xk, xr, xroot, xchain⟩ := x
  simp only [Cfg.val, Cfg.cells, Rcm.val, Rcm.cells] at *
  go_enter Tryz.func5, Tryz.ntmps5
  go_wp2_with fail
  rw [← HW0.out]
  clear HW0
  refine (taught_any _).mono ?_
  rintro e w1 ⟨rfl, T⟩
  obtain ⟨⟨c0, c1, c2, c3, c4, c5, c6, c7, c8, c9, c10⟩, _⟩ := KB.out _ T
  dsimp only at c0 c1 c2 c3 c4 c5 c6 c7 c8 c9 c10
  go_wp2_with fail
  refine (HRK.out _ (hal.trans (T.mono hal.size))).mono ?_
  rintro e w2 ⟨rfl, hw2⟩
  replace T := T.trans (hw2.mono T.size)
  clear hw2 HRK c0 c1 c2 c3 c4 c5 c6 c7 c8 c9 c10
  obtain ⟨⟨c0, c1, c2, c3, c4, c5, c6, c7, c8, c9, c10⟩, _⟩ := KB.out _ T
  dsimp only at c0 c1 c2 c3 c4 c5 c6 c7 c8 c9 c10
  by_cases hF : F = 0
  rotate_left
  · have hFn : (F != 0) = true := by rw [bne_iff_ne]; exact hF
    clear HMK HWO HWB HSR HST hF HRC HPUT
    go_wp2_with fail
    go_ret
    exact ⟨rfl, hal.trans (T.mono hal.size)⟩
  subst hF
  obtain ⟨⟨s1, s2⟩, hB8⟩ := HST.out (by trivial)
  clear HST
  go_upto_region 5 with fail
  go_cut [2] (fun v q => ∃ N1 : Nat, N1 ≤ 5 ∧ (N1 : Int) ≤ steps ∧ v = .int .i64 N1 ∧ q = w2)
  case first =>
    clear HMK HWO HWB HSR HRC HPUT KB
    by_cases h6 : steps ≤ 5
    · obtain ⟨S, hS⟩ : ∃ S : Nat, steps + 1 = (S : Int) := ⟨(steps + 1).toNat, by omega⟩
      have RS := rest_any n0 S (by omega) (by omega) w2
      go_wp2_with ((go_at_call 15; refine RS.mono ?_; rintro e w' ⟨⟨N1, hN1, rfl⟩, hw'⟩; replace hw' := hw'.symm; subst hw'))
      go_meet
      case rel => exact ⟨N1, by omega, by omega, rfl, rfl⟩
    · have h7 : 5 < steps := by omega
      have RS : Calls Tryz.prog 15 #[.int .i64 n0, .int .i64 6] w2 fun e w' => (∃ k : Nat, k < 6 ∧ e = .returned (.int .i64 k)) ∧ w' = w2 := rest_any n0 6 (by omega) (by omega) w2
      go_wp2_with ((go_at_call 15; refine RS.mono ?_; rintro e w' ⟨⟨N1, hN1, rfl⟩, hw'⟩; replace hw' := hw'.symm; subst hw'))
      go_meet
      case rel => exact ⟨N1, by omega, by omega, rfl, rfl⟩
  case rest =>
    obtain ⟨N1, hN6, hN1, rfl, hwq⟩ := hcut
    replace hwq := hwq.symm
    subst hwq
    have MK := HMK.out (by trivial) N1 _ hN1 (hal.trans (T.mono hal.size))
    go_wp2_with fail
    refine MK.mono ?_
    rintro e w3 ⟨g, R, rfl, hg, rrow, hji, hjn, hw3⟩
    have hg2 : w.heap.size ≤ g := by have := (hal.trans (T.mono hal.size)).size; omega
    have hgW : W0.heap.size ≤ g := by have := T.size; omega
    replace T := T.trans (hw3.mono T.size)
    clear hw3 HMK MK c0 c1 c2 c3 c4 c5 c6 c7 c8 c9 c10
    obtain ⟨⟨c0, c1, c2, c3, c4, c5, c6, c7, c8, c9, c10⟩, _⟩ := KB.out _ T
    dsimp only at c0 c1 c2 c3 c4 c5 c6 c7 c8 c9 c10
    have HJN : Hid (JrN N1 R RV RO CH) := hjn
    have H8 : Hid (∀ j, j < N1 → (R j).n ≤ 8) := fun j hj => by have := (hji j hj).1; omega
    have HJI : Hid (JrIn w3 g w2.heap.size BB N1 R DG) := hji
    clear hjn hji
    have WO := HWO.out (by trivial) N1 _ g R hN1 (hal.trans (T.mono hal.size)) (HRC.out _ _ _ _ _ rrow HJI.out) HJN.out H8.out
    go_wp2_with fail
    refine WO.mono ?_
    rintro e w4 ⟨rfl, hw4⟩
    have T4 := T.trans (hw4.mono T.size)
    have rrow4 := rrow.of_block (hw4.block _ rrow.lt)
    have HJI4 : Hid (JrIn w4 g w2.heap.size BB N1 R DG) := HJI.out.below hw4
    clear HWO WO c0 c1 c2 c3 c4 c5 c6 c7 c8 c9 c10 rrow HJI hw4
    obtain ⟨⟨c0, c1, c2, c3, c4, c5, c6, c7, c8, c9, c10⟩, ⟨b0, b1, b2, b3, b4⟩⟩ := KB.out _ T4
    dsimp only at c0 c1 c2 c3 c4 c5 c6 c7 c8 c9 c10
    have hm1 : ((N1 : Int) != (N1 : Int)) = false := by simp
    by_cases hz : N1 = 0
    · have hz1 : ((N1 : Int) == 0) = true := by rw [beq_iff_eq]; omega
      clear HWB HSR HRC HPUT KB HJN H8 HJI4 hz
      go_wp2_with fail
      go_ret
      exact ⟨rfl, hal.trans (T4.mono hal.size)⟩
    · have hz1 : ((N1 : Int) == 0) = false := by rw [beq_eq_false_iff_ne]; omega
      have RS := rest_any k0 N1 (by omega) (by omega) w4
      go_wp2_with fail
      refine RS.mono ?_
      rintro e w' ⟨⟨K, hK, rfl⟩, hw'⟩
      replace hw' := hw'.symm
      subst hw'
      obtain ⟨KN, HKN⟩ : ∃ KN : Nat, Hid (K + 1 = KN) := ⟨_, rfl⟩
      have eK : (K : Int) + 1 = (KN : Int) := by have := HKN.out; omega
      have wK : IntKind.i64.wrap (KN : Int) = (KN : Int) := wrap_in _ (by have := HKN.out; omega) (by have := HKN.out; omega)
      have kn1 : K ≤ KN := by have := HKN.out; omega
      have kn2 : ¬ N1 = K := by omega
      have kk0 : (0 : Int) ≤ (K : Int) := by omega
      have kk1 : (K : Int) ≤ (KN : Int) := by have := HKN.out; omega
      have kk2 : (KN : Int) ≤ (N1 : Int) := by have := HKN.out; omega
      have KS : Hid (∀ q, Below w4.heap.size w4 q → q.cell? ⟨w.heap.size + 1, 0, none⟩ = some (.int .i64 xs0) ∧ q.cell? ⟨w.heap.size + 1, 1, none⟩ = some (.slice xa xn xk) ∧ q.cell? ⟨w.heap.size + 1, 2, none⟩ = some (.int .i64 xr) ∧ q.cell? ⟨w.heap.size + 1, 3, none⟩ = some (.int .u64 xroot) ∧ q.cell? ⟨w.heap.size + 1, 4, none⟩ = some (.int .u64 xchain)) := fun q hq => by
        obtain ⟨_, ⟨y0, y1, y2, y3, y4⟩⟩ := KB.out _ (T4.trans (hq.mono T4.size))
        exact ⟨y0, y1, y2, y3, y4⟩
      have S0 := KS.out _ (Below.drew (Below.refl _ _))
      have V1 : Below w4.heap.size w4 (w4.alloc (.cells #[.int .i64 xs0, .slice xa xn xk, .int .i64 xr, .int .u64 xroot, .int .u64 xchain] 37)).drew := Below.drew ((Below.refl _ _).alloc (Nat.le_refl _) _)
      have S1 := KS.out _ V1
      have hT4 := hal.trans (T4.mono hal.size)
      have SR : Calls Tryz.prog 17 #[.slice (some ⟨w4.heap.size, 0, none⟩) 1 1, .slice (some ⟨g, K * 5, none⟩) 1 (N1 - K)] (w4.alloc (.cells #[.int .i64 xs0, .slice xa xn xk, .int .i64 xr, .int .u64 xroot, .int .u64 xchain] 37)).drew fun e w' => e = .returned (.bool (QB (R K) (DB K))) ∧ Below (w4.alloc (.cells #[.int .i64 xs0, .slice xa xn xk, .int .i64 xr, .int .u64 xroot, .int .u64 xchain] 37)).drew.heap.size (w4.alloc (.cells #[.int .i64 xs0, .slice xa xn xk, .int .i64 xr, .int .u64 xroot, .int .u64 xchain] 37)).drew w' := HSR.out w4.drew g N1 K R (Below.drew hT4) ((HRC.out _ _ _ _ _ rrow4 HJI4.out).below (Below.drew (Below.refl _ _)) (Nat.le_refl _)) hK
      obtain ⟨Q, HQ⟩ : ∃ q, Hid (QB (R K) (DB K) = q) := ⟨_, rfl⟩
      rw [HQ.out] at SR
      have eL : KN - K = 1 := by have := HKN.out; omega
      clear HSR HRC
      go_wp2_with fail
      go_region_held3 (fun q => q.cell? ⟨w.heap.size + 1, 0, none⟩ = some (.int .i64 xs0) ∧ q.cell? ⟨w.heap.size + 1, 1, none⟩ = some (.slice xa xn xk) ∧ q.cell? ⟨w.heap.size + 1, 2, none⟩ = some (.int .i64 xr) ∧ q.cell? ⟨w.heap.size + 1, 3, none⟩ = some (.int .u64 xroot) ∧ q.cell? ⟨w.heap.size + 1, 4, none⟩ = some (.int .u64 xchain)) (first | with_reducible exact S2 | with_reducible exact S1 | with_reducible exact S0)
        ((go_at_call 17; refine SR.mono ?_; rintro e w5 ⟨rfl, hw5⟩; have V2 := V1.trans (hw5.mono V1.size); have S2 := KS.out _ V2))
      have T5 := T4.trans (V2.mono T4.size)
      have hT5 := hal.trans (T5.mono hal.size)
      have rrow5 := rrow4.of_block (V2.block _ rrow4.lt)
      have HJI5 : Hid (JrIn w5 g w2.heap.size BB N1 R DG) := HJI4.out.below V2
      clear SR S0 S1 S2 V1 V2 hw5 HJI4 rrow4 KS c0 c1 c2 c3 c4 c5 c6 c7 c8 c9 c10 b0 b1 b2 b3 b4 wK kn1 kn2 eL hT4
      obtain ⟨_, ⟨b0, b1, b2, b3, b4⟩⟩ := KB.out _ T5
      have r0 := rcsR_cell rrow5 hK (Nat.le_refl _) (i := 0) (by omega)
      have r1 := rcsR_cell rrow5 hK (Nat.le_refl _) (i := 1) (by omega)
      have r2 := rcsR_cell rrow5 hK (Nat.le_refl _) (i := 2) (by omega)
      have r3 := rcsR_cell rrow5 hK (Nat.le_refl _) (i := 3) (by omega)
      have r4 := rcsR_cell rrow5 hK (Nat.le_refl _) (i := 4) (by omega)
      have f0 := rrow5.frozen (K * 5)
      have f1 := rrow5.frozen (K * 5 + 1)
      have f2 := rrow5.frozen (K * 5 + 2)
      have f3 := rrow5.frozen (K * 5 + 3)
      have f4 := rrow5.frozen (K * 5 + 4)
      rw [Nat.add_zero] at r0
      have T6 : Below W0.heap.size W0 (((((w5.setCell ⟨g, K * 5, none⟩ (.int .i64 xs0)).setCell ⟨g, K * 5 + 1, none⟩ (.slice xa xn xk)).setCell ⟨g, K * 5 + 2, none⟩ (.int .i64 xr)).setCell ⟨g, K * 5 + 3, none⟩ (.int .u64 xroot)).setCell ⟨g, K * 5 + 4, none⟩ (.int .u64 xchain)) := ((((T5.setCell hgW _).setCell hgW _).setCell hgW _).setCell hgW _).setCell hgW _
      have WB := HWB.out (by trivial) N1 (((((w5.setCell ⟨g, K * 5, none⟩ (.int .i64 xs0)).setCell ⟨g, K * 5 + 1, none⟩ (.slice xa xn xk)).setCell ⟨g, K * 5 + 2, none⟩ (.int .i64 xr)).setCell ⟨g, K * 5 + 3, none⟩ (.int .u64 xroot)).setCell ⟨g, K * 5 + 4, none⟩ (.int .u64 xchain)) g w2.heap.size K R hN1 hK (hal.trans (T6.mono hal.size)) (HPUT.out w5 g _ _ K N1 R rrow5 hK) (((((HJI5.out.setO _ _).setO _ _).setO _ _).setO _ _).setO _ _) HJN.out H8.out
      rw [HQ.out] at WB
      obtain ⟨⟨c0, c1, c2, c3, c4, c5, c6, c7, c8, c9, c10⟩, _⟩ := KB.out _ T6
      dsimp only at c0 c1 c2 c3 c4 c5 c6 c7 c8 c9 c10
      have hT6 := hal.trans (T6.mono hal.size)
      generalize recC (R K) 0 = z0 at r0
      generalize recC (R K) 1 = z1 at r1
      generalize recC (R K) 2 = z2 at r2
      generalize recC (R K) 3 = z3 at r3
      generalize recC (R K) 4 = z4 at r4
      have k1 : (K : Int) < (N1 : Int) := by omega
      clear HWB HPUT HJN H8 HJI5 rrow5 KB HQ T5 T4
      cases Q with
      | false =>
        rw [if_neg (by decide)] at WB
        have q1 : ((K : Int) == (K : Int)) = true := by simp
        go_wp2_with fail
        refine WB.mono ?_
        rintro e w7 ⟨rfl, hw7⟩
        go_wp2_with fail
        go_ret
        exact ⟨rfl, hT6.trans (hw7.mono hT6.size)⟩
      | true =>
        rw [if_pos rfl] at WB
        have q1 : ((N1 : Int) == (N1 : Int)) = true := by simp
        go_wp2_with fail
        refine WB.mono ?_
        rintro e w7 ⟨rfl, hw7⟩
        go_wp2_with fail
        go_ret
        exact ⟨rfl, hT6.trans (hw7.mono hT6.size)⟩

theorem auditTells_any (c : Cfg) (a : Option Addr) (n cap : Nat) (X : Nat → Exm) (DI DO : Nat → List Int) (n0 k0 : Int) (x : Rcm) (xs : List Int) (w : World) (hs : (Lit.int .u64 c.seed).wf = true) (hx : Exs w a n cap X DI DO) (_ : (Lit.int .i64 n0).wf = true) (_ : (Lit.int .i64 k0).wf = true) (hr : RecIn w x xs) :
    Calls Tryz.prog 5 #[c.val, .slice a n cap, .int .i64 n0, .int .i64 k0, x.val] w fun e w' => e = .returned (.bool true) ∧ Below w.heap.size w w' :=
  auditTells_core c (wf_word hs) a n cap X DI DO n0 k0 x xs w hx hr.l (Nat.le_trans hr.n (by decide))
end Go.Proofs.YtgihnliipfdokaaGreat.Fx

/- AuditTells holds: whatever config, examples, numbers and record are handed in, it returns true, and what was handed in stays as it was; no condition. -/
namespace Go.Proofs.YtgihnliipfdokaaGreat.auditTells
open Go.ChangeShapes Go.WideShapes Go.ChangeAt Go.RowKit
set_option linter.unusedVariables false

set_option maxRecDepth 100000 in
theorem lifted (os : Os) (started : os.Started) (H : Type) (enc : TypeId × Value → H) :
    ReturnsInHanded {} Tryz.checked os 5 .any (Rows.auditTellsSpec.pre6 enc Tryz.prog Tryz.f5 Rows.auditTellsRow.domain false) (Rows.auditTellsSpec.post enc Tryz.prog Tryz.f5 false true false false) := by
  refine returnsInHanded_of_change (C := Tryz.checked) Fx.own started (by kernel_rfl) Tryz.func5
    (ChangeSpec.witness6 (enc := enc) (C := Tryz.checked) false ⟨#[], #[.agg #[.int .i64 0, .int .i64 0, .int .i64 0, .int .u64 0, .int .i64 0, .int .i64 0, .int .i64 0, .int .i64 0, .int .i64 0, .int .i64 0, .int .i64 0], .slice none 0 0, .int .i64 0, .int .i64 0, .agg #[.int .i64 0, .slice none 0 0, .int .i64 0, .int .u64 0, .int .u64 0]], []⟩ 8 (by kernel_rfl) (by kernel_rfl) (by kernel_rfl) (by kernel_rfl)) ?_
  intro W base args ds gs before hval0 hW hcnd _
  have hval : ∀ (j : Nat) t v, Tryz.f5.params[j]? = some t → args[j]? = some v → Value.okWide Tryz.prog W .any base t v := hval0
  have hW' := hW
  obtain ⟨p, q, hA0, hV, rfl, hfz, hnd⟩ := hW
  have hA : DataW.TrodAll enc Tryz.prog W 0 (fun _ => true) true Tryz.f5.params.toList args.toList ds p := hA0
  skip
  rw [Tryz.params5] at hA hval
  obtain ⟨v0, vs0, d0, ds0, p0, q0, hargs, rfl, rfl, h0, r0⟩ := trodAll_cons hA
  obtain ⟨v1, vs1, d1, ds1, p1, q1, rfl, rfl, rfl, h1, r1⟩ := trodAll_cons r0
  obtain ⟨v2, vs2, d2, ds2, p2, q2, rfl, rfl, rfl, h2, r2⟩ := trodAll_cons r1
  obtain ⟨v3, vs3, d3, ds3, p3, q3, rfl, rfl, rfl, h3, r3⟩ := trodAll_cons r2
  obtain ⟨v4, vs4, d4, ds4, p4, q4, rfl, rfl, rfl, h4, r4⟩ := trodAll_cons r3
  obtain ⟨rfl, rfl, rfl⟩ := trodAll_nil r4
  obtain rfl : args = #[v0, v1, v2, v3, v4] := by cases args; simp_all
  obtain ⟨rfl, rfl⟩ := trodVars_none hV
  have k0 := h0
  have lt0 : ∀ x ∈ p0, x.block < W.heap.size := by obtain ⟨m, hm⟩ := k0; exact DataW.trod_lt m _ _ _ hm
  obtain ⟨C0, rfl, w0⟩ := Fx.openCfg (hval 0 24 v0 rfl rfl) h0
  have k1 := h1
  have lt1 : ∀ x ∈ p1, x.block < W.heap.size := by obtain ⟨m, hm⟩ := k1; exact DataW.trod_lt m _ _ _ hm
  obtain ⟨a1, len1, cap1, X1, DI1, DO1, rfl, w1⟩ := Fx.openExs (hval 1 25 v1 rfl rfl) h1
  obtain ⟨a2, rfl, rfl, rfl, w2⟩ := open_int Tryz.underlying3 (hval 2 3 v2 rfl rfl) h2
  obtain ⟨a3, rfl, rfl, rfl, w3⟩ := open_int Tryz.underlying3 (hval 3 3 v3 rfl rfl) h3
  have k4 := h4
  have lt4 : ∀ x ∈ p4, x.block < W.heap.size := by obtain ⟨m, hm⟩ := k4; exact DataW.trod_lt m _ _ _ hm
  obtain ⟨E4, I4, rfl, w4⟩ := Fx.openRec (hval 4 37 v4 rfl rfl) h4
  clear hA0 hval0
  refine (Fx.auditTells_any C0 a1 len1 cap1 X1 DI1 DO1 a2 a3 E4 I4 W w0 w1 w2 w3 w4).mono fun e W' ⟨he, bel⟩ => ?_
  subst he
  exact ⟨_, rfl, _, _, _, [], _, [], hW', trodAll_mk1 (shut_bool Tryz.underlying4 _), (trodAll_cons_mk (Below.trod Fx.laidOut (by kernel_rfl) (of_decide_eq_true (by kernel_rfl)) k0 bel lt0) (trodAll_cons_mk (Below.trod Fx.laidOut (by kernel_rfl) (of_decide_eq_true (by kernel_rfl)) k1 bel lt1) (trodAll_cons_mk (shut_int Tryz.underlying3 w2) (trodAll_cons_mk (shut_int Tryz.underlying3 w3) (trodAll_cons_mk (Below.trod Fx.laidOut (by kernel_rfl) (of_decide_eq_true (by kernel_rfl)) k4 bel lt4) trodAll_mk0))))), rfl, bel.frame _, fun h => by cases h⟩

theorem over : Rows.auditTellsRow.holds Tryz.pinned (OpenSpec.ofChange Rows.auditTellsSpec) :=
  OpenClaim.holds_of_wide 5 Tryz.f5 rfl rfl rfl rfl rfl rfl rfl ⟨rfl, rfl, rfl, rfl, rfl⟩ rfl rfl rfl rfl rfl (by kernel_rfl) Tryz.func5 (by kernel_rfl)
    (of_decide_eq_true (by kernel_rfl)) (by unfold Func.isWrapper; first | (rw [if_pos (by decide +kernel)]; kernel_rfl) | (rw [if_neg (by decide +kernel)]; exact ⟨rfl, rfl⟩))
    (fun os started H enc _ => lifted os started H enc)
end Go.Proofs.YtgihnliipfdokaaGreat.auditTells

namespace Go.Proofs.YtgihnliipfdokaaGreat
theorem auditTells_holds : Rows.AuditTellsSaid := auditTells.over
end Go.Proofs.YtgihnliipfdokaaGreat
