/- What audit.Whole returns, whatever is handed in. -/
import Derived.Test.YtfcnnolpcnacoaaGreatDoorJ35
namespace Go.Proofs.YtfcnnolpcnacoaaGreatDoor.Fx
open Go.RowKit

set_option maxRecDepth 100000 in
set_option maxHeartbeats 1600000 in
theorem whole_calls (c : Cfg) (hs : okW c.seed) (a : Option Addr) (n cap : Nat) (X : Nat → Exm) (DI DO : Nat → List Int) (la : Option Addr) (ln lc : Nat) (L : Nat → Rcm) (DL : Nat → List Int) (w : World) (hx : Exs w a n cap X DI DO) (hl : Recs w la ln lc L DL) (hL : ∀ j, j < ln → (L j).n ≤ 9223372036854775807) :
    Calls Tryz.prog 16 #[c.val, .slice a n cap, .slice la ln lc] w fun e w' => e = .returned (.tuple #[.int .i64 (whN c n X DI DO ln L DL : Nat), .int .i64 (whE c n X DI DO ln)]) ∧ Below w.heap.size w w' := by
  have hal := low_alloc w (.cells c.cells 24)
  have CK := tcheck_calls c a n cap X DI DO _ (hx.below hal (Nat.le_refl _))
  have KB : Hid (∀ q, Below (w.alloc (.cells c.cells 24)).heap.size (w.alloc (.cells c.cells 24)) q → BoxC q w.heap.size c) := fun q hq => boxC hq (by simp)
  by_cases h0 : courseI c n X DI DO = 0
  · by_cases hm : (ln : Int) ≤ c.steps
    · have hE : whE c n X DI DO ln = 0 := by unfold whE; rw [if_pos h0, if_pos hm]
      have hN : whN c n X DI DO ln L DL = firstNo (auB c n DI DO L DL) ln := by unfold whN; rw [if_pos hE]
      rw [hE, hN]
      exact whole_good c hs a n cap X DI DO la ln lc L DL w hx hl hL h0 hm
    · have hE : whE c n X DI DO ln = 2 := by unfold whE; rw [if_pos h0, if_neg hm]
      have hN : whN c n X DI DO ln L DL = 0 := by unfold whN; rw [hE, if_neg (by decide)]
      rw [hE, hN]
      rw [h0] at CK
      have z1 : c.steps < (ln : Int) := by omega
      clear hE hN hx hl hL hs h0 hm
      obtain ⟨i, h, o, seed, batch, steps, crate, decay, how, keep, clip⟩ := c
      simp only [Cfg.val, Cfg.cells] at *
      obtain ⟨c0, c1, c2, c3, c4, c5, c6, c7, c8, c9, c10⟩ := KB.out _ (Below.refl _ _)
      dsimp only at c0 c1 c2 c3 c4 c5 c6 c7 c8 c9 c10
      go_enter Tryz.func16, Tryz.ntmps16
      go_wp2_with fail
      refine CK.mono ?_
      rintro e w1 ⟨rfl, hw1⟩
      clear c0 c1 c2 c3 c4 c5 c6 c7 c8 c9 c10
      obtain ⟨c0, c1, c2, c3, c4, c5, c6, c7, c8, c9, c10⟩ := KB.out _ hw1
      dsimp only at c0 c1 c2 c3 c4 c5 c6 c7 c8 c9 c10
      have T1 := hal.trans (hw1.mono hal.size)
      go_wp2_with fail
      go_ret2
      exact ⟨rfl, T1⟩
  · have hE : whE c n X DI DO ln = courseI c n X DI DO := by unfold whE; rw [if_neg h0]
    have hN : whN c n X DI DO ln L DL = 0 := by unfold whN; rw [hE, if_neg h0]
    have hb : (courseI c n X DI DO != 0) = true := by rw [bne_iff_ne]; exact h0
    rw [hE, hN]
    generalize courseI c n X DI DO = E at *
    clear hE hN hx hl hL hs
    obtain ⟨i, h, o, seed, batch, steps, crate, decay, how, keep, clip⟩ := c
    simp only [Cfg.val, Cfg.cells] at *
    obtain ⟨c0, c1, c2, c3, c4, c5, c6, c7, c8, c9, c10⟩ := KB.out _ (Below.refl _ _)
    dsimp only at c0 c1 c2 c3 c4 c5 c6 c7 c8 c9 c10
    go_enter Tryz.func16, Tryz.ntmps16
    go_wp2_with fail
    refine CK.mono ?_
    rintro e w1 ⟨rfl, hw1⟩
    go_wp2_with fail
    go_ret2
    exact ⟨rfl, hal.trans (hw1.mono hal.size)⟩
end Go.Proofs.YtfcnnolpcnacoaaGreatDoor.Fx

/- Of a journal that is as journal.Make makes it audit.Whole tells how many records there are. -/
namespace Go.Proofs.YtfcnnolpcnacoaaGreatDoor.Fx
open Go.RowKit

theorem likeB_same (x y : Rcm) (xs : List Int) (h1 : x.s = y.s) (h2 : x.r = y.r) (h3 : x.root = y.root) : likeB x y xs xs = true := by
  unfold likeB
  rw [decide_eq_true h1, decide_eq_true h2, decide_eq_true h3, decide_eq_true rfl]; rfl
theorem auB_own {c : Cfg} {n : Nat} {DI DO : Nat → List Int} {m : Nat} {R : Nat → Rcm} (h : JrN m R (mkRV c) (mkRO c n DI DO) (mkCH c n DI DO)) {j : Nat} (hj : j < m) : auB c n DI DO R (jrBatch c n) j = true := by
  rw [auB_is h R (jrBatch c n) hj]
  unfold recB
  rw [likeB_same _ _ _ rfl rfl rfl, decide_eq_true rfl]; rfl
theorem whole_own (c : Cfg) (hs : okW c.seed) (a : Option Addr) (n cap : Nat) (X : Nat → Exm) (DI DO : Nat → List Int) (la : Option Addr) (ln lc : Nat) (R : Nat → Rcm) (w : World) (hx : Exs w a n cap X DI DO) (hl : Recs w la ln lc R (jrBatch c n)) (hL : ∀ j, j < ln → (R j).n ≤ 8) (h0 : courseI c n X DI DO = 0) (hm : (ln : Int) ≤ c.steps) (hJ : JrN ln R (mkRV c) (mkRO c n DI DO) (mkCH c n DI DO)) :
    Calls Tryz.prog 16 #[c.val, .slice a n cap, .slice la ln lc] w fun e w' => e = .returned (.tuple #[.int .i64 ln, .int .i64 0]) ∧ Below w.heap.size w w' := by
  have h := whole_good c hs a n cap X DI DO la ln lc R (jrBatch c n) w hx hl (fun j hj => Nat.le_trans (hL j hj) (by decide)) h0 hm
  rw [firstNo_eq _ ln ln (Nat.le_refl _) (fun j hj => auB_own hJ hj) (fun h => by omega)] at h
  exact h
end Go.Proofs.YtfcnnolpcnacoaaGreatDoor.Fx

/- A list of records with one bent record in it: how it lies, and which record is the first that is not as it was made. -/
namespace Go.Proofs.YtfcnnolpcnacoaaGreatDoor.Fx
open Go.RowKit

/-- The list with that record put in the place of number K. -/
def bentR (R : Nat → Rcm) (K : Nat) (x : Rcm) (j : Nat) : Rcm := if j = K then x else R j
def bentD (D : Nat → List Int) (K : Nat) (xs : List Int) (j : Nat) : List Int := if j = K then xs else D j
theorem rcsR_put {w : World} {b t n K N : Nat} {R : Nat → Rcm} (h : w.rowIs b t n (rcsR R N)) (x : Rcm) (hK : K < N) :
    (((((w.setCell ⟨b, K * 5, none⟩ (.int .i64 x.s)).setCell ⟨b, K * 5 + 1, none⟩ (.slice x.a x.n x.k)).setCell ⟨b, K * 5 + 2, none⟩ (.int .i64 x.r)).setCell ⟨b, K * 5 + 3, none⟩ (.int .u64 x.root)).setCell ⟨b, K * 5 + 4, none⟩ (.int .u64 x.chain)).rowIs b t n (rcsR (bentR R K x) N) := by
  refine (((((h.set (K * 5) (.int .i64 x.s)).set (K * 5 + 1) (.slice x.a x.n x.k)).set (K * 5 + 2) (.int .i64 x.r)).set (K * 5 + 3) (.int .u64 x.root)).set (K * 5 + 4) (.int .u64 x.chain)).congr (fun i hi => ?_)
  unfold rcsR
  by_cases h0 : i < N * 5
  · rw [if_pos h0]
    by_cases e : i / 5 = K
    · have hb : bentR R K x (i / 5) = x := by unfold bentR; rw [if_pos e]
      rw [hb]
      rcases lt5 (Nat.mod_lt i (show 0 < 5 by omega)) with hm | hm | hm | hm | hm
      · rw [if_neg (by omega), if_neg (by omega), if_neg (by omega), if_neg (by omega), if_pos (by omega), hm, if_pos h0]; rfl
      · rw [if_neg (by omega), if_neg (by omega), if_neg (by omega), if_pos (by omega), hm, if_pos h0]; rfl
      · rw [if_neg (by omega), if_neg (by omega), if_pos (by omega), hm, if_pos h0]; rfl
      · rw [if_neg (by omega), if_pos (by omega), hm, if_pos h0]; rfl
      · rw [if_pos (by omega), hm, if_pos h0]; rfl
    · have hb : bentR R K x (i / 5) = R (i / 5) := by unfold bentR; rw [if_neg e]
      rw [hb, if_neg (by omega), if_neg (by omega), if_neg (by omega), if_neg (by omega), if_neg (by omega), if_pos h0]
  · rw [if_neg h0, if_neg (by omega), if_neg (by omega), if_neg (by omega), if_neg (by omega), if_neg (by omega), if_neg h0]
theorem recs_bent {w : World} {g base B N K : Nat} {R : Nat → Rcm} {DG : Nat → Nat → Int} {x : Rcm} {xs : List Int} (h : w.rowIs g 40 (N * 5) (rcsR (bentR R K x) N)) (hj : JrIn w g base B N R DG) (hl : Lst w x.a x.n x.k xs) : Recs w (some ⟨g, 0, none⟩) N N (bentR R K x) (bentD (fun k => (List.range B).map (DG k)) K xs) := by
  refine ⟨Nat.le_refl _, .inr ⟨g, 0, rfl, h.lt, fun i hi => ?_⟩⟩
  rw [Nat.zero_add]
  refine ⟨rcsR_cell h hi (Nat.le_refl _) (i := 0) (by omega), rcsR_cell h hi (Nat.le_refl _) (i := 1) (by omega), rcsR_cell h hi (Nat.le_refl _) (i := 2) (by omega), rcsR_cell h hi (Nat.le_refl _) (i := 3) (by omega), rcsR_cell h hi (Nat.le_refl _) (i := 4) (by omega), ?_⟩
  by_cases e : i = K
  · unfold bentR bentD
    rw [if_pos e, if_pos e]
    exact hl
  · obtain ⟨h1, h2, bg, h3, _, _, ha⟩ := hj i hi
    unfold bentR bentD
    rw [if_neg e, if_neg e, h1, h2, h3]
    exact ha.lst
theorem one_recs {w : World} (x : Rcm) (xs : List Int) (h : Lst w x.a x.n x.k xs) : Recs (w.alloc (.cells x.cells 40)) (some ⟨w.heap.size, 0, none⟩) 1 1 (fun _ => x) (fun _ => xs) := by
  obtain ⟨b0, b1, b2, b3, b4⟩ := fn5_box (fn5_alloc w (.int .i64 x.s) (.slice x.a x.n x.k) (.int .i64 x.r) (.int .u64 x.root) (.int .u64 x.chain) 40)
  refine ⟨Nat.le_refl _, .inr ⟨w.heap.size, 0, rfl, by simp, fun i hi => ?_⟩⟩
  obtain rfl : i = 0 := by omega
  exact ⟨b0, b1, b2, b3, b4, h.below (low_alloc w _) (Nat.le_refl _)⟩
theorem part_recs {w : World} {g N : Nat} {R : Nat → Rcm} {D : Nat → List Int} (h : Recs w (some ⟨g, 0, none⟩) N N R D) (K : Nat) (hK : K < N) : Recs w (some ⟨g, K * 5, none⟩) 1 (N - K) (fun _ => R K) (fun _ => D K) := by
  obtain ⟨b, off, e, hc⟩ := h.at (by omega)
  simp only [Option.some.injEq, Addr.mk.injEq, and_true] at e
  obtain ⟨rfl, rfl⟩ := e
  have hh := hc K hK
  rw [Nat.zero_add] at hh
  refine ⟨by omega, .inr ⟨g, K * 5, rfl, cell_lt hh.1, fun i hi => ?_⟩⟩
  obtain rfl : i = 0 := by omega
  rw [Nat.zero_mul, Nat.add_zero]
  exact hh
theorem one_same (x y : Rcm) (xs ys : List Int) : recsB 1 1 (fun _ => x) (fun _ => y) (fun _ => xs) (fun _ => ys) = recB x y xs ys := by
  unfold recsB
  rw [decide_eq_true rfl, Bool.true_and]
  simp [List.range_succ]
/-- Of a list with one bent record the first that is not as it was made is that one, or there is none. -/
theorem first_bent {c : Cfg} {n : Nat} {DI DO : Nat → List Int} {m : Nat} {R : Nat → Rcm} (h : JrN m R (mkRV c) (mkRO c n DI DO) (mkCH c n DI DO)) (x : Rcm) (xs : List Int) {K : Nat} (hK : K < m) :
    firstNo (auB c n DI DO (bentR R K x) (bentD (jrBatch c n) K xs)) m = if recB x (R K) xs (jrBatch c n K) = true then m else K := by
  have hne : ∀ j, j < m → j ≠ K → auB c n DI DO (bentR R K x) (bentD (jrBatch c n) K xs) j = true := fun j hj e => by
    have h1 := auB_own h hj
    unfold auB at h1 ⊢
    unfold bentR bentD
    rw [if_neg e, if_neg e]
    exact h1
  have heq : auB c n DI DO (bentR R K x) (bentD (jrBatch c n) K xs) K = recB x (R K) xs (jrBatch c n K) := by
    rw [auB_is h _ _ hK]
    unfold bentR bentD
    rw [if_pos rfl, if_pos rfl]
  by_cases hr : recB x (R K) xs (jrBatch c n K) = true
  · rw [if_pos hr]
    refine firstNo_eq _ m m (Nat.le_refl _) (fun j hj => ?_) (fun h => by omega)
    by_cases e : j = K
    · subst e; rw [heq]; exact hr
    · exact hne j hj e
  · rw [if_neg hr]
    refine firstNo_eq _ m K (by omega) (fun j hj => hne j (by omega) (by omega)) (fun _ => ?_)
    rw [heq]
    exact Bool.not_eq_true _ ▸ hr

end Go.Proofs.YtfcnnolpcnacoaaGreatDoor.Fx
