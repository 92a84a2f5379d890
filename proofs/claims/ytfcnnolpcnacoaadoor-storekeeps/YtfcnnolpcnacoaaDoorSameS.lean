/- slices.Equal over integers, coachref.Like and SameRecords, of lists of whatever length (as the older texts EqBig and EqBigR, apart from the journal's texts). -/
import Derived.Test.YtfcnnolpcnacoaaDoorRecsD
import Derived.Test.YtfcnnolpcnacoaaDoorFives
import Derived.Test.YtfcnnolpcnacoaaDoorFixWalks
import Derived.Lib.SmallJoins
import Derived.BigQuiet
import Derived.Deep.QuietTactic
namespace Go.Proofs.YtfcnnolpcnacoaaDoor.Fx
open Go.RowKit

theorem eq_of_getDZ {xs ys : List Int} {n : Nat} (hx : xs.length = n) (hy : ys.length = n) (h : ∀ j, j < n → xs.getD j 0 = ys.getD j 0) : xs = ys := by
  refine List.ext_getElem (by omega) (fun i h1 h2 => ?_)
  have := h i (by omega)
  rw [List.getD_eq_getElem?_getD, List.getD_eq_getElem?_getD, List.getElem?_eq_getElem h1, List.getElem?_eq_getElem h2] at this
  exact this

/-- Are two records the same, but for the chain? -/
def likeZ (x y : Rcm) (xs ys : List Int) : Bool := decide (x.s = y.s) && decide (x.r = y.r) && decide (x.root = y.root) && decide (xs = ys)
def recZ (x y : Rcm) (xs ys : List Int) : Bool := likeZ x y xs ys && decide (x.chain = y.chain)
def recsZ (n m : Nat) (X Y : Nat → Rcm) (DX DY : Nat → List Int) : Bool := decide (n = m) && (List.range n).all fun i => recZ (X i) (Y i) (DX i) (DY i)
theorem beq_decZ (x y : Int) : (x == y) = decide (x = y) := by
  by_cases h : x = y
  · rw [decide_eq_true h]; simpa using h
  · rw [decide_eq_false h]; simpa using h

set_option maxHeartbeats 400000 in
theorem eqZ_calls (a b : Option Addr) (la ca lb cb : Nat) (xs ys : List Int) (w : World) (ha : Lst w a la ca xs) (hb : Lst w b lb cb ys) (h63 : la ≤ 9223372036854775807) :
    Calls Tryd.prog 37 #[.slice a la ca, .slice b lb cb] w fun e w' => e = .returned (.bool (decide (xs = ys))) ∧ ∃ k, w' = w.drewN k := by
  by_cases hl : la = lb
  · subst hl
    have hab : ((la : Int) != (la : Int)) = false := by simp
    go_enter Tryd.func37, Tryd.ntmps37
    go_wp2
    go_loopw [13] (fun i wr => ∃ k n : Nat, k ≤ la ∧ i = .int .i64 k ∧ Hid (∀ j, j < k → xs.getD j 0 = ys.getD j 0) ∧ wr = w.drewN n) (fun i _ => la - (intOf i).toNat)
    case atStart => exact ⟨0, 0, Nat.zero_le _, rfl, fun j hj => by omega, rfl⟩
    case round =>
      obtain ⟨k, n, hk, rfl, he, rfl⟩ := hrel
      by_cases hlt : k < la
      · obtain ⟨b1, o1, x, rfl, _, c1, HX⟩ := ha.at1 hlt
        obtain ⟨b2, o2, y, rfl, _, c2, HY⟩ := hb.at1 hlt
        by_cases hxy : x = y
        · subst hxy
          have hne : (x != x) = false := by simp
          go_wp2
          go_quiet (fail)
          go_wp2
          go_roundw
          case rel => exact ⟨k + 1, _, by omega, by go_num, fun j hj => by
            by_cases e : j = k
            · subst e; rw [HX.out, HY.out]
            · exact he.out j (by omega), rfl⟩
          case measure => simp [intOf]; omega
        · have hne : (x != y) = true := by simpa using hxy
          go_wp2
          go_quiet (fail)
          go_wp2
          go_ret
          refine ⟨ret_bool ?_, _, World.drewN_drewN _ _ _⟩
          exact (decide_eq_false (fun e => hxy (by rw [← HX.out, ← HY.out, e]))).symm
      · go_wp2
        go_ret
        refine ⟨ret_bool ?_, _, rfl⟩
        exact (decide_eq_true (eq_of_getDZ ha.len hb.len (fun j hj => he.out j (by omega)))).symm
  · have hab : ((la : Int) != (lb : Int)) = true := by rw [bne_iff_ne]; omega
    go_enter Tryd.func37, Tryd.ntmps37
    go_wp2
    go_ret
    refine ⟨ret_bool ?_, 0, rfl⟩
    exact (decide_eq_false (fun e => hl (by rw [← ha.len, ← hb.len, e]))).symm

set_option maxRecDepth 100000 in
set_option maxHeartbeats 1600000 in
theorem rlikeZ_calls (x y : Rcm) (xs ys : List Int) (w : World) (l1 : Lst w x.a x.n x.k xs) (l2 : Lst w y.a y.n y.k ys) (hn : x.n ≤ 9223372036854775807) :
    Calls Tryd.prog 27 #[x.val, y.val] w fun e w' => e = .returned (.bool (likeZ x y xs ys)) ∧ Below w.heap.size w w' := by
  have hal := (Joins.below_alloc1 w (.cells x.cells 31)).trans ((Joins.below_alloc1 (w.alloc (.cells x.cells 31)) (.cells y.cells 31)).mono (Joins.below_alloc1 w (.cells x.cells 31)).size)
  have m1 := l1.below hal (Nat.le_refl _)
  have m2 := l2.below hal (Nat.le_refl _)
  unfold likeZ
  clear l1 l2
  obtain ⟨s, a, n, k, r, root, chain⟩ := x
  obtain ⟨s', a', n', k', r', root', chain'⟩ := y
  simp only [Rcm.val, Rcm.cells] at *
  by_cases h1 : s = s'
  rotate_left
  · have qh1 : (s == s') = false := by simpa using h1
    go_enter Tryd.func27, Tryd.ntmps27
    go_wp2_with fail
    go_ret
    exact ⟨ret_bool (by simp [h1]), hal⟩
  have qh1 : (s == s') = true := by simpa using h1
  by_cases h2 : r = r'
  rotate_left
  · have qh2 : (r == r') = false := by simpa using h2
    clear h1
    go_enter Tryd.func27, Tryd.ntmps27
    go_wp2_with fail
    go_ret
    exact ⟨ret_bool (by simp [h2]), hal⟩
  have qh2 : (r == r') = true := by simpa using h2
  by_cases h3 : root = root'
  rotate_left
  · have qh3 : (root == root') = false := by simpa using h3
    clear h1 h2
    go_enter Tryd.func27, Tryd.ntmps27
    go_wp2_with fail
    go_ret
    exact ⟨ret_bool (by simp [h3]), hal⟩
  have qh3 : (root == root') = true := by simpa using h3
  have HL : Hid ((decide (s = s') && decide (r = r') && decide (root = root') && decide (xs = ys)) = decide (xs = ys)) := by show _ = _; rw [decide_eq_true h1, decide_eq_true h2, decide_eq_true h3]; simp
  clear h1 h2 h3
  go_enter Tryd.func27, Tryd.ntmps27
  go_wp2_with fail
  refine (eqZ_calls _ _ _ _ _ _ xs ys _ m1 m2 (by omega)).mono ?_
  rintro e w1 ⟨rfl, k5, hw5⟩
  subst hw5
  go_wp2_with fail
  go_ret
  exact ⟨ret_bool (by rw [HL.out]), below_drewN hal _⟩

set_option maxRecDepth 100000 in
set_option maxHeartbeats 1600000 in
theorem rsame1Z_calls (x y : Rcm) (xs ys : List Int) (w : World) (l1 : Lst w x.a x.n x.k xs) (l2 : Lst w y.a y.n y.k ys) (hn : x.n ≤ 9223372036854775807) :
    Calls Tryd.prog 26 #[x.val, y.val] w fun e w' => e = .returned (.bool (recZ x y xs ys)) ∧ Below w.heap.size w w' := by
  have ha1 := Joins.below_alloc1 w (.cells x.cells 31)
  have hal := ha1.trans ((Joins.below_alloc1 (w.alloc (.cells x.cells 31)) (.cells y.cells 31)).mono ha1.size)
  have HLK : Hid (Calls Tryd.prog 27 #[x.val, y.val] ((w.alloc (.cells x.cells 31)).alloc (.cells y.cells 31)) fun e w' => e = .returned (.bool (likeZ x y xs ys)) ∧ Below ((w.alloc (.cells x.cells 31)).alloc (.cells y.cells 31)).heap.size ((w.alloc (.cells x.cells 31)).alloc (.cells y.cells 31)) w') := rlikeZ_calls x y xs ys _ (l1.below hal (Nat.le_refl _)) (l2.below hal (Nat.le_refl _)) hn
  have rx := (fn5_alloc w (.int .i64 x.s) (.slice x.a x.n x.k) (.int .i64 x.r) (.int .u64 x.root) (.int .u64 x.chain) 31).alloc (.cells y.cells 31)
  have ry := fn5_alloc (w.alloc (.cells x.cells 31)) (.int .i64 y.s) (.slice y.a y.n y.k) (.int .i64 y.r) (.int .u64 y.root) (.int .u64 y.chain) 31
  unfold recZ
  clear l1 l2 ha1
  generalize likeZ x y xs ys = LB at *
  obtain ⟨s, a, n, k, r, root, chain⟩ := x
  obtain ⟨s', a', n', k', r', root', chain'⟩ := y
  simp only [Rcm.val, Rcm.cells] at *
  simp at ry
  cases LB with
  | false =>
    go_enter Tryd.func26, Tryd.ntmps26
    go_wp2_with fail
    refine HLK.out.mono ?_
    rintro e w1 ⟨rfl, hw1⟩
    go_wp2_with fail
    go_ret
    exact ⟨rfl, hal.trans (hw1.mono hal.size)⟩
  | true =>
    go_enter Tryd.func26, Tryd.ntmps26
    go_wp2_with fail
    refine HLK.out.mono ?_
    rintro e w1 ⟨rfl, hw1⟩
    have x4 := (fn5_box (rx.of_block (hw1.block _ rx.lt))).c4
    have y4 := (fn5_box (ry.of_block (hw1.block _ ry.lt))).c4
    go_wp2_with fail
    go_ret
    exact ⟨ret_bool (by rw [Bool.true_and]; exact beq_decZ _ _), hal.trans (hw1.mono hal.size)⟩

set_option maxRecDepth 100000 in
set_option maxHeartbeats 3200000 in
theorem eqrZ_calls (a b : Option Addr) (n m c1 c2 : Nat) (X Y : Nat → Rcm) (DX DY : Nat → List Int) (w : World) (hx : Recs w a n c1 X DX) (hy : Recs w b m c2 Y DY) (hn : n ≤ 1000000000000000) (hxn : ∀ j, j < n → (X j).n ≤ 9223372036854775807) :
    Calls Tryd.prog 25 #[.slice a n c1, .slice b m c2, .func (.func 26) #[] #[]] w fun e w' => e = .returned (.bool (recsZ n m X Y DX DY)) ∧ Below w.heap.size w w' := by
  by_cases hnm : n = m
  · subst hnm
    have hne : ((n : Int) != (n : Int)) = false := by simp
    have HXN : Hid (∀ j, j < n → (X j).n ≤ 9223372036854775807) := hxn
    have HOK : Hid ((∀ j, j < n → recZ (X j) (Y j) (DX j) (DY j) = true) → recsZ n n X Y DX DY = true) := fun h => by
      unfold recsZ
      rw [decide_eq_true rfl, Bool.true_and, List.all_eq_true]
      exact fun i hi => h i (List.mem_range.1 hi)
    have HBAD : Hid (∀ j, j < n → recZ (X j) (Y j) (DX j) (DY j) = false → recsZ n n X Y DX DY = false) := fun j hj h => by
      unfold recsZ
      rw [decide_eq_true rfl, Bool.true_and, List.all_eq_false]
      exact ⟨j, List.mem_range.2 hj, by rw [h]; decide⟩
    generalize recsZ n n X Y DX DY = RB at *
    clear hxn
    go_enter Tryd.func25, Tryd.ntmps25
    go_wp2_with fail
    go_loopw [17] (fun v wr => ∃ k : Nat, k ≤ n ∧ v = .int .i64 k ∧ Hid (∀ j, j < k → recZ (X j) (Y j) (DX j) (DY j) = true) ∧ Below w.heap.size w wr) (fun v _ => n - (intOf v).toNat)
    case atStart => exact ⟨0, Nat.zero_le _, rfl, fun j hj => by omega, Below.refl _ _⟩
    case round =>
      obtain ⟨k, hk, rfl, hg, hbel⟩ := hrel
      have hx1 := hx.below hbel (Nat.le_refl _)
      have hy1 := hy.below hbel (Nat.le_refl _)
      by_cases hlt : k < n
      · have hlen := HXN.out k hlt
        rcases hx1.2 with h0 | ⟨xb, xo, rfl, _, hc⟩
        · omega
        rcases hy1.2 with h0 | ⟨yb, yo, rfl, _, hd⟩
        · omega
        obtain ⟨e0, e1, e2, e3, e4, lx⟩ := hc k hlt
        obtain ⟨f0, f1, f2, f3, f4, ly⟩ := hd k hlt
        have hbad := HBAD.out k hlt
        have hgood : recZ (X k) (Y k) (DX k) (DY k) = true → ∀ j, j < k + 1 → recZ (X j) (Y j) (DX j) (DY j) = true := fun g j hj => by
          by_cases e : j = k
          · subst e; exact g
          · exact hg.out j (by omega)
        obtain ⟨x, hxk⟩ : ∃ x, X k = x := ⟨_, rfl⟩
        obtain ⟨y, hyk⟩ : ∃ y, Y k = y := ⟨_, rfl⟩
        rw [hxk] at e0 e1 e2 e3 e4 lx hlen hbad hgood
        rw [hyk] at f0 f1 f2 f3 f4 ly hbad hgood
        have ha := Joins.below_alloc1 wr (.cells x.cells 31)
        have ha2 := ha.trans ((Joins.below_alloc1 (wr.alloc (.cells x.cells 31)) (.cells y.cells 31)).mono ha.size)
        have SM : Calls Tryd.prog 26 #[x.val, y.val] ((wr.alloc (.cells x.cells 31)).alloc (.cells y.cells 31)) fun e w' => e = .returned (.bool (recZ x y (DX k) (DY k))) ∧ Below ((wr.alloc (.cells x.cells 31)).alloc (.cells y.cells 31)).heap.size ((wr.alloc (.cells x.cells 31)).alloc (.cells y.cells 31)) w' := rsame1Z_calls x y (DX k) (DY k) _ (lx.below ha2 (Nat.le_refl _)) (ly.below ha2 (Nat.le_refl _)) hlen
        have g0 := (ha.cell (p := ⟨yb, yo + k * 5, none⟩) (cell_lt f0)).trans f0
        have g1 := (ha.cell (p := ⟨yb, yo + k * 5 + 1, none⟩) (cell_lt f1)).trans f1
        have g2 := (ha.cell (p := ⟨yb, yo + k * 5 + 2, none⟩) (cell_lt f2)).trans f2
        have g3 := (ha.cell (p := ⟨yb, yo + k * 5 + 3, none⟩) (cell_lt f3)).trans f3
        have g4 := (ha.cell (p := ⟨yb, yo + k * 5 + 4, none⟩) (cell_lt f4)).trans f4
        have kn : (k : Int) < (n : Int) := by omega
        have HB : Hid (recZ x y (DX k) (DY k) = false → RB = false) := hbad
        have HG : Hid (recZ x y (DX k) (DY k) = true → ∀ j, j < k + 1 → recZ (X j) (Y j) (DX j) (DY j) = true) := hgood
        clear hx hy hx1 hy1 hxk hyk lx ly hlen HXN hc hd f0 f1 f2 f3 f4 hbad hgood hg
        generalize recZ x y (DX k) (DY k) = QB at *
        obtain ⟨s, ax, nx, kx, r, root, chain⟩ := x
        obtain ⟨s', ay, ny, ky, r', root', chain'⟩ := y
        simp only [Rcm.val, Rcm.cells] at *
        cases QB with
        | false =>
          go_wp2_with fail
          refine SM.mono ?_
          rintro e w1 ⟨rfl, hw1⟩
          go_wp2_with fail
          go_ret
          exact ⟨ret_bool (HB.out (by trivial)).symm, hbel.trans ((ha2.trans (hw1.mono ha2.size)).mono hbel.size)⟩
        | true =>
          go_wp2_with fail
          refine SM.mono ?_
          rintro e w1 ⟨rfl, hw1⟩
          have hb1 := hbel.trans ((ha2.trans (hw1.mono ha2.size)).mono hbel.size)
          go_wp2_with fail
          go_roundw
          case rel => exact ⟨k + 1, by omega, by go_num, HG.out (by trivial), hb1⟩
          case measure => simp [intOf]; omega
      · obtain rfl : k = n := by omega
        go_wp2_with fail
        go_ret
        exact ⟨ret_bool (HOK.out hg.out).symm, hbel⟩
  · have hne : ((n : Int) != (m : Int)) = true := by rw [bne_iff_ne]; omega
    have HR : Hid (recsZ n m X Y DX DY = false) := by show recsZ n m X Y DX DY = false; unfold recsZ; rw [decide_eq_false hnm, Bool.false_and]
    clear hx hy hxn hnm
    go_enter Tryd.func25, Tryd.ntmps25
    go_wp2_with fail
    go_ret
    exact ⟨ret_bool HR.out.symm, Below.refl _ _⟩

theorem rsameRZ_calls (a b : Option Addr) (n m c1 c2 : Nat) (X Y : Nat → Rcm) (DX DY : Nat → List Int) (w : World) (hx : Recs w a n c1 X DX) (hy : Recs w b m c2 Y DY) (hn : n ≤ 1000000000000000) (hxn : ∀ j, j < n → (X j).n ≤ 9223372036854775807) :
    Calls Tryd.prog 15 #[.slice a n c1, .slice b m c2] w fun e w' => e = .returned (.bool (recsZ n m X Y DX DY)) ∧ Below w.heap.size w w' := by
  have K := eqrZ_calls a b n m c1 c2 X Y DX DY w hx hy hn hxn
  clear hx hy hn hxn
  go_enter Tryd.func15, Tryd.ntmps15
  go_wp2_with fail
  refine K.mono ?_
  rintro e w1 ⟨rfl, hw1⟩
  go_wp2_with fail
  go_ret
  exact ⟨rfl, hw1⟩
end Go.Proofs.YtfcnnolpcnacoaaDoor.Fx
