/- slices.Equal over integers, coachref.Like and SameRecords, of lists of whatever length (as the older texts EqBig and EqBigR, apart from the journal's texts). -/
import Derived.Test.YtfcnnolpcnacoaaGreatDoorJ26
import Derived.Test.YtfcnnolpcnacoaaGreatDoorJ11
import Derived.Test.YtfcnnolpcnacoaaGreatDoorJ03
import Derived.Lib.SmallJoins
import Derived.BigQuiet
import Derived.Deep.QuietTactic
import Derived.Test.YtfcnnolpcnacoaaGreatDoorJ43
namespace Go.Proofs.YtfcnnolpcnacoaaGreatDoor.Fx
open Go.RowKit

theorem eq_of_getDZ {xs ys : List Int} {n : Nat} (hx : xs.length = n) (hy : ys.length = n) (h : ∀ j, j < n → xs.getD j 0 = ys.getD j 0) : xs = ys := by
  refine List.ext_getElem (by omega) (fun i h1 h2 => ?_)
  have := h i (by omega)
  rw [List.getD_eq_getElem?_getD, List.getD_eq_getElem?_getD, List.getElem?_eq_getElem h1, List.getElem?_eq_getElem h2] at this
  exact this

/-- Are two records the same, but for the chain? -/
def likeZ (x y : Rcm) (xs ys : List Int) : Bool := decide (x.s = y.s) && decide (x.r = y.r) && decide (x.root = y.root) && decide (xs = ys)
def recZ (x y : Rcm) (xs ys : List Int) : Bool := likeZ x y xs ys && decide (x.chain = y.chain)
def recsZ (n m : Nat) (X Y : Nat → Rcm) (DX DY : Nat → List Int) : Bool := decide (n = m) && (List.range n).all fun i => recZ (X i) (Y i) (DX i) (DY i)
theorem beq_decZ (x y : Int) : (x == y) = decide (x = y) := by
  by_cases h : x = y
  · rw [decide_eq_true h]; simpa using h
  · rw [decide_eq_false h]; simpa using h

set_option maxHeartbeats 400000 in
theorem eqZ_calls (a b : Option Addr) (la ca lb cb : Nat) (xs ys : List Int) (w : World) (ha : Lst w a la ca xs) (hb : Lst w b lb cb ys) (h63 : la ≤ 9223372036854775807) :
    Calls Tryz.prog 42 #[.slice a la ca, .slice b lb cb] w fun e w' => e = .returned (.bool (decide (xs = ys))) ∧ ∃ k, w' = w.drewN k := by
  by_cases hl : la = lb
  · subst hl
    have hab : ((la : Int) != (la : Int)) = false := by simp
    go_enter Tryz.func42, Tryz.ntmps42
    go_wp2
    go_loopw [13] (fun i wr => ∃ k n : Nat, k ≤ la ∧ i = .int .i64 k ∧ Hid (∀ j, j < k → xs.getD j 0 = ys.getD j 0) ∧ wr = w.drewN n) (fun i _ => la - (intOf i).toNat)
    case atStart => exact ⟨0, 0, Nat.zero_le _, rfl, fun j hj => by omega, rfl⟩
    case round =>
      obtain ⟨k, n, hk, rfl, he, rfl⟩ := hrel
      by_cases hlt : k < la
      · obtain ⟨b1, o1, x, rfl, _, c1, HX⟩ := ha.at1 hlt
        obtain ⟨b2, o2, y, rfl, _, c2, HY⟩ := hb.at1 hlt
        by_cases hxy : x = y
        · subst hxy
          have hne : (x != x) = false := by simp
          go_wp2
          go_quiet (fail)
          go_wp2
          go_roundw
          case rel => exact ⟨k + 1, _, by omega, by go_num, fun j hj => by
            by_cases e : j = k
            · subst e; rw [HX.out, HY.out]
            · exact he.out j (by omega), rfl⟩
          case measure => simp [intOf]; omega
        · have hne : (x != y) = true := by simpa using hxy
          go_wp2
          go_quiet (fail)
          go_wp2
          go_ret
          refine ⟨ret_bool ?_, _, World.drewN_drewN _ _ _⟩
          exact (decide_eq_false (fun e => hxy (by rw [← HX.out, ← HY.out, e]))).symm
      · go_wp2
        go_ret
        refine ⟨ret_bool ?_, _, rfl⟩
        exact (decide_eq_true (eq_of_getDZ ha.len hb.len (fun j hj => he.out j (by omega)))).symm
  · have hab : ((la : Int) != (lb : Int)) = true := by rw [bne_iff_ne]; omega
    go_enter Tryz.func42, Tryz.ntmps42
    go_wp2
    go_ret
    refine ⟨ret_bool ?_, 0, rfl⟩
    exact (decide_eq_false (fun e => hl (by rw [← ha.len, ← hb.len, e]))).symm

set_option maxRecDepth 100000 in
set_option maxHeartbeats 1600000 in
theorem rlikeZ_calls (x y : Rcm) (xs ys : List Int) (w : World) (l1 : Lst w x.a x.n x.k xs) (l2 : Lst w y.a y.n y.k ys) (hn : x.n ≤ 9223372036854775807) :
    Calls Tryz.prog 26 #[x.val, y.val] w fun e w' => e = .returned (.bool (likeZ x y xs ys)) ∧ Below w.heap.size w w' := by
  have hal := (Joins.below_alloc1 w (.cells x.cells 40)).trans ((Joins.below_alloc1 (w.alloc (.cells x.cells 40)) (.cells y.cells 40)).mono (Joins.below_alloc1 w (.cells x.cells 40)).size)
  have m1 := l1.below hal (Nat.le_refl _)
  have m2 := l2.below hal (Nat.le_refl _)
  unfold likeZ
  clear l1 l2
  obtain ⟨s, a, n, k, r, root, chain⟩ := x
  obtain ⟨s', a', n', k', r', root', chain'⟩ := y
  simp only [Rcm.val, Rcm.cells] at *
  by_cases h1 : s = s'
  rotate_left
  · have qh1 : (s == s') = false := by simpa using h1
    go_enter Tryz.func26, Tryz.ntmps26
    go_wp2_with fail
    go_ret
    exact ⟨ret_bool (by simp [h1]), hal⟩
  have qh1 : (s == s') = true := by simpa using h1
  by_cases h2 : r = r'
  rotate_left
  · have qh2 : (r == r') = false := by simpa using h2
    clear h1
    go_enter Tryz.func26, Tryz.ntmps26
    go_wp2_with fail
    go_ret
    exact ⟨ret_bool (by simp [h2]), hal⟩
  have qh2 : (r == r') = true := by simpa using h2
  by_cases h3 : root = root'
  rotate_left
  · have qh3 : (root == root') = false := by simpa using h3
    clear h1 h2
    go_enter Tryz.func26, Tryz.ntmps26
    go_wp2_with fail
    go_ret
    exact ⟨ret_bool (by simp [h3]), hal⟩
  have qh3 : (root == root') = true := by simpa using h3
  have HL : Hid ((decide (s = s') && decide (r = r') && decide (root = root') && decide (xs = ys)) = decide (xs = ys)) := by show _ = _; rw [decide_eq_true h1, decide_eq_true h2, decide_eq_true h3]; simp
  clear h1 h2 h3
  go_enter Tryz.func26, Tryz.ntmps26
  go_wp2_with fail
  refine (eqZ_calls _ _ _ _ _ _ xs ys _ m1 m2 (by omega)).mono ?_
  rintro e w1 ⟨rfl, k5, hw5⟩
  subst hw5
  go_wp2_with fail
  go_ret
  exact ⟨ret_bool (by rw [HL.out]), below_drewN hal _⟩

set_option maxRecDepth 100000 in
set_option maxHeartbeats 1600000 in
theorem rsame1Z_calls (x y : Rcm) (xs ys : List Int) (w : World) (l1 : Lst w x.a x.n x.k xs) (l2 : Lst w y.a y.n y.k ys) (hn : x.n ≤ 9223372036854775807) :
    Calls Tryz.prog 25 #[x.val, y.val] w fun e w' => e = .returned (.bool (recZ x y xs ys)) ∧ Below w.heap.size w w' := by
  have ha1 := Joins.below_alloc1 w (.cells x.cells 40)
  have hal := ha1.trans ((Joins.below_alloc1 (w.alloc (.cells x.cells 40)) (.cells y.cells 40)).mono ha1.size)
  have HLK : Hid (Calls Tryz.prog 26 #[x.val, y.val] ((w.alloc (.cells x.cells 40)).alloc (.cells y.cells 40)) fun e w' => e = .returned (.bool (likeZ x y xs ys)) ∧ Below ((w.alloc (.cells x.cells 40)).alloc (.cells y.cells 40)).heap.size ((w.alloc (.cells x.cells 40)).alloc (.cells y.cells 40)) w') := rlikeZ_calls x y xs ys _ (l1.below hal (Nat.le_refl _)) (l2.below hal (Nat.le_refl _)) hn
  have rx := (fn5_alloc w (.int .i64 x.s) (.slice x.a x.n x.k) (.int .i64 x.r) (.int .u64 x.root) (.int .u64 x.chain) 40).alloc (.cells y.cells 40)
  have ry := fn5_alloc (w.alloc (.cells x.cells 40)) (.int .i64 y.s) (.slice y.a y.n y.k) (.int .i64 y.r) (.int .u64 y.root) (.int .u64 y.chain) 40
  unfold recZ
  clear l1 l2 ha1
  generalize likeZ x y xs ys = LB at *
  obtain ⟨s, a, n, k, r, root, chain⟩ := x
  obtain ⟨s', a', n', k', r', root', chain'⟩ := y
  simp only [Rcm.val, Rcm.cells] at *
  simp at ry
  cases LB with
  | false =>
    go_enter Tryz.func25, Tryz.ntmps25
    go_wp2_with fail
    refine HLK.out.mono ?_
    rintro e w1 ⟨rfl, hw1⟩
    go_wp2_with fail
    go_ret
    exact ⟨rfl, hal.trans (hw1.mono hal.size)⟩
  | true =>
    go_enter Tryz.func25, Tryz.ntmps25
    go_wp2_with fail
    refine HLK.out.mono ?_
    rintro e w1 ⟨rfl, hw1⟩
    have x4 := (fn5_box (rx.of_block (hw1.block _ rx.lt))).c4
    have y4 := (fn5_box (ry.of_block (hw1.block _ ry.lt))).c4
    go_wp2_with fail
    go_ret
    exact ⟨ret_bool (by rw [Bool.true_and]; exact beq_decZ _ _), hal.trans (hw1.mono hal.size)⟩

set_option maxRecDepth 100000 in
set_option maxHeartbeats 3200000 in
theorem eqrZ_calls (a b : Option Addr) (n m c1 c2 : Nat) (X Y : Nat → Rcm) (DX DY : Nat → List Int) (w : World) (hx : Recs w a n c1 X DX) (hy : Recs w b m c2 Y DY) (hn : n ≤ 1000000000000000) (hxn : ∀ j, j < n → (X j).n ≤ 9223372036854775807) :
    Calls Tryz.prog 24 #[.slice a n c1, .slice b m c2, .func (.func 25) #[] #[]] w fun e w' => e = .returned (.bool (recsZ n m X Y DX DY)) ∧ Below w.heap.size w w' := by
  by_cases hnm : n = m
  · subst hnm
    have hne : ((n : Int) != (n : Int)) = false := by simp
    have HXN : Hid (∀ j, j < n → (X j).n ≤ 9223372036854775807) := hxn
    have HOK : Hid ((∀ j, j < n → recZ (X j) (Y j) (DX j) (DY j) = true) → recsZ n n X Y DX DY = true) := fun h => by
      unfold recsZ
      rw [decide_eq_true rfl, Bool.true_and, List.all_eq_true]
      exact fun i hi => h i (List.mem_range.1 hi)
    have HBAD : Hid (∀ j, j < n → recZ (X j) (Y j) (DX j) (DY j) = false → recsZ n n X Y DX DY = false) := fun j hj h => by
      unfold recsZ
      rw [decide_eq_true rfl, Bool.true_and, List.all_eq_false]
      exact ⟨j, List.mem_range.2 hj, by rw [h]; decide⟩
    generalize recsZ n n X Y DX DY = RB at *
    clear hxn
    go_enter Tryz.func24, Tryz.ntmps24
    go_wp2_with fail
    go_loopw [17] (fun v wr => ∃ k : Nat, k ≤ n ∧ v = .int .i64 k ∧ Hid (∀ j, j < k → recZ (X j) (Y j) (DX j) (DY j) = true) ∧ Below w.heap.size w wr) (fun v _ => n - (intOf v).toNat)
    case atStart => exact ⟨0, Nat.zero_le _, rfl, fun j hj => by omega, Below.refl _ _⟩
    case round =>
      obtain ⟨k, hk, rfl, hg, hbel⟩ := hrel
      have hx1 := hx.below hbel (Nat.le_refl _)
      have hy1 := hy.below hbel (Nat.le_refl _)
      by_cases hlt : k < n
      · have hlen := HXN.out k hlt
        rcases hx1.2 with h0 | ⟨xb, xo, rfl, _, hc⟩
        · omega
        rcases hy1.2 with h0 | ⟨yb, yo, rfl, _, hd⟩
        · omega
        obtain ⟨e0, e1, e2, e3, e4, lx⟩ := hc k hlt
        obtain ⟨f0, f1, f2, f3, f4, ly⟩ := hd k hlt
        have hbad := HBAD.out k hlt
        have hgood : recZ (X k) (Y k) (DX k) (DY k) = true → ∀ j, j < k + 1 → recZ (X j) (Y j) (DX j) (DY j) = true := fun g j hj => by
          by_cases e : j = k
          · subst e; exact g
          · exact hg.out j (by omega)
        obtain ⟨x, hxk⟩ : ∃ x, X k = x := ⟨_, rfl⟩
        obtain ⟨y, hyk⟩ : ∃ y, Y k = y := ⟨_, rfl⟩
        rw [hxk] at e0 e1 e2 e3 e4 lx hlen hbad hgood
        rw [hyk] at f0 f1 f2 f3 f4 ly hbad hgood
        have ha := Joins.below_alloc1 wr (.cells x.cells 40)
        have ha2 := ha.trans ((Joins.below_alloc1 (wr.alloc (.cells x.cells 40)) (.cells y.cells 40)).mono ha.size)
        have SM : Calls Tryz.prog 25 #[x.val, y.val] ((wr.alloc (.cells x.cells 40)).alloc (.cells y.cells 40)) fun e w' => e = .returned (.bool (recZ x y (DX k) (DY k))) ∧ Below ((wr.alloc (.cells x.cells 40)).alloc (.cells y.cells 40)).heap.size ((wr.alloc (.cells x.cells 40)).alloc (.cells y.cells 40)) w' := rsame1Z_calls x y (DX k) (DY k) _ (lx.below ha2 (Nat.le_refl _)) (ly.below ha2 (Nat.le_refl _)) hlen
        have g0 := (ha.cell (p := ⟨yb, yo + k * 5, none⟩) (cell_lt f0)).trans f0
        have g1 := (ha.cell (p := ⟨yb, yo + k * 5 + 1, none⟩) (cell_lt f1)).trans f1
        have g2 := (ha.cell (p := ⟨yb, yo + k * 5 + 2, none⟩) (cell_lt f2)).trans f2
        have g3 := (ha.cell (p := ⟨yb, yo + k * 5 + 3, none⟩) (cell_lt f3)).trans f3
        have g4 := (ha.cell (p := ⟨yb, yo + k * 5 + 4, none⟩) (cell_lt f4)).trans f4
        have kn : (k : Int) < (n : Int) := by omega
        have HB : Hid (recZ x y (DX k) (DY k) = false → RB = false) := hbad
        have HG : Hid (recZ x y (DX k) (DY k) = true → ∀ j, j < k + 1 → recZ (X j) (Y j) (DX j) (DY j) = true) := hgood
        clear hx hy hx1 hy1 hxk hyk lx ly hlen HXN hc hd f0 f1 f2 f3 f4 hbad hgood hg
        generalize recZ x y (DX k) (DY k) = QB at *
        obtain ⟨s, ax, nx, kx, r, root, chain⟩ := x
        obtain ⟨s', ay, ny, ky, r', root', chain'⟩ := y
        simp only [Rcm.val, Rcm.cells] at *
        cases QB with
        | false =>
          go_wp2_with fail
          refine SM.mono ?_
          rintro e w1 ⟨rfl, hw1⟩
          go_wp2_with fail
          go_ret
          exact ⟨ret_bool (HB.out (by trivial)).symm, hbel.trans ((ha2.trans (hw1.mono ha2.size)).mono hbel.size)⟩
        | true =>
          go_wp2_with fail
          refine SM.mono ?_
          rintro e w1 ⟨rfl, hw1⟩
          have hb1 := hbel.trans ((ha2.trans (hw1.mono ha2.size)).mono hbel.size)
          go_wp2_with fail
          go_roundw
          case rel => exact ⟨k + 1, by omega, by go_num, HG.out (by trivial), hb1⟩
          case measure => simp [intOf]; omega
      · obtain rfl : k = n := by omega
        go_wp2_with fail
        go_ret
        exact ⟨ret_bool (HOK.out hg.out).symm, hbel⟩
  · have hne : ((n : Int) != (m : Int)) = true := by rw [bne_iff_ne]; omega
    have HR : Hid (recsZ n m X Y DX DY = false) := by show recsZ n m X Y DX DY = false; unfold recsZ; rw [decide_eq_false hnm, Bool.false_and]
    clear hx hy hxn hnm
    go_enter Tryz.func24, Tryz.ntmps24
    go_wp2_with fail
    go_ret
    exact ⟨ret_bool HR.out.symm, Below.refl _ _⟩

theorem rsameRZ_calls (a b : Option Addr) (n m c1 c2 : Nat) (X Y : Nat → Rcm) (DX DY : Nat → List Int) (w : World) (hx : Recs w a n c1 X DX) (hy : Recs w b m c2 Y DY) (hn : n ≤ 1000000000000000) (hxn : ∀ j, j < n → (X j).n ≤ 9223372036854775807) :
    Calls Tryz.prog 15 #[.slice a n c1, .slice b m c2] w fun e w' => e = .returned (.bool (recsZ n m X Y DX DY)) ∧ Below w.heap.size w w' := by
  have K := eqrZ_calls a b n m c1 c2 X Y DX DY w hx hy hn hxn
  clear hx hy hn hxn
  go_enter Tryz.func15, Tryz.ntmps15
  go_wp2_with fail
  refine K.mono ?_
  rintro e w1 ⟨rfl, hw1⟩
  go_wp2_with fail
  go_ret
  exact ⟨rfl, hw1⟩
end Go.Proofs.YtfcnnolpcnacoaaGreatDoor.Fx

/- strings.HasPrefix in this program; beginnings of texts that grow and shrink. -/
namespace Go.Proofs.YtfcnnolpcnacoaaGreatDoor.Fx
open Go.RowKit

theorem BegTo.grow {s t : List UInt8} {ls : List Ln} (h : BegTo s ls) (ht : s <+: t) : BegTo t ls := ⟨h.ok, h.step, h.pre.trans ht⟩
theorem noLine_nil (l : Ln) : ¬ IsLine [] l := fun h => by
  have h1 := h.2.length_le
  have h2 := text_ne l
  rw [List.length_nil] at h1
  omega
theorem Beg.flat {s : List UInt8} {ls : List Ln} (h : BegTo s ls) : Beg (flatLn ls) ls := ⟨⟨h.ok, h.step, List.prefix_refl _⟩, fun l hl => by rw [List.drop_length] at hl; exact absurd hl (noLine_nil l)⟩
theorem Recs.takeS {w : World} {a : Option Addr} {n c m : Nat} {R : Nat → Rcm} {D : Nat → List Int} (h : Recs w a n c R D) (hm : m ≤ n) : Recs w a m c R D := by
  refine ⟨Nat.le_trans hm h.1, ?_⟩
  rcases h.2 with h0 | ⟨b, off, e, hs, hc⟩
  · exact .inl (by omega)
  · exact .inr ⟨b, off, e, hs, fun i hi => hc i (by omega)⟩
theorem lnAt_take {ls : List Ln} {m j : Nat} (hj : j < m) : lnAt (ls.take m) j = lnAt ls j := by
  unfold lnAt
  rw [List.getElem?_take_of_lt hj]
theorem lnAt_agree {ls ms : List Ln} {m : Nat} (h : ls.take m = ms.take m) {j : Nat} (hj : j < m) : lnAt ls j = lnAt ms j := by rw [← lnAt_take hj, h, lnAt_take hj]
theorem recZ_lnK {x y : Rcm} {xs ys : List Int} (h : x.ln xs = y.ln ys) : recZ x y xs ys = true := by
  simp only [Rcm.ln, Ln.mk.injEq] at h
  obtain ⟨h1, h2, h3, h4, h5⟩ := h
  simp [recZ, likeZ, h1, h2, h3, h4, h5]
theorem recsZ_two {n : Nat} {X Y : Nat → Rcm} {D E : Nat → List Int} (h : ∀ j, j < n → (X j).ln (D j) = (Y j).ln (E j)) : recsZ n n X Y D E = true := by
  unfold recsZ
  rw [decide_eq_true rfl, Bool.true_and, List.all_eq_true]
  exact fun j hj => recZ_lnK (h j (List.mem_range.1 hj))
theorem Recs.nS {w : World} {a : Option Addr} {n c : Nat} {R : Nat → Rcm} {D : Nat → List Int} (h : Recs w a n c R D) {j : Nat} (hj : j < n) : (R j).n = (D j).length := by
  rcases h.2 with h0 | ⟨_, _, _, _, hc⟩
  · omega
  · exact (hc j hj).2.2.2.2.2.len.symm
theorem Recs.keeps {w w' : World} {a : Option Addr} {n c b : Nat} {R : Nat → Rcm} {D : Nat → List Int} (h : Recs w a n c R D) (hk : Keeps b w w') (hfar : ∀ g o, a = some ⟨g, o, none⟩ → g ≠ b) (hfar2 : ∀ j, j < n → (R j).n = 0 ∨ ∀ g o, (R j).a = some ⟨g, o, none⟩ → g ≠ b) : Recs w' a n c R D := by
  refine ⟨h.1, ?_⟩
  rcases h.2 with h0 | ⟨g, off, e, hs, hc⟩
  · exact .inl h0
  · have hne := hfar g off e
    have kc : ∀ o, w'.cell? ⟨g, o, none⟩ = w.cell? ⟨g, o, none⟩ := fun o => hk.cell (a := ⟨g, o, none⟩) hs hne
    exact .inr ⟨g, off, e, Nat.lt_of_lt_of_le hs hk.size, fun i hi => ⟨(kc _).trans (hc i hi).1, (kc _).trans (hc i hi).2.1, (kc _).trans (hc i hi).2.2.1, (kc _).trans (hc i hi).2.2.2.1, (kc _).trans (hc i hi).2.2.2.2.1, (hc i hi).2.2.2.2.2.keeps hk (hfar2 i hi)⟩⟩
end Go.Proofs.YtfcnnolpcnacoaaGreatDoor.Fx

/- The records of a text, as a list in memory apart from a store's block: how they are read, and told to be the same. -/
namespace Go.Proofs.YtfcnnolpcnacoaaGreatDoor.Fx
open Go.RowKit

theorem beg_exists (s : List UInt8) : ∃ ls, Beg s ls := by
  have key : ∀ k ls, BegTo s ls → 100 ≤ ls.length + k → ∃ ms, Beg s ms := by
    intro k
    induction k with
    | zero =>
      intro ls h hk
      refine ⟨ls, h, fun l hl hs => ?_⟩
      have := (h.snoc hl hs).len
      rw [List.length_append, List.length_singleton] at this
      omega
    | succ k ih =>
      intro ls h hk
      by_cases hx : ∃ l, IsLine (s.drop (flatLn ls).length) l ∧ l.s = (ls.length : Int)
      · obtain ⟨l, h1, h2⟩ := hx
        exact ih _ (h.snoc h1 h2) (by rw [List.length_append, List.length_singleton]; omega)
      · exact ⟨ls, h, fun l hl hs => hx ⟨l, hl, hs⟩⟩
  exact key 100 [] (BegTo.nil s) (by simp)

/-- A slice of records that tells the lines ls, none of whose blocks is b. -/
def RecAt (b : Nat) (w : World) (ls : List Ln) (a : Option Addr) (c : Nat) : Prop :=
  ∃ R : Nat → Rcm, (∀ j, j < ls.length → (R j).ln (lnAt ls j).b = lnAt ls j) ∧ Recs w a ls.length c R (fun j => (lnAt ls j).b) ∧ (∀ g o, a = some ⟨g, o, none⟩ → g ≠ b) ∧ ∀ j, j < ls.length → ∀ g o, (R j).a = some ⟨g, o, none⟩ → g ≠ b
theorem RecAt.cap {b : Nat} {w : World} {ls : List Ln} {a : Option Addr} {c : Nat} (h : RecAt b w ls a c) : ls.length ≤ c := by
  obtain ⟨R, _, h2, _⟩ := h
  exact h2.1
theorem RecAt.below {b : Nat} {w w' : World} {ls : List Ln} {a : Option Addr} {c : Nat} (h : RecAt b w ls a c) (hb : Below w.heap.size w w') : RecAt b w' ls a c := by
  obtain ⟨R, h1, h2, h3, h4⟩ := h
  exact ⟨R, h1, h2.below hb (Nat.le_refl _), h3, h4⟩
theorem RecAt.keeps {b : Nat} {w w' : World} {ls : List Ln} {a : Option Addr} {c : Nat} (h : RecAt b w ls a c) (hk : Keeps b w w') : RecAt b w' ls a c := by
  obtain ⟨R, h1, h2, h3, h4⟩ := h
  exact ⟨R, h1, h2.keeps hk h3 (fun j hj => .inr (h4 j hj)), h3, h4⟩

theorem records_at (b : Nat) (T : List UInt8) (room sy : Int) (hT : T.length ≤ 8192) (ls : List Ln) (hB : Beg T ls) (w : World) (h : StoAt w b T room sy) (hL : LD w) :
    Calls Tryz.prog 10 #[.pointer (some ⟨b, 0, none⟩)] w fun e w' => (∃ a c, RecAt b w' ls a c ∧ e = .returned (.slice a ls.length c)) ∧ Below w.heap.size w w' := by
  have hlt := h.lt
  refine (records_calls b T room sy hT w h hL).mono ?_
  rintro e w' ⟨⟨ls', a, c, R, hB', hE, hR, hF, he⟩, hw⟩
  have e1 := hB.unique hB'
  subst e1
  refine ⟨⟨a, c, ⟨R, hE, hR, fun g o hg => ?_, fun j hj g o hg => ?_⟩, he⟩, hw⟩
  · have := hF.1 g o hg; omega
  · have := hF.2 j hj g o hg; omega

theorem same_at (b m : Nat) (l1 l2 : List Ln) (T1 T2 : List UInt8) (hb1 : BegTo T1 l1) (hb2 : BegTo T2 l2) (hm1 : m ≤ l1.length) (hm2 : m ≤ l2.length) (ht : T1 <+: T2 ∨ T2 <+: T1) (a1 a2 : Option Addr) (c1 c2 : Nat) (w : World) (h1 : RecAt b w l1 a1 c1) (h2 : RecAt b w l2 a2 c2) :
    Calls Tryz.prog 15 #[.slice a1 m c1, .slice a2 m c2] w fun e w' => e = .returned (.bool true) ∧ Below w.heap.size w w' := by
  obtain ⟨R1, e1, r1, _, _⟩ := h1
  obtain ⟨R2, e2, r2, _, _⟩ := h2
  have hag : l1.take m = l2.take m := by
    rcases ht with h | h
    · exact (hb1.grow h).agree hb2 m hm1 hm2
    · exact hb1.agree (hb2.grow h) m hm1 hm2
  have hln := hb1.len
  have S := rsameRZ_calls a1 a2 m m c1 c2 R1 R2 (fun j => (lnAt l1 j).b) (fun j => (lnAt l2 j).b) w (r1.takeS hm1) (r2.takeS hm2) (by omega) (fun j hj => by
    have h1 := r1.nS (j := j) (by omega)
    have h2 := (hb1.ok j (by omega)).n
    omega)
  rw [recsZ_two (fun j hj => by rw [e1 j (by omega), e2 j (by omega)]; exact lnAt_agree hag hj)] at S
  exact S
theorem text00 : Ln.text ⟨0, 0, 0, 0, []⟩ = [48, 32, 48, 32, 48, 32, 48, 10] := by
  have d : ∀ n : Nat, n < 10 → Lib.decDigits n = [UInt8.ofNat (48 + n)] := fun n h => Lib.decDigits_one h
  simp [Ln.text, Ln.line, Ln.words, Ln.nums, dg, d, Lib.join, List.intercalate, List.intersperse]
theorem ok00 : Ln.ok ⟨0, 0, 0, 0, []⟩ := ⟨by decide, by decide, by decide, by decide, by decide, by decide⟩
theorem beg00 : BegTo (Ln.text ⟨0, 0, 0, 0, []⟩) [⟨0, 0, 0, 0, []⟩] := by
  have h : BegTo (Ln.text ⟨0, 0, 0, 0, []⟩) ([] ++ [⟨0, 0, 0, 0, []⟩]) := (BegTo.nil _).snoc ⟨ok00, by exact List.prefix_refl _⟩ rfl
  exact h
theorem begOne : Beg (Ln.text ⟨0, 0, 0, 0, []⟩) [⟨0, 0, 0, 0, []⟩] := by
  have h := Beg.flat beg00
  have e : flatLn [⟨0, 0, 0, 0, []⟩] = Ln.text ⟨0, 0, 0, 0, []⟩ := by simp [flatLn]
  rw [e] at h
  exact h
theorem crN_full (n : Nat) (keep : Int) : crN n n keep = n := by unfold crN; omega
end Go.Proofs.YtfcnnolpcnacoaaGreatDoor.Fx
