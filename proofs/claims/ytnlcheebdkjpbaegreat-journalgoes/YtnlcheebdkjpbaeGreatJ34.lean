/- What coachref.Like and SameRecords return, whatever records lie there. -/
import Derived.Test.YtnlcheebdkjpbaeGreatJ27
import Derived.Test.YtnlcheebdkjpbaeGreatJ11
import Derived.Test.YtnlcheebdkjpbaeGreatJ04
import Derived.Test.YtnlcheebdkjpbaeGreatJ01
import Derived.Test.YtnlcheebdkjpbaeGreatJ00
namespace Go.Proofs.YtnlcheebdkjpbaeGreat.Fx
open Go.RowKit

/-- Are two records the same, but for the chain? -/
def likeB (x y : Rcm) (xs ys : List Int) : Bool := decide (x.s = y.s) && decide (x.r = y.r) && decide (x.root = y.root) && decide (xs = ys)
def recB (x y : Rcm) (xs ys : List Int) : Bool := likeB x y xs ys && decide (x.chain = y.chain)
def recsB (n m : Nat) (X Y : Nat → Rcm) (DX DY : Nat → List Int) : Bool := decide (n = m) && (List.range n).all fun i => recB (X i) (Y i) (DX i) (DY i)
theorem beq_dec (x y : Int) : (x == y) = decide (x = y) := by
  by_cases h : x = y
  · rw [decide_eq_true h]; simpa using h
  · rw [decide_eq_false h]; simpa using h

set_option maxRecDepth 100000 in
set_option maxHeartbeats 1600000 in
theorem rlike_calls (x y : Rcm) (xs ys : List Int) (w : World) (l1 : Lst w x.a x.n x.k xs) (l2 : Lst w y.a y.n y.k ys) (hn : x.n ≤ 1000000000000000000) :
    Calls Tryz.prog 23 #[x.val, y.val] w fun e w' => e = .returned (.bool (likeB x y xs ys)) ∧ Below w.heap.size w w' := by
  have hal := (low_alloc w (.cells x.cells 39)).trans ((low_alloc (w.alloc (.cells x.cells 39)) (.cells y.cells 39)).mono (low_alloc w (.cells x.cells 39)).size)
  have m1 := l1.below hal (Nat.le_refl _)
  have m2 := l2.below hal (Nat.le_refl _)
  unfold likeB
  clear l1 l2
  obtain ⟨s, a, n, k, r, root, chain⟩ := x
  obtain ⟨s', a', n', k', r', root', chain'⟩ := y
  simp only [Rcm.val, Rcm.cells] at *
  by_cases h1 : s = s'
  rotate_left
  · have qh1 : (s == s') = false := by simpa using h1
    go_enter Tryz.func23, Tryz.ntmps23
    go_wp2_with fail
    go_ret
    exact ⟨ret_bool (by simp [h1]), hal⟩
  have qh1 : (s == s') = true := by simpa using h1
  by_cases h2 : r = r'
  rotate_left
  · have qh2 : (r == r') = false := by simpa using h2
    clear h1
    go_enter Tryz.func23, Tryz.ntmps23
    go_wp2_with fail
    go_ret
    exact ⟨ret_bool (by simp [h2]), hal⟩
  have qh2 : (r == r') = true := by simpa using h2
  by_cases h3 : root = root'
  rotate_left
  · have qh3 : (root == root') = false := by simpa using h3
    clear h1 h2
    go_enter Tryz.func23, Tryz.ntmps23
    go_wp2_with fail
    go_ret
    exact ⟨ret_bool (by simp [h3]), hal⟩
  have qh3 : (root == root') = true := by simpa using h3
  have HL : Hid ((decide (s = s') && decide (r = r') && decide (root = root') && decide (xs = ys)) = decide (xs = ys)) := by show _ = _; rw [decide_eq_true h1, decide_eq_true h2, decide_eq_true h3]; simp
  clear h1 h2 h3
  go_enter Tryz.func23, Tryz.ntmps23
  go_wp2_with fail
  refine (eq_calls _ _ _ _ _ _ xs ys _ m1 m2 (by omega)).mono ?_
  rintro e w1 ⟨rfl, k5, hw5⟩
  subst hw5
  go_wp2_with fail
  go_ret
  exact ⟨ret_bool (by rw [HL.out]), below_drewN hal _⟩

set_option maxRecDepth 100000 in
set_option maxHeartbeats 1600000 in
theorem rsame1_calls (x y : Rcm) (xs ys : List Int) (w : World) (l1 : Lst w x.a x.n x.k xs) (l2 : Lst w y.a y.n y.k ys) (hn : x.n ≤ 1000000000000000000) :
    Calls Tryz.prog 22 #[x.val, y.val] w fun e w' => e = .returned (.bool (recB x y xs ys)) ∧ Below w.heap.size w w' := by
  have ha1 := low_alloc w (.cells x.cells 39)
  have hal := ha1.trans ((low_alloc (w.alloc (.cells x.cells 39)) (.cells y.cells 39)).mono ha1.size)
  have HLK : Hid (Calls Tryz.prog 23 #[x.val, y.val] ((w.alloc (.cells x.cells 39)).alloc (.cells y.cells 39)) fun e w' => e = .returned (.bool (likeB x y xs ys)) ∧ Below ((w.alloc (.cells x.cells 39)).alloc (.cells y.cells 39)).heap.size ((w.alloc (.cells x.cells 39)).alloc (.cells y.cells 39)) w') := rlike_calls x y xs ys _ (l1.below hal (Nat.le_refl _)) (l2.below hal (Nat.le_refl _)) hn
  have rx := (fn5_alloc w (.int .i64 x.s) (.slice x.a x.n x.k) (.int .i64 x.r) (.int .u64 x.root) (.int .u64 x.chain) 39).alloc (.cells y.cells 39)
  have ry := fn5_alloc (w.alloc (.cells x.cells 39)) (.int .i64 y.s) (.slice y.a y.n y.k) (.int .i64 y.r) (.int .u64 y.root) (.int .u64 y.chain) 39
  unfold recB
  clear l1 l2 ha1
  generalize likeB x y xs ys = LB at *
  obtain ⟨s, a, n, k, r, root, chain⟩ := x
  obtain ⟨s', a', n', k', r', root', chain'⟩ := y
  simp only [Rcm.val, Rcm.cells] at *
  simp at ry
  cases LB with
  | false =>
    go_enter Tryz.func22, Tryz.ntmps22
    go_wp2_with fail
    refine HLK.out.mono ?_
    rintro e w1 ⟨rfl, hw1⟩
    go_wp2_with fail
    go_ret
    exact ⟨rfl, hal.trans (hw1.mono hal.size)⟩
  | true =>
    go_enter Tryz.func22, Tryz.ntmps22
    go_wp2_with fail
    refine HLK.out.mono ?_
    rintro e w1 ⟨rfl, hw1⟩
    have x4 := (fn5_box (rx.of_block (hw1.block _ rx.lt))).c4
    have y4 := (fn5_box (ry.of_block (hw1.block _ ry.lt))).c4
    go_wp2_with fail
    go_ret
    exact ⟨ret_bool (by rw [Bool.true_and]; exact beq_dec _ _), hal.trans (hw1.mono hal.size)⟩

set_option maxRecDepth 100000 in
set_option maxHeartbeats 3200000 in
theorem eqr_calls (a b : Option Addr) (n m c1 c2 : Nat) (X Y : Nat → Rcm) (DX DY : Nat → List Int) (w : World) (hx : Recs w a n c1 X DX) (hy : Recs w b m c2 Y DY) (hn : n ≤ 1000000000000000) (hxn : ∀ j, j < n → (X j).n ≤ 1000000000000000000) :
    Calls Tryz.prog 21 #[.slice a n c1, .slice b m c2, .func (.func 22) #[] #[]] w fun e w' => e = .returned (.bool (recsB n m X Y DX DY)) ∧ Below w.heap.size w w' := by
  by_cases hnm : n = m
  · subst hnm
    have hne : ((n : Int) != (n : Int)) = false := by simp
    have HXN : Hid (∀ j, j < n → (X j).n ≤ 1000000000000000000) := hxn
    have HOK : Hid ((∀ j, j < n → recB (X j) (Y j) (DX j) (DY j) = true) → recsB n n X Y DX DY = true) := fun h => by
      unfold recsB
      rw [decide_eq_true rfl, Bool.true_and, List.all_eq_true]
      exact fun i hi => h i (List.mem_range.1 hi)
    have HBAD : Hid (∀ j, j < n → recB (X j) (Y j) (DX j) (DY j) = false → recsB n n X Y DX DY = false) := fun j hj h => by
      unfold recsB
      rw [decide_eq_true rfl, Bool.true_and, List.all_eq_false]
      exact ⟨j, List.mem_range.2 hj, by rw [h]; decide⟩
    generalize recsB n n X Y DX DY = RB at *
    clear hxn
    go_enter Tryz.func21, Tryz.ntmps21
    go_wp2_with fail
    go_loopw [17] (fun v wr => ∃ k : Nat, k ≤ n ∧ v = .int .i64 k ∧ Hid (∀ j, j < k → recB (X j) (Y j) (DX j) (DY j) = true) ∧ Below w.heap.size w wr) (fun v _ => n - (intOf v).toNat)
    case atStart => exact ⟨0, Nat.zero_le _, rfl, fun j hj => by omega, Below.refl _ _⟩
    case round =>
      obtain ⟨k, hk, rfl, hg, hbel⟩ := hrel
      have hx1 := hx.below hbel (Nat.le_refl _)
      have hy1 := hy.below hbel (Nat.le_refl _)
      by_cases hlt : k < n
      · have hlen := HXN.out k hlt
        rcases hx1.2 with h0 | ⟨xb, xo, rfl, _, hc⟩
        · omega
        rcases hy1.2 with h0 | ⟨yb, yo, rfl, _, hd⟩
        · omega
        obtain ⟨e0, e1, e2, e3, e4, lx⟩ := hc k hlt
        obtain ⟨f0, f1, f2, f3, f4, ly⟩ := hd k hlt
        have hbad := HBAD.out k hlt
        have hgood : recB (X k) (Y k) (DX k) (DY k) = true → ∀ j, j < k + 1 → recB (X j) (Y j) (DX j) (DY j) = true := fun g j hj => by
          by_cases e : j = k
          · subst e; exact g
          · exact hg.out j (by omega)
        obtain ⟨x, hxk⟩ : ∃ x, X k = x := ⟨_, rfl⟩
        obtain ⟨y, hyk⟩ : ∃ y, Y k = y := ⟨_, rfl⟩
        rw [hxk] at e0 e1 e2 e3 e4 lx hlen hbad hgood
        rw [hyk] at f0 f1 f2 f3 f4 ly hbad hgood
        have ha := low_alloc wr (.cells x.cells 39)
        have ha2 := ha.trans ((low_alloc (wr.alloc (.cells x.cells 39)) (.cells y.cells 39)).mono ha.size)
        have SM : Calls Tryz.prog 22 #[x.val, y.val] ((wr.alloc (.cells x.cells 39)).alloc (.cells y.cells 39)) fun e w' => e = .returned (.bool (recB x y (DX k) (DY k))) ∧ Below ((wr.alloc (.cells x.cells 39)).alloc (.cells y.cells 39)).heap.size ((wr.alloc (.cells x.cells 39)).alloc (.cells y.cells 39)) w' := rsame1_calls x y (DX k) (DY k) _ (lx.below ha2 (Nat.le_refl _)) (ly.below ha2 (Nat.le_refl _)) hlen
        have g0 := (ha.cell (p := ⟨yb, yo + k * 5, none⟩) (cell_lt f0)).trans f0
        have g1 := (ha.cell (p := ⟨yb, yo + k * 5 + 1, none⟩) (cell_lt f1)).trans f1
        have g2 := (ha.cell (p := ⟨yb, yo + k * 5 + 2, none⟩) (cell_lt f2)).trans f2
        have g3 := (ha.cell (p := ⟨yb, yo + k * 5 + 3, none⟩) (cell_lt f3)).trans f3
        have g4 := (ha.cell (p := ⟨yb, yo + k * 5 + 4, none⟩) (cell_lt f4)).trans f4
        have kn : (k : Int) < (n : Int) := by omega
        have HB : Hid (recB x y (DX k) (DY k) = false → RB = false) := hbad
        have HG : Hid (recB x y (DX k) (DY k) = true → ∀ j, j < k + 1 → recB (X j) (Y j) (DX j) (DY j) = true) := hgood
        clear hx hy hx1 hy1 hxk hyk lx ly hlen HXN hc hd f0 f1 f2 f3 f4 hbad hgood hg
        generalize recB x y (DX k) (DY k) = QB at *
        obtain ⟨s, ax, nx, kx, r, root, chain⟩ := x
        obtain ⟨s', ay, ny, ky, r', root', chain'⟩ := y
        simp only [Rcm.val, Rcm.cells] at *
        cases QB with
        | false =>
          go_wp2_with fail
          refine SM.mono ?_
          rintro e w1 ⟨rfl, hw1⟩
          go_wp2_with fail
          go_ret
          exact ⟨ret_bool (HB.out (by trivial)).symm, hbel.trans ((ha2.trans (hw1.mono ha2.size)).mono hbel.size)⟩
        | true =>
          go_wp2_with fail
          refine SM.mono ?_
          rintro e w1 ⟨rfl, hw1⟩
          have hb1 := hbel.trans ((ha2.trans (hw1.mono ha2.size)).mono hbel.size)
          go_wp2_with fail
          go_roundw
          case rel => exact ⟨k + 1, by omega, by go_num, HG.out (by trivial), hb1⟩
          case measure => simp [intOf]; omega
      · obtain rfl : k = n := by omega
        go_wp2_with fail
        go_ret
        exact ⟨ret_bool (HOK.out hg.out).symm, hbel⟩
  · have hne : ((n : Int) != (m : Int)) = true := by rw [bne_iff_ne]; omega
    have HR : Hid (recsB n m X Y DX DY = false) := by show recsB n m X Y DX DY = false; unfold recsB; rw [decide_eq_false hnm, Bool.false_and]
    clear hx hy hxn hnm
    go_enter Tryz.func21, Tryz.ntmps21
    go_wp2_with fail
    go_ret
    exact ⟨ret_bool HR.out.symm, Below.refl _ _⟩

theorem rsameR_calls (a b : Option Addr) (n m c1 c2 : Nat) (X Y : Nat → Rcm) (DX DY : Nat → List Int) (w : World) (hx : Recs w a n c1 X DX) (hy : Recs w b m c2 Y DY) (hn : n ≤ 1000000000000000) (hxn : ∀ j, j < n → (X j).n ≤ 1000000000000000000) :
    Calls Tryz.prog 9 #[.slice a n c1, .slice b m c2] w fun e w' => e = .returned (.bool (recsB n m X Y DX DY)) ∧ Below w.heap.size w w' := by
  have K := eqr_calls a b n m c1 c2 X Y DX DY w hx hy hn hxn
  clear hx hy hn hxn
  go_enter Tryz.func9, Tryz.ntmps9
  go_wp2_with fail
  refine K.mono ?_
  rintro e w1 ⟨rfl, hw1⟩
  go_wp2_with fail
  go_ret
  exact ⟨rfl, hw1⟩
end Go.Proofs.YtnlcheebdkjpbaeGreat.Fx

/- Lists of records that say the same are the same; no function of package journal is spoken of. -/
namespace Go.Proofs.YtnlcheebdkjpbaeGreat.Fx
open Go.RowKit

theorem recs_same {k : Nat} {R R2 : Nat → Rcm} {D : Nat → List Int} {RV RO CH : Nat → Int} (h : JrN k R RV RO CH) (h2 : JrN k R2 RV RO CH) : recsB k k R R2 D D = true := by
  unfold recsB
  rw [decide_eq_true rfl, Bool.true_and, List.all_eq_true]
  intro j hj
  rw [List.mem_range] at hj
  obtain ⟨e1, e2, e3, e4⟩ := h j hj
  obtain ⟨f1, f2, f3, f4⟩ := h2 j hj
  unfold recB likeB
  rw [e1, e2, e3, e4, f1, f2, f3, f4]
  simp
theorem JrN.take {k m : Nat} {R : Nat → Rcm} {RV RO CH : Nat → Int} (h : JrN k R RV RO CH) (hm : m ≤ k) : JrN m R RV RO CH := fun j hj => h j (by omega)
theorem Recs.take {w : World} {a : Option Addr} {n c m : Nat} {R : Nat → Rcm} {D : Nat → List Int} (h : Recs w a n c R D) (hm : m ≤ n) : Recs w a m c R D := by
  refine ⟨Nat.le_trans hm h.1, ?_⟩
  rcases h.2 with h0 | ⟨b, off, e, hs, hc⟩
  · exact .inl (by omega)
  · exact .inr ⟨b, off, e, hs, fun i hi => hc i (by omega)⟩
end Go.Proofs.YtnlcheebdkjpbaeGreat.Fx

/- What coachref.Rest returns: a number below the second one. -/
namespace Go.Proofs.YtnlcheebdkjpbaeGreat.Fx
open Go.RowKit

theorem rest_any (n : Int) (m : Nat) (h1 : 1 ≤ m) (h2 : m ≤ 2000) (w : World) :
    Calls Tryz.prog 6 #[.int .i64 n, .int .i64 m] w fun e w' => (∃ k : Nat, k < m ∧ e = .returned (.int .i64 k)) ∧ w' = w := by
  obtain ⟨r, hr⟩ : ∃ r, n.tmod (m : Int) = r := ⟨_, rfl⟩
  have r1 : r < (m : Int) := by rw [← hr]; exact Int.tmod_lt_of_pos _ (by omega)
  have r2 : -(m : Int) < r := by
    rw [← hr]
    have := Int.tmod_lt_of_pos (-n) (b := (m : Int)) (by omega)
    rw [Int.neg_tmod] at this
    omega
  by_cases h : r < 0
  · go_enter Tryz.func6, Tryz.ntmps6
    go_wp2
    go_ret
    exact ⟨⟨(r + m).toNat, by omega, ret_word (by omega)⟩, rfl⟩
  · go_enter Tryz.func6, Tryz.ntmps6
    go_wp2
    go_ret
    exact ⟨⟨r.toNat, by omega, ret_word (by omega)⟩, rfl⟩
end Go.Proofs.YtnlcheebdkjpbaeGreat.Fx

/- How a word, and a slice of words, that come in as arguments are opened. -/
namespace Go.Proofs.YtnlcheebdkjpbaeGreat.Fx
open Go.ChangeShapes Go.WideShapes Go.ChangeAt Go.RowKit

theorem wf_word {n : Int} (h : (Lit.int .u64 n).wf = true) : okW n := by
  simp [Lit.wf, IntKind.min, IntKind.max, IntKind.signed, IntKind.bits] at h
  exact ⟨by omega, by omega⟩

set_option maxRecDepth 100000 in
theorem openWords {H : Type} {enc : TypeId × Value → H} {W : World} {b0 : Nat} {v : Value} {d : DataW H} {p : List MemPlace} (hv : Value.okWide Tryz.prog W .any b0 82 v) (h : DataW.Trod enc Tryz.prog W 0 (fun _ => true) true 82 v d p) :
    ∃ a len cap xs, v = .slice a len cap ∧ LstW W a len cap xs ∧ ∀ i, i < xs.length → okW (xs.getD i 0) := by
  obtain ⟨a, len, cap, rfl⟩ := okWide_slice Tryz.underlying82 hv
  obtain ⟨fuel, hf⟩ := h
  rcases open_ints Tryz.underlying82 Tryz.underlying22 (by kernel_rfl) hf with ⟨hcs, _⟩ | ⟨x, l, c, zs, hcs, _, hl, hm, hz, _, hcell, hwz⟩
  · simp [Value.cells] at hcs
    obtain ⟨rfl, rfl, rfl⟩ := hcs
    exact ⟨_, _, _, [], rfl, LstW.nil _ _ _, fun i hi => by simp at hi⟩
  · simp [Value.cells] at hcs
    obtain ⟨rfl, rfl, rfl⟩ := hcs
    refine ⟨_, _, _, zs.take len, rfl, LstW.came hl (by simpa using hz) hcell, fun i hi => wf_word (hwz _ (List.mem_of_mem_take (i := len) ?_))⟩
    rw [List.getD_eq_getElem?_getD, List.getElem?_eq_getElem hi]
    exact List.getElem_mem hi
end Go.Proofs.YtnlcheebdkjpbaeGreat.Fx
