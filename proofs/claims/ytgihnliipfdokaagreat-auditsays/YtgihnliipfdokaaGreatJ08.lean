/- What tree.chunks, tree.leaf and tree.Leaves return: the leaves of a list of integers. -/
import Derived.Test.YtgihnliipfdokaaGreatJ02
import Derived.Test.YtgihnliipfdokaaGreatJ07
import Derived.Deep.AppendLies
namespace Go.Proofs.YtgihnliipfdokaaGreat.Fx
open Go.RowKit

theorem chunks_calls (n : Nat) (h : n ≤ 200) (w : World) : Calls Tryz.prog 127 #[.int .i64 n] w fun e w' => e = .returned (.int .i64 ((n + 3) / 4 : Nat)) ∧ w' = w := by
  have e1 : ((n : Int) + 4 - 1).tdiv 4 = (((n + 3) / 4 : Nat) : Int) := by
    rw [Int.tdiv_eq_ediv_of_nonneg (by omega)]; omega
  go_enter Tryz.func127, Tryz.ntmps127
  go_wp2
  go_ret
  exact ⟨ret_word (by omega), rfl⟩

theorem numL_ok (xs : List Int) (n : Nat) : okL (numL xs n) := by
  unfold numL
  intro i hi
  by_cases h : 200 < n
  · rw [if_pos h] at hi; simp at hi
  · rw [if_neg h] at hi ⊢
    simp at hi
    have := boundP_ok (xs.getD i 0)
    simp only [List.getD_eq_getElem?_getD, List.getElem?_map, List.getElem?_range hi, Option.map_some, Option.getD_some, numG] at this ⊢
    exact ⟨this.1, by omega⟩
theorem numL_len {xs : List Int} {n : Nat} (h : n ≤ 200) : (numL xs n).length = n := by
  unfold numL; rw [if_neg (by omega)]; simp

theorem leaf_calls (a : Option Addr) (la ca : Nat) (xs : List Int) (w : World) (ha : Lst w a la ca xs) (_hl : la ≤ 4) :
    Calls Tryz.prog 128 #[.slice a la ca] w fun e w' => e = .returned (.int .u64 (ofP 4 (numL xs la))) ∧ Below w.heap.size w w' := by
  go_enter Tryz.func128, Tryz.ntmps128
  go_wp2_with (first | (go_at_call 139; refine (dNumbers_calls _ _ _ xs _ ha).mono ?_; rintro e w1 ⟨a1, n1, rfl, hn1, h1, hw1⟩) | (go_at_call 84; refine (dOf_calls 4 ⟨by omega, by omega⟩ _ _ _ (numL xs la) _ h1 (numL_ok _ _)).mono ?_; rintro e w2 ⟨rfl, hw2⟩))
  go_ret
  exact ⟨ret_word (by unfold ofA; rw [if_neg (by omega)]), hw1.trans (hw2.mono hw1.size)⟩

/-- Leaf i of a list of n integers: of its chunk. -/
def hiN (n i : Nat) : Nat := min (i * 4 + 4) n
def leafG (xs : List Int) (n i : Nat) : Int := ofP 4 (numL ((xs.drop (i * 4)).take (hiN n i - i * 4)) (hiN n i - i * 4))
def leavesP (xs : List Int) (n : Nat) : List Int := (List.range ((n + 3) / 4)).map (leafG xs n)
theorem leavesP_len (xs : List Int) (n : Nat) : (leavesP xs n).length = (n + 3) / 4 := by unfold leavesP; simp
theorem leavesP_ok (xs : List Int) (n : Nat) : okL (leavesP xs n) := by
  intro i hi
  rw [leavesP_len] at hi
  unfold leavesP
  simp only [List.getD_eq_getElem?_getD, List.getElem?_map, List.getElem?_range hi, Option.map_some, Option.getD_some]
  exact okW_of_P (ofP_ok _ _)

set_option maxHeartbeats 1600000 in
theorem leaves_calls (a : Option Addr) (n c : Nat) (xs : List Int) (w : World) (ha : Lst w a n c xs) (h1 : 1 ≤ n) (h2 : n ≤ 200) :
    Calls Tryz.prog 101 #[.slice a n c] w fun e w' => ∃ a', e = .returned (.tuple #[.slice a' ((n + 3) / 4 : Nat) ((n + 3) / 4 : Nat), .int .i64 0]) ∧ LstW w' a' ((n + 3) / 4) ((n + 3) / 4) (leavesP xs n) ∧ Below w.heap.size w w' := by
  unfold leavesP
  have n0 : ((n : Int) == 0) = false := by rw [beq_eq_false_iff_ne]; omega
  have HC : Hid (∀ w, Calls Tryz.prog 127 #[.int .i64 n] w fun e w' => e = .returned (.int .i64 ((n + 3) / 4 : Nat)) ∧ w' = w) := chunks_calls n h2
  obtain ⟨N, hN⟩ : ∃ N, (n + 3) / 4 = N := ⟨_, rfl⟩
  rw [hN] at HC ⊢
  have hmk := run_make_row' (P := Tryz.prog) 115 22 (.int .u64 0) 8 Tryz.underlying115 infoW rfl .i64 .i64 N (by omega) (by omega)
  obtain ⟨b, off, x, rfl, hb, h0, HX⟩ := ha.at1 (k := 0) (by omega)
  have HK := ha.cap
  go_enter Tryz.func101, Tryz.ntmps101
  go_wp2_with (go_at_call 127; refine (HC.out _).mono ?_; rintro e w' ⟨rfl, hw'⟩; replace hw' := hw'.symm; subst hw')
  go_loopw [19] (fun i wr => ∃ k : Nat, k ≤ N ∧ i = .int .i64 k ∧ wr.rowIs w.heap.size 22 N (rowToW (leafG xs n) k) ∧ Below w.heap.size w wr) (fun i _ => N - (intOf i).toNat)
  case atStart => exact ⟨0, Nat.zero_le _, rfl, rowToW_made (World.rowIs_made _ _ _ _), (Below.refl _ _).alloc (Nat.le_refl _) _⟩
  case round =>
    obtain ⟨k, hk, rfl, hrow, hbel⟩ := hrel
    have ha' := ha.below hbel (Nat.le_refl _)
    clear ha hmk
    by_cases hlt : k < N
    · obtain ⟨lo, hlo⟩ : ∃ lo, k * 4 = lo := ⟨_, rfl⟩
      obtain ⟨hi, hhi⟩ : ∃ hi, hiN n k = hi := ⟨_, rfl⟩
      have hh : lo ≤ hi ∧ hi ≤ n ∧ hi ≤ lo + 4 := by unfold hiN at hhi; omega
      have hs := ha'.sub (by omega) lo hi (by omega) (by omega)
      have HG : Hid (leafG xs n k = ofP 4 (numL ((xs.drop lo).take (hi - lo)) (hi - lo))) := by show leafG xs n k = _; unfold leafG; rw [hlo, hhi]
      have HM : Hid (hi = min (lo + 4) n) := by show hi = min (lo + 4) n; rw [← hhi, ← hlo]; rfl
      have c3 := rowToW_cell hrow hlt
      have f3 := hrow.frozen k
      have e1 : (k : Int) * 4 = (lo : Int) := by omega
      clear hhi hlo
      have hlr := hrow.lt
      go_wp2_with fail
      all_goals
        first
          | rw [show ((lo : Int) + 4).toNat = hi from by have := HM.out; omega]
          | rw [show n - lo = hi - lo from by have := HM.out; omega]
        refine (leaf_calls _ _ _ _ _ hs (by omega)).mono ?_
        rintro e w1 ⟨rfl, hw1⟩
        have hrow1 := hrow.of_block (hw1.block _ hlr)
        have d3 := rowToW_cell hrow1 hlt
        have g3 := hrow1.frozen k
        clear c3 f3
        go_wp2
        go_roundw
        case rel =>
          have st := rowToW_step (g := leafG xs n) hrow1
          rw [HG.out] at st
          exact ⟨k + 1, by omega, by go_num, st, (hbel.trans (hw1.mono hbel.size)).setCell (Nat.le_refl _) _⟩
        case measure => simp [intOf]; omega
    · go_wp2
      go_ret2
      obtain rfl : k = N := by omega
      exact ⟨_, rfl, rowToW_lst hrow, hbel⟩

/-- The root of two lists, one behind the other. -/
def rootP (ws ms : List Int) (n : Nat) : Int := ofP 3 [(n : Int), treeP (leavesP (ws ++ ms) n)]
end Go.Proofs.YtgihnliipfdokaaGreat.Fx

/- A journal in plain numbers: roots, heads, chains, records; and how records lie in memory; no function of the program is spoken of. -/
namespace Go.Proofs.YtgihnliipfdokaaGreat.Fx
open Go.RowKit

/-- What a head is a digest of. -/
def headL (c : Cfg) (n : Nat) (DI DO : Nat → List Int) (N : Nat) : List Int :=
  [c.i, c.h, c.o, c.seed, c.batch, c.steps, c.rate, c.decay, c.how, c.keep, c.clip] ++ (List.range n).map (fun j => rootP (DI j) (DO j) ((DI j).length + (DO j).length)) ++ [rootP ((List.range N).map (startG c.seed)) ((List.range N).map zeroG) (N + N)]
def headP (c : Cfg) (n : Nat) (DI DO : Nat → List Int) (N : Nat) : Int := ofP 5 (headL c n DI DO N)
def chainL (before step rate root : Int) (bs : List Int) : List Int := [before, step, rate, root, (bs.length : Int)] ++ bs
def chainP (before step rate root : Int) (bs : List Int) : Int := ofP 6 (chainL before step rate root bs)
/-- May a record be chained? -/
def nonB (bs : List Int) : Bool := bs.all fun x => decide (0 ≤ x)
def chB (step rate : Int) (len : Nat) (bs : List Int) : Bool := decide (0 ≤ step) && decide (0 ≤ rate) && decide (len ≤ 8) && nonB bs
theorem nonB_true {xs : List Int} (h : ∀ j, j < xs.length → 0 ≤ xs.getD j 0) : nonB xs = true := by
  unfold nonB
  rw [List.all_eq_true]
  intro x hx
  obtain ⟨i, hi, rfl⟩ := List.getElem_of_mem hx
  have := h i hi
  rw [List.getD_eq_getElem?_getD, List.getElem?_eq_getElem hi, Option.getD_some] at this
  exact decide_eq_true this
theorem nonB_get {xs : List Int} (h : nonB xs = true) (j : Nat) : 0 ≤ xs.getD j 0 := by
  unfold nonB at h
  rw [List.all_eq_true] at h
  rcases Nat.lt_or_ge j xs.length with hj | hj
  · have := of_decide_eq_true (h (xs[j]) (List.getElem_mem hj))
    rw [List.getD_eq_getElem?_getD, List.getElem?_eq_getElem hj, Option.getD_some]
    exact this
  · rw [List.getD_eq_getElem?_getD, List.getElem?_eq_none hj]
    exact Int.le_refl _
theorem nonB_false {xs : List Int} {k : Nat} (h : ¬ 0 ≤ xs.getD k 0) : nonB xs = false := by
  cases e : nonB xs with
  | false => rfl
  | true => exact absurd (nonB_get e k) h
/-- Whether the first k are not below nothing. -/
def nonTo (xs : List Int) (k : Nat) (b0 ok : Bool) : Prop := ok = true ↔ (b0 = true ∧ ∀ j, j < k → 0 ≤ xs.getD j 0)
theorem nonTo_zero (xs : List Int) (b0 : Bool) : nonTo xs 0 b0 b0 := ⟨fun h => ⟨h, fun j hj => by omega⟩, fun h => h.1⟩
theorem nonTo_step {xs : List Int} {k : Nat} {b0 ok : Bool} {x : Int} (h : nonTo xs k b0 ok) (hx : xs.getD k 0 = x) : nonTo xs (k + 1) b0 (ok && decide (0 ≤ x)) := by
  unfold nonTo
  rw [Bool.and_eq_true, decide_eq_true_eq]
  refine ⟨fun g => ⟨(h.1 g.1).1, fun j hj => ?_⟩, fun g => ⟨h.2 ⟨g.1, fun j hj => g.2 j (by omega)⟩, by rw [← hx]; exact g.2 k (by omega)⟩⟩
  by_cases e : j = k
  · subst e; rw [hx]; exact g.2
  · exact (h.1 g.1).2 j (by omega)
theorem nonTo_end {xs : List Int} {k : Nat} {b0 ok : Bool} (h : nonTo xs k b0 ok) (hk : xs.length = k) : ok = (b0 && nonB xs) := by
  cases ok with
  | true =>
    obtain ⟨g1, g2⟩ := h.1 rfl
    rw [g1, nonB_true (fun j hj => g2 j (by omega))]; rfl
  | false =>
    cases e1 : b0 with
    | false => rfl
    | true =>
      cases e2 : nonB xs with
      | false => rfl
      | true => exact absurd (h.2 ⟨e1, fun j _ => nonB_get e2 j⟩) (by decide)

/-- The records of a course. -/
def jrRoot (c : Cfg) (n : Nat) (DI DO : Nat → List Int) (N k : Nat) : Int := rootP (stateP c n DI DO N (k + 1)).1 (stateP c n DI DO N (k + 1)).2 (N + N)
def jrBatch (c : Cfg) (n k : Nat) : List Int := batchP c.seed c.batch.toNat n (k * c.batch.toNat)
def jrChain (c : Cfg) (n : Nat) (DI DO : Nat → List Int) (N : Nat) : Nat → Int
  | 0 => headP c n DI DO N
  | k + 1 => chainP (jrChain c n DI DO N k) (k : Int) (rateV c k) (jrRoot c n DI DO N k) (jrBatch c n k)

theorem okL_app {xs ys : List Int} (hx : okL xs) (hy : okL ys) : okL (xs ++ ys) := by
  intro i hi
  rw [List.length_append] at hi
  rcases Nat.lt_or_ge i xs.length with h | h
  · rw [List.getD_eq_getElem?_getD, List.getElem?_append_left h, ← List.getD_eq_getElem?_getD]; exact hx i h
  · rw [List.getD_eq_getElem?_getD, List.getElem?_append_right h, ← List.getD_eq_getElem?_getD]; exact hy _ (by omega)
theorem okL_non {xs : List Int} (h : nonB xs = true) (h2 : ∀ j, xs.getD j 0 ≤ 9223372036854775807) : okL xs := fun i _ => ⟨nonB_get h i, by have := h2 i; omega⟩
end Go.Proofs.YtgihnliipfdokaaGreat.Fx

/- What package journal's functions answer, in plain numbers, for every input; no function of the program is spoken of. -/
namespace Go.Proofs.YtgihnliipfdokaaGreat.Fx
open Go.RowKit

def rootE (n1 n2 : Nat) : Int := if n1 + n2 = 0 then 1 else if 200 < n1 + n2 then 2 else 0
def rootV (n1 : Nat) (ws : List Int) (n2 : Nat) (ms : List Int) : Int := if rootE n1 n2 = 0 then rootP ws ms (n1 + n2) else 0
def headV (c : Cfg) (n : Nat) (X : Nat → Exm) (DI DO : Nat → List Int) : Int := if courseI c n X DI DO = 0 then headP c n DI DO (sizeN c).toNat else 0
def chE (step rate : Int) (len : Nat) (bs : List Int) : Int := if chB step rate len bs = true then 0 else 5
def chV (before step rate root : Int) (len : Nat) (bs : List Int) : Int := if chB step rate len bs = true then chainP before step rate root bs else 0
def mkE (c : Cfg) (n : Nat) (X : Nat → Exm) (DI DO : Nat → List Int) (m : Int) : Int := if courseI c n X DI DO = 0 then (if inB m 0 c.steps = true then 0 else 1) else courseI c n X DI DO
def mkN (c : Cfg) (n : Nat) (X : Nat → Exm) (DI DO : Nat → List Int) (m : Int) : Nat := if mkE c n X DI DO m = 0 then m.toNat else 0
def mkRV (c : Cfg) (j : Nat) : Int := rateV c j
def mkRO (c : Cfg) (n : Nat) (DI DO : Nat → List Int) : Nat → Int := jrRoot c n DI DO (sizeN c).toNat
def mkCH (c : Cfg) (n : Nat) (DI DO : Nat → List Int) : Nat → Int := jrChain c n DI DO (sizeN c).toNat
theorem course_is {c : Cfg} {n : Nat} {X : Nat → Exm} {DI DO : Nat → List Int} (h : courseI c n X DI DO = 0) : cfgB c = true ∧ 1 ≤ n ∧ n ≤ 16 ∧ allEx c n X DI DO = true := by
  unfold courseI at h
  by_cases h1 : cfgB c = true
  · rw [if_pos h1] at h
    by_cases h2 : n = 0
    · rw [if_pos h2] at h; cases h
    · rw [if_neg h2] at h
      by_cases h3 : 16 < n
      · rw [if_pos h3] at h; cases h
      · rw [if_neg h3] at h
        by_cases h4 : allEx c n X DI DO = true
        · exact ⟨h1, by omega, by omega, h4⟩
        · rw [if_neg h4] at h; cases h
  · rw [if_neg h1] at h; cases h
/-- A batch's numbers, one by one. -/
def jrG (c : Cfg) (n k : Nat) : Nat → Int := batchG c.seed n (k * c.batch.toNat)
theorem jrBatch_is (c : Cfg) (n : Nat) : jrBatch c n = fun k => (List.range c.batch.toNat).map (jrG c n k) := rfl
def noRec : Nat → Rcm := fun _ => ⟨0, none, 0, 0, 0, 0, 0⟩
/-- What the first records say. -/
def JrN (k : Nat) (R : Nat → Rcm) (RV RO CH : Nat → Int) : Prop := ∀ j, j < k → (R j).s = (j : Int) ∧ (R j).r = RV j ∧ (R j).root = RO j ∧ (R j).chain = CH (j + 1)
theorem JrN.push {k : Nat} {R R2 : Nat → Rcm} {RV RO CH : Nat → Int} (h : JrN k R RV RO CH) (hR : ∀ j, j < k → R2 j = R j) (h1 : (R2 k).s = (k : Int)) (h2 : (R2 k).r = RV k) (h3 : (R2 k).root = RO k) (h4 : (R2 k).chain = CH (k + 1)) : JrN (k + 1) R2 RV RO CH := fun j hj => by
  by_cases e : j = k
  · subst e; exact ⟨h1, h2, h3, h4⟩
  · rw [hR j (by omega)]; exact h j (by omega)
end Go.Proofs.YtgihnliipfdokaaGreat.Fx

/- What coachref.Like and SameRecords return, whatever records lie there. -/
namespace Go.Proofs.YtgihnliipfdokaaGreat.Fx
open Go.RowKit

/-- Are two records the same, but for the chain? -/
def likeB (x y : Rcm) (xs ys : List Int) : Bool := decide (x.s = y.s) && decide (x.r = y.r) && decide (x.root = y.root) && decide (xs = ys)
def recB (x y : Rcm) (xs ys : List Int) : Bool := likeB x y xs ys && decide (x.chain = y.chain)
def recsB (n m : Nat) (X Y : Nat → Rcm) (DX DY : Nat → List Int) : Bool := decide (n = m) && (List.range n).all fun i => recB (X i) (Y i) (DX i) (DY i)
theorem beq_dec (x y : Int) : (x == y) = decide (x = y) := by
  by_cases h : x = y
  · rw [decide_eq_true h]; simpa using h
  · rw [decide_eq_false h]; simpa using h

set_option maxRecDepth 100000 in
set_option maxHeartbeats 1600000 in
theorem rlike_calls (x y : Rcm) (xs ys : List Int) (w : World) (l1 : Lst w x.a x.n x.k xs) (l2 : Lst w y.a y.n y.k ys) (hn : x.n ≤ 1000000000000000000) :
    Calls Tryz.prog 12 #[x.val, y.val] w fun e w' => e = .returned (.bool (likeB x y xs ys)) ∧ Below w.heap.size w w' := by
  have hal := (low_alloc w (.cells x.cells 37)).trans ((low_alloc (w.alloc (.cells x.cells 37)) (.cells y.cells 37)).mono (low_alloc w (.cells x.cells 37)).size)
  have m1 := l1.below hal (Nat.le_refl _)
  have m2 := l2.below hal (Nat.le_refl _)
  unfold likeB
  clear l1 l2
  obtain ⟨s, a, n, k, r, root, chain⟩ := x
  obtain ⟨s', a', n', k', r', root', chain'⟩ := y
  simp only [Rcm.val, Rcm.cells] at *
  by_cases h1 : s = s'
  rotate_left
  · have qh1 : (s == s') = false := by simpa using h1
    go_enter Tryz.func12, Tryz.ntmps12
    go_wp2_with fail
    go_ret
    exact ⟨ret_bool (by simp [h1]), hal⟩
  have qh1 : (s == s') = true := by simpa using h1
  by_cases h2 : r = r'
  rotate_left
  · have qh2 : (r == r') = false := by simpa using h2
    clear h1
    go_enter Tryz.func12, Tryz.ntmps12
    go_wp2_with fail
    go_ret
    exact ⟨ret_bool (by simp [h2]), hal⟩
  have qh2 : (r == r') = true := by simpa using h2
  by_cases h3 : root = root'
  rotate_left
  · have qh3 : (root == root') = false := by simpa using h3
    clear h1 h2
    go_enter Tryz.func12, Tryz.ntmps12
    go_wp2_with fail
    go_ret
    exact ⟨ret_bool (by simp [h3]), hal⟩
  have qh3 : (root == root') = true := by simpa using h3
  have HL : Hid ((decide (s = s') && decide (r = r') && decide (root = root') && decide (xs = ys)) = decide (xs = ys)) := by show _ = _; rw [decide_eq_true h1, decide_eq_true h2, decide_eq_true h3]; simp
  clear h1 h2 h3
  go_enter Tryz.func12, Tryz.ntmps12
  go_wp2_with fail
  refine (eq_calls _ _ _ _ _ _ xs ys _ m1 m2 (by omega)).mono ?_
  rintro e w1 ⟨rfl, k5, hw5⟩
  subst hw5
  go_wp2_with fail
  go_ret
  exact ⟨ret_bool (by rw [HL.out]), below_drewN hal _⟩

set_option maxRecDepth 100000 in
set_option maxHeartbeats 1600000 in
theorem rsame1_calls (x y : Rcm) (xs ys : List Int) (w : World) (l1 : Lst w x.a x.n x.k xs) (l2 : Lst w y.a y.n y.k ys) (hn : x.n ≤ 1000000000000000000) :
    Calls Tryz.prog 44 #[x.val, y.val] w fun e w' => e = .returned (.bool (recB x y xs ys)) ∧ Below w.heap.size w w' := by
  have ha1 := low_alloc w (.cells x.cells 37)
  have hal := ha1.trans ((low_alloc (w.alloc (.cells x.cells 37)) (.cells y.cells 37)).mono ha1.size)
  have HLK : Hid (Calls Tryz.prog 12 #[x.val, y.val] ((w.alloc (.cells x.cells 37)).alloc (.cells y.cells 37)) fun e w' => e = .returned (.bool (likeB x y xs ys)) ∧ Below ((w.alloc (.cells x.cells 37)).alloc (.cells y.cells 37)).heap.size ((w.alloc (.cells x.cells 37)).alloc (.cells y.cells 37)) w') := rlike_calls x y xs ys _ (l1.below hal (Nat.le_refl _)) (l2.below hal (Nat.le_refl _)) hn
  have rx := (fn5_alloc w (.int .i64 x.s) (.slice x.a x.n x.k) (.int .i64 x.r) (.int .u64 x.root) (.int .u64 x.chain) 37).alloc (.cells y.cells 37)
  have ry := fn5_alloc (w.alloc (.cells x.cells 37)) (.int .i64 y.s) (.slice y.a y.n y.k) (.int .i64 y.r) (.int .u64 y.root) (.int .u64 y.chain) 37
  unfold recB
  clear l1 l2 ha1
  generalize likeB x y xs ys = LB at *
  obtain ⟨s, a, n, k, r, root, chain⟩ := x
  obtain ⟨s', a', n', k', r', root', chain'⟩ := y
  simp only [Rcm.val, Rcm.cells] at *
  simp at ry
  cases LB with
  | false =>
    go_enter Tryz.func44, Tryz.ntmps44
    go_wp2_with fail
    refine HLK.out.mono ?_
    rintro e w1 ⟨rfl, hw1⟩
    go_wp2_with fail
    go_ret
    exact ⟨rfl, hal.trans (hw1.mono hal.size)⟩
  | true =>
    go_enter Tryz.func44, Tryz.ntmps44
    go_wp2_with fail
    refine HLK.out.mono ?_
    rintro e w1 ⟨rfl, hw1⟩
    have x4 := (fn5_box (rx.of_block (hw1.block _ rx.lt))).c4
    have y4 := (fn5_box (ry.of_block (hw1.block _ ry.lt))).c4
    go_wp2_with fail
    go_ret
    exact ⟨ret_bool (by rw [Bool.true_and]; exact beq_dec _ _), hal.trans (hw1.mono hal.size)⟩

set_option maxRecDepth 100000 in
set_option maxHeartbeats 3200000 in
theorem eqr_calls (a b : Option Addr) (n m c1 c2 : Nat) (X Y : Nat → Rcm) (DX DY : Nat → List Int) (w : World) (hx : Recs w a n c1 X DX) (hy : Recs w b m c2 Y DY) (hn : n ≤ 1000000000000000) (hxn : ∀ j, j < n → (X j).n ≤ 1000000000000000000) :
    Calls Tryz.prog 43 #[.slice a n c1, .slice b m c2, .func (.func 44) #[] #[]] w fun e w' => e = .returned (.bool (recsB n m X Y DX DY)) ∧ Below w.heap.size w w' := by
  by_cases hnm : n = m
  · subst hnm
    have hne : ((n : Int) != (n : Int)) = false := by simp
    have HXN : Hid (∀ j, j < n → (X j).n ≤ 1000000000000000000) := hxn
    have HOK : Hid ((∀ j, j < n → recB (X j) (Y j) (DX j) (DY j) = true) → recsB n n X Y DX DY = true) := fun h => by
      unfold recsB
      rw [decide_eq_true rfl, Bool.true_and, List.all_eq_true]
      exact fun i hi => h i (List.mem_range.1 hi)
    have HBAD : Hid (∀ j, j < n → recB (X j) (Y j) (DX j) (DY j) = false → recsB n n X Y DX DY = false) := fun j hj h => by
      unfold recsB
      rw [decide_eq_true rfl, Bool.true_and, List.all_eq_false]
      exact ⟨j, List.mem_range.2 hj, by rw [h]; decide⟩
    generalize recsB n n X Y DX DY = RB at *
    clear hxn
    go_enter Tryz.func43, Tryz.ntmps43
    go_wp2_with fail
    go_loopw [17] (fun v wr => ∃ k : Nat, k ≤ n ∧ v = .int .i64 k ∧ Hid (∀ j, j < k → recB (X j) (Y j) (DX j) (DY j) = true) ∧ Below w.heap.size w wr) (fun v _ => n - (intOf v).toNat)
    case atStart => exact ⟨0, Nat.zero_le _, rfl, fun j hj => by omega, Below.refl _ _⟩
    case round =>
      obtain ⟨k, hk, rfl, hg, hbel⟩ := hrel
      have hx1 := hx.below hbel (Nat.le_refl _)
      have hy1 := hy.below hbel (Nat.le_refl _)
      by_cases hlt : k < n
      · have hlen := HXN.out k hlt
        rcases hx1.2 with h0 | ⟨xb, xo, rfl, _, hc⟩
        · omega
        rcases hy1.2 with h0 | ⟨yb, yo, rfl, _, hd⟩
        · omega
        obtain ⟨e0, e1, e2, e3, e4, lx⟩ := hc k hlt
        obtain ⟨f0, f1, f2, f3, f4, ly⟩ := hd k hlt
        have hbad := HBAD.out k hlt
        have hgood : recB (X k) (Y k) (DX k) (DY k) = true → ∀ j, j < k + 1 → recB (X j) (Y j) (DX j) (DY j) = true := fun g j hj => by
          by_cases e : j = k
          · subst e; exact g
          · exact hg.out j (by omega)
        obtain ⟨x, hxk⟩ : ∃ x, X k = x := ⟨_, rfl⟩
        obtain ⟨y, hyk⟩ : ∃ y, Y k = y := ⟨_, rfl⟩
        rw [hxk] at e0 e1 e2 e3 e4 lx hlen hbad hgood
        rw [hyk] at f0 f1 f2 f3 f4 ly hbad hgood
        have ha := low_alloc wr (.cells x.cells 37)
        have ha2 := ha.trans ((low_alloc (wr.alloc (.cells x.cells 37)) (.cells y.cells 37)).mono ha.size)
        have SM : Calls Tryz.prog 44 #[x.val, y.val] ((wr.alloc (.cells x.cells 37)).alloc (.cells y.cells 37)) fun e w' => e = .returned (.bool (recB x y (DX k) (DY k))) ∧ Below ((wr.alloc (.cells x.cells 37)).alloc (.cells y.cells 37)).heap.size ((wr.alloc (.cells x.cells 37)).alloc (.cells y.cells 37)) w' := rsame1_calls x y (DX k) (DY k) _ (lx.below ha2 (Nat.le_refl _)) (ly.below ha2 (Nat.le_refl _)) hlen
        have g0 := (ha.cell (p := ⟨yb, yo + k * 5, none⟩) (cell_lt f0)).trans f0
        have g1 := (ha.cell (p := ⟨yb, yo + k * 5 + 1, none⟩) (cell_lt f1)).trans f1
        have g2 := (ha.cell (p := ⟨yb, yo + k * 5 + 2, none⟩) (cell_lt f2)).trans f2
        have g3 := (ha.cell (p := ⟨yb, yo + k * 5 + 3, none⟩) (cell_lt f3)).trans f3
        have g4 := (ha.cell (p := ⟨yb, yo + k * 5 + 4, none⟩) (cell_lt f4)).trans f4
        have kn : (k : Int) < (n : Int) := by omega
        have HB : Hid (recB x y (DX k) (DY k) = false → RB = false) := hbad
        have HG : Hid (recB x y (DX k) (DY k) = true → ∀ j, j < k + 1 → recB (X j) (Y j) (DX j) (DY j) = true) := hgood
        clear hx hy hx1 hy1 hxk hyk lx ly hlen HXN hc hd f0 f1 f2 f3 f4 hbad hgood hg
        generalize recB x y (DX k) (DY k) = QB at *
        obtain ⟨s, ax, nx, kx, r, root, chain⟩ := x
        obtain ⟨s', ay, ny, ky, r', root', chain'⟩ := y
        simp only [Rcm.val, Rcm.cells] at *
        cases QB with
        | false =>
          go_wp2_with fail
          refine SM.mono ?_
          rintro e w1 ⟨rfl, hw1⟩
          go_wp2_with fail
          go_ret
          exact ⟨ret_bool (HB.out (by trivial)).symm, hbel.trans ((ha2.trans (hw1.mono ha2.size)).mono hbel.size)⟩
        | true =>
          go_wp2_with fail
          refine SM.mono ?_
          rintro e w1 ⟨rfl, hw1⟩
          have hb1 := hbel.trans ((ha2.trans (hw1.mono ha2.size)).mono hbel.size)
          go_wp2_with fail
          go_roundw
          case rel => exact ⟨k + 1, by omega, by go_num, HG.out (by trivial), hb1⟩
          case measure => simp [intOf]; omega
      · obtain rfl : k = n := by omega
        go_wp2_with fail
        go_ret
        exact ⟨ret_bool (HOK.out hg.out).symm, hbel⟩
  · have hne : ((n : Int) != (m : Int)) = true := by rw [bne_iff_ne]; omega
    have HR : Hid (recsB n m X Y DX DY = false) := by show recsB n m X Y DX DY = false; unfold recsB; rw [decide_eq_false hnm, Bool.false_and]
    clear hx hy hxn hnm
    go_enter Tryz.func43, Tryz.ntmps43
    go_wp2_with fail
    go_ret
    exact ⟨ret_bool HR.out.symm, Below.refl _ _⟩

theorem rsameR_calls (a b : Option Addr) (n m c1 c2 : Nat) (X Y : Nat → Rcm) (DX DY : Nat → List Int) (w : World) (hx : Recs w a n c1 X DX) (hy : Recs w b m c2 Y DY) (hn : n ≤ 1000000000000000) (hxn : ∀ j, j < n → (X j).n ≤ 1000000000000000000) :
    Calls Tryz.prog 17 #[.slice a n c1, .slice b m c2] w fun e w' => e = .returned (.bool (recsB n m X Y DX DY)) ∧ Below w.heap.size w w' := by
  have K := eqr_calls a b n m c1 c2 X Y DX DY w hx hy hn hxn
  clear hx hy hn hxn
  go_enter Tryz.func17, Tryz.ntmps17
  go_wp2_with fail
  refine K.mono ?_
  rintro e w1 ⟨rfl, hw1⟩
  go_wp2_with fail
  go_ret
  exact ⟨rfl, hw1⟩
end Go.Proofs.YtgihnliipfdokaaGreat.Fx

/- What audit.Whole answers, in plain numbers, for every input; no function of the program is spoken of. -/
namespace Go.Proofs.YtgihnliipfdokaaGreat.Fx
open Go.RowKit

/-- The first number below n at which f says no, or n. -/
def firstNo (f : Nat → Bool) : Nat → Nat
  | 0 => 0
  | n + 1 => if firstNo f n < n then firstNo f n else if f n = true then n + 1 else n
theorem firstNo_eq (f : Nat → Bool) : ∀ (n k : Nat), k ≤ n → (∀ j, j < k → f j = true) → (k < n → f k = false) → firstNo f n = k
  | 0, k, h1, _, _ => by unfold firstNo; omega
  | n + 1, k, h1, h2, h3 => by
    by_cases hk : k ≤ n
    · have ih := firstNo_eq f n k hk h2 (fun h => h3 (by omega))
      unfold firstNo
      rw [ih]
      by_cases e : k < n
      · rw [if_pos e]
      · obtain rfl : k = n := by omega
        rw [if_neg e, if_neg (by rw [h3 (by omega)]; decide)]
    · obtain rfl : k = n + 1 := by omega
      have ih := firstNo_eq f n n (Nat.le_refl _) (fun j hj => h2 j (by omega)) (fun h => by omega)
      unfold firstNo
      rw [ih, if_neg (by omega), if_pos (h2 n (by omega))]
theorem firstNo_le (f : Nat → Bool) : ∀ n, firstNo f n ≤ n
  | 0 => Nat.le_refl _
  | n + 1 => by
    have ih := firstNo_le f n
    unfold firstNo
    by_cases h : firstNo f n < n
    · rw [if_pos h]; omega
    · rw [if_neg h]
      by_cases h2 : f n = true
      · rw [if_pos h2]; omega
      · rw [if_neg h2]; omega
/-- Is that record just as journal.Make's? -/
def auB (c : Cfg) (n : Nat) (DI DO : Nat → List Int) (L : Nat → Rcm) (DL : Nat → List Int) (j : Nat) : Bool :=
  decide ((L j).s = (j : Int)) && decide ((L j).r = mkRV c j) && decide ((L j).root = mkRO c n DI DO j) && decide (DL j = jrBatch c n j) && decide ((L j).chain = mkCH c n DI DO (j + 1))
theorem auB_is {c : Cfg} {n : Nat} {DI DO : Nat → List Int} {m : Nat} {R : Nat → Rcm} (h : JrN m R (mkRV c) (mkRO c n DI DO) (mkCH c n DI DO)) (L : Nat → Rcm) (DL : Nat → List Int) {j : Nat} (hj : j < m) : auB c n DI DO L DL j = recB (L j) (R j) (DL j) (jrBatch c n j) := by
  obtain ⟨e1, e2, e3, e4⟩ := h j hj
  unfold auB recB likeB
  rw [e1, e2, e3, e4]
def whE (c : Cfg) (n : Nat) (X : Nat → Exm) (DI DO : Nat → List Int) (m : Nat) : Int := if courseI c n X DI DO = 0 then (if (m : Int) ≤ c.steps then 0 else 2) else courseI c n X DI DO
def whN (c : Cfg) (n : Nat) (X : Nat → Exm) (DI DO : Nat → List Int) (m : Nat) (L : Nat → Rcm) (DL : Nat → List Int) : Nat := if whE c n X DI DO m = 0 then firstNo (auB c n DI DO L DL) m else 0
end Go.Proofs.YtgihnliipfdokaaGreat.Fx

/- A list of words that the program itself makes by append: what is known of it, and what one append more leaves. -/
namespace Go.Proofs.YtgihnliipfdokaaGreat.Fx
open Go.RowKit

/-- The slice value v, made from block number base on, owns the words xs. -/
def OwnW (base : Nat) (w : World) (v : Value) (xs : List Int) : Prop := w.ownsRow base 22 1 v xs.length (xs.map (Value.int .u64))

theorem OwnW.nil (base : Nat) (w : World) : OwnW base w (.slice none 0 0) [] := World.ownsRow_nil _ _ _ _
theorem OwnW.drew {base : Nat} {w : World} {v : Value} {xs : List Int} (h : OwnW base w v xs) : OwnW base w.drew v xs := h
theorem OwnW.drewN {base : Nat} {w : World} {v : Value} {xs : List Int} (h : OwnW base w v xs) (n : Nat) : OwnW base (w.drewN n) v xs := h
theorem OwnW.alloc {base : Nat} {w : World} {v : Value} {xs : List Int} (h : OwnW base w v xs) (o : Obj) : OwnW base (w.alloc o) v xs := World.ownsRow.alloc h o
theorem OwnW.below {base : Nat} {w w' : World} {v : Value} {xs : List Int} (h : OwnW base w v xs) (hb : Below w.heap.size w w') : OwnW base w' v xs := by
  refine ⟨h.1, ?_⟩
  rcases h.2 with h0 | ⟨g, cap, cur, hv, hg, hh, r⟩
  · exact .inl h0
  · exact .inr ⟨g, cap, cur, hv, hg, by rw [hb.block g (Array.getElem?_eq_some_iff.1 hh).1]; exact hh, r⟩
theorem OwnW.lst {base : Nat} {w : World} {v : Value} {xs : List Int} (h : OwnW base w v xs) : ∃ a c, v = .slice a xs.length c ∧ LstW w a xs.length c xs := LstW.owned h
theorem OwnW.lst' {base : Nat} {w : World} {v : Value} {xs : List Int} {n : Nat} (h : OwnW base w v xs) (hn : xs.length = n) : ∃ a c, v = .slice a n c ∧ LstW w a n c xs := by
  subst hn; exact LstW.owned h
theorem OwnW.congr {base : Nat} {w : World} {v : Value} {xs ys : List Int} (h : OwnW base w v xs) (e : xs = ys) : OwnW base w v ys := e ▸ h
theorem range_snocW (g : Nat → Int) (k : Nat) (x : Int) (h : g k = x) : (List.range k).map g ++ [x] = (List.range (k + 1)).map g := by
  rw [List.range_succ, List.map_append, List.map_singleton, h]

section
variable {w' W0 : World} {ops : Array Oper} {o : Oper} {a : Act} {Q : Exit → Act → World → Prop}

theorem run_append_word (ty : TypeId) (base : Nat) (v : Value) (xs : List Int) (z : Int) (g : Nat) (hown : OwnW base w' v xs) (hc : w'.cell? ⟨g, 0, none⟩ = some (.int .u64 z))
    (hn : (xs.length + 1) * 8 ≤ 140737488355328) (hbase : base ≤ w'.heap.size) (hB : Below base W0 w') :
    ∃ v' w1, (Builtin.append_ #[115, 115] ty #[v, .slice (some ⟨g, 0, none⟩) 1 1]).run Tryz.prog w' = .ok v' w1 ∧ OwnW base w1 v' (xs ++ [z]) ∧ Below base W0 w1 := by
  obtain ⟨i0, hi, hz0, hz1, hz2⟩ := info_parts infoW
  obtain ⟨v', w1, hrun, h1, h2, _⟩ := run_append_own (P := Tryz.prog) w' base 115 ty 22 i0 (.int .u64 0) 1 8 Tryz.underlying115 hi hz0 hz1 hz2 rfl (by decide) v xs.length _ hown ⟨g, 0, none⟩ 1 1 [.int .u64 z] rfl
    (by intro j u hj
        match j, hj with
        | 0, hj => simp at hj; subst hj; simpa [Addr.add] using hc)
    (by intro u hu; simp at hu; subst hu; rfl) (by unfold maxLen; omega) hn hbase
  refine ⟨v', w1, hrun, by unfold OwnW; rw [List.length_append, List.map_append]; exact h1, hB.grown h2 hbase ?_⟩
  intro k hk
  rcases hown.2 with ⟨rfl, _⟩ | ⟨g', cap, cur, rfl, hg, _⟩
  · simp [Value.ownBlock] at hk
  · simp [Value.ownBlock] at hk; omega

theorem wpList_append_word {rest : List Oper} (hgd : o.guard = none) (s x : Operand) (ho : o.op = .call { callee := .builtin .append, args := #[s, x], argTypes := #[115, 115] })
    (base : Nat) (v : Value) (xs : List Int) (z : Int) (g : Nat) (W0 : World) (hs : a.eval s = v) (hx : a.eval x = .slice (some ⟨g, 0, none⟩) 1 1) (hown : OwnW base w' v xs) (hc : w'.cell? ⟨g, 0, none⟩ = some (.int .u64 z))
    (hn : (xs.length + 1) * 8 ≤ 140737488355328) (hbase : base ≤ w'.heap.size) (hB : Below base W0 w')
    (h : ∀ v' w1, OwnW base w1 v' (xs ++ [z]) → Below base W0 w1 → wpList Tryz.prog ops Q rest (a.put o.dst v') w1) : wpList Tryz.prog ops Q (o :: rest) a w' := by
  obtain ⟨v', w1, hrun, h1, h2⟩ := run_append_word o.type base v xs z g hown hc hn hbase hB
  refine wpList_plain hgd fun K hK => ?_
  unfold Oper.wp
  simp [execOp, ho, resolve, invoke, builtin, hs, hx, hrun, Result.andThen]
  exact hK _ _ (h v' w1 h1 h2)

theorem step_append_word {K : Act → World → Prop} {E : Prop} (hgd : o.guard = none) (s x : Operand) (ho : o.op = .call { callee := .builtin .append, args := #[s, x], argTypes := #[115, 115] })
    (base : Nat) (v : Value) (xs : List Int) (z : Int) (g : Nat) (W0 : World) (hs : a.eval s = v) (hx : a.eval x = .slice (some ⟨g, 0, none⟩) 1 1) (hown : OwnW base w' v xs) (hc : w'.cell? ⟨g, 0, none⟩ = some (.int .u64 z))
    (hn : (xs.length + 1) * 8 ≤ 140737488355328) (hbase : base ≤ w'.heap.size) (hB : Below base W0 w')
    (h : ∀ v' w1, OwnW base w1 v' (xs ++ [z]) → Below base W0 w1 → K (a.put o.dst v') w1) :
    if Region.wanted o (yielded ops a.tmps) = true then Oper.wp Tryz.prog o a w' K Q else E := by
  obtain ⟨v', w1, hrun, h1, h2⟩ := run_append_word o.type base v xs z g hown hc hn hbase hB
  have hw : Region.wanted o (yielded ops a.tmps) = true := by simp [Region.wanted, hgd]
  rw [if_pos hw]
  unfold Oper.wp
  simp [execOp, ho, resolve, invoke, builtin, hs, hx, hrun, Result.andThen]
  exact h v' w1 h1 h2
end
end Go.Proofs.YtgihnliipfdokaaGreat.Fx

/- A list of words as a literal, the first numbers of a list, and what a head is a digest of: no function of the program is spoken of. -/
namespace Go.Proofs.YtgihnliipfdokaaGreat.Fx
open Go.RowKit

theorem OwnW.lit (w : World) (xs : List Int) (hm : xs.length ≤ 1000) : OwnW w.heap.size (w.alloc (.cells (xs.map (Value.int .u64)).toArray 22)) (.slice (some ⟨w.heap.size, 0, none⟩) xs.length xs.length) xs :=
  ⟨by simp, .inr ⟨w.heap.size, xs.length, _, rfl, Nat.le_refl _, Go.Deep.blk_alloc_new _ _, Nat.le_refl _, by unfold maxLen; omega, by simp, by simp; exact List.take_of_length_le (by simp)⟩⟩
theorem OwnW.mono {base b2 : Nat} {w : World} {v : Value} {xs : List Int} (h : OwnW base w v xs) (hb : b2 ≤ base) : OwnW b2 w v xs := by
  refine ⟨h.1, ?_⟩
  rcases h.2 with h0 | ⟨g, cap, cur, hv, hg, r⟩
  · exact .inl h0
  · exact .inr ⟨g, cap, cur, hv, by omega, r⟩
theorem take_snocI {xs : List Int} {t : Nat} {x : Int} (h : t < xs.length) (hx : xs.getD t 0 = x) : xs.take t ++ [x] = xs.take (t + 1) := by
  rw [List.take_succ_eq_append_getElem h]
  rw [List.getD_eq_getElem?_getD, List.getElem?_eq_getElem h, Option.getD_some] at hx
  rw [hx]

theorem rootP_W (ws ms : List Int) (n : Nat) : okW (rootP ws ms n) := okP_W (ofP_ok _ _)
def exRoot (DI DO : Nat → List Int) (j : Nat) : Int := rootP (DI j) (DO j) ((DI j).length + (DO j).length)
theorem headL_ok {c : Cfg} (hc : cfgB c = true) (hs : okW c.seed) (n : Nat) (DI DO : Nat → List Int) (N : Nat) : okL (headL c n DI DO N) := by
  obtain ⟨⟨i1, i2⟩, ⟨h1, h2⟩, ⟨o1, o2⟩, ⟨b1, b2⟩, ⟨s1, s2⟩, ⟨r1, r2⟩, ⟨d1, d2⟩, ⟨w1, w2⟩, ⟨k1, k2⟩, ⟨q1, q2⟩⟩ := cfgB_is hc
  unfold headL
  refine okL_app (okL_app ?_ ?_) ?_
  · intro i hi
    have h11 : i < 11 := by simpa using hi
    rcases (show i = 0 ∨ i = 1 ∨ i = 2 ∨ i = 3 ∨ i = 4 ∨ i = 5 ∨ i = 6 ∨ i = 7 ∨ i = 8 ∨ i = 9 ∨ i = 10 by omega) with rfl | rfl | rfl | rfl | rfl | rfl | rfl | rfl | rfl | rfl | rfl
    · exact ⟨by simp; omega, by simp; omega⟩
    · exact ⟨by simp; omega, by simp; omega⟩
    · exact ⟨by simp; omega, by simp; omega⟩
    · exact hs
    · exact ⟨by simp; omega, by simp; omega⟩
    · exact ⟨by simp; omega, by simp; omega⟩
    · exact ⟨by simp; omega, by simp; omega⟩
    · exact ⟨by simp; omega, by simp; omega⟩
    · exact ⟨by simp; omega, by simp; omega⟩
    · exact ⟨by simp; omega, by simp; omega⟩
    · exact ⟨by simp; omega, by simp; omega⟩
  · intro i hi
    have hi' : i < n := by simpa using hi
    rw [getD_range _ hi']
    exact rootP_W _ _ _
  · intro i hi
    obtain rfl : i = 0 := by simpa using hi
    exact rootP_W _ _ _
end Go.Proofs.YtgihnliipfdokaaGreat.Fx

/- What journal.chain returns, of a record that may be chained, and what journal.Chain returns, whatever is handed in. -/
namespace Go.Proofs.YtgihnliipfdokaaGreat.Fx
open Go.RowKit

set_option maxRecDepth 100000 in
set_option maxHeartbeats 3200000 in
theorem jchain_calls (before : Int) (hbf : okW before) (x : Rcm) (bs : List Int) (w : World) (l : Lst w x.a x.n x.k bs) (hs : 0 ≤ x.s ∧ x.s ≤ 9223372036854775807) (hr : 0 ≤ x.r ∧ x.r ≤ 9223372036854775807) (hroot : okW x.root) (h8 : x.n ≤ 8) (hbs : ∀ j, j < x.n → 0 ≤ bs.getD j 0 ∧ bs.getD j 0 ≤ 9223372036854775807) :
    Calls Tryz.prog 66 #[.int .u64 before, x.val] w fun e w' => e = .returned (.int .u64 (chainP before x.s x.r x.root bs)) ∧ Below w.heap.size w w' := by
  have hal := low_alloc w (.cells x.cells 37)
  have l' := l.below hal (Nat.le_refl _)
  have hlen := l.len
  have row := fn5_alloc w (.int .i64 x.s) (.slice x.a x.n x.k) (.int .i64 x.r) (.int .u64 x.root) (.int .u64 x.chain) 37
  obtain ⟨s, a, n, k, r, root, chain⟩ := x
  simp only [Rcm.val, Rcm.cells] at *
  obtain ⟨s0, s1⟩ := hs
  obtain ⟨r0, r1⟩ := hr
  have HBS : Hid (∀ j, j < n → 0 ≤ bs.getD j 0 ∧ bs.getD j 0 ≤ 9223372036854775807) := hbs
  have HOK : Hid (okL (chainL before s r root bs)) := by
    show okL _
    unfold chainL
    refine okL_app ?_ (fun i hi => ⟨(hbs i (by omega)).1, by have := (hbs i (by omega)).2; omega⟩)
    intro i hi
    have h5 : i < 5 := by simpa using hi
    rcases lt5 h5 with rfl | rfl | rfl | rfl | rfl
    · exact hbf
    · exact ⟨s0, by simp; omega⟩
    · exact ⟨r0, by simp; omega⟩
    · exact hroot
    · exact ⟨by simp, by simp; omega⟩
  obtain ⟨W, HW⟩ : ∃ q, Hid (q = w.alloc (.cells #[.int .i64 s, .slice a n k, .int .i64 r, .int .u64 root, .int .u64 chain] 37)) := ⟨_, rfl⟩
  have HWS : Hid (w.heap.size + 1 = W.heap.size) := by show _ = _; rw [HW.out]; simp
  rw [← HW.out] at hal l' row
  obtain ⟨c0, c1, c2, c3, c4⟩ := fn5_box row
  have own0 := OwnW.lit W [before, s, r, root, (n : Int)] (by simp)
  have hl0 := low_alloc W (.cells #[.int .u64 before, .int .u64 s, .int .u64 r, .int .u64 root, .int .u64 (n : Int)] 22)
  have KC : Hid (∀ q, Below W.heap.size W q → q.cell? ⟨w.heap.size, 1, none⟩ = some (.slice a n k)) := fun q hq => (fn5_box (row.of_block (hq.block _ row.lt))).c1
  have hlt0 := row.lt
  have d1 := KC.out _ hl0
  clear hbs l hbf hroot
  go_enter Tryz.func66, Tryz.ntmps66
  go_wp2_with fail
  rw [← HW.out]
  clear HW
  go_loopw [5, 27] (fun v i wr => ∃ j : Nat, j ≤ n ∧ i = .int .i64 j ∧ OwnW W.heap.size wr v ([before, s, r, root, (n : Int)] ++ bs.take j) ∧ Below W.heap.size W wr) (fun _ i _ => n - (intOf i).toNat)
  case atStart => exact ⟨0, Nat.zero_le _, rfl, by rw [HWS.out]; simpa using own0, hl0⟩
  case round =>
    clear own0 hl0 c0 c1 c2 c3 c4 d1
    obtain ⟨j, hj, rfl, hown, hbel⟩ := hrel
    have hsz := hbel.size
    by_cases hlt : j < n
    · obtain ⟨b1, o1, y, rfl, _, c5, HX⟩ := l'.at1b hbel (Nat.le_refl _) hlt
      have hy := HBS.out j hlt
      rw [HX.out] at hy
      obtain ⟨y0, y1⟩ := hy
      have hl2 : ([before, s, r, root, (n : Int)] ++ bs.take j).length = 5 + j := by simp; omega
      have al1 := hown.below (low_alloc wr (.cells #[.int .u64 y] 22))
      have bl1 := hbel.alloc hbel.size (.cells #[.int .u64 y] 22)
      have cn := cell_new wr (.int .u64 y) 22
      have HH : Hid (wr.heap.size + 1 = (wr.alloc (.cells #[.int .u64 y] 22)).heap.size) := by show _ = _; simp
      go_wp2_with (at_builtin; refine wpList_append_word (by rfl) _ _ (by rfl) W.heap.size _ ([before, s, r, root, (n : Int)] ++ bs.take j) y wr.heap.size W (by rfl) (by rfl) (by exact al1) (by exact cn) (by rw [hl2]; omega) (by exact bl1.size) (by exact bl1) ?_; intro v1 w2 hown1 hbel1)
      go_roundw
      case rel => exact ⟨j + 1, by omega, by go_num, hown1.congr (by rw [List.append_assoc, take_snocI (by omega) HX.out]), hbel1⟩
      case measure => simp [intOf]; omega
    · obtain rfl : j = n := by omega
      obtain ⟨av, cv, rfl, lw⟩ := hown.lst' (n := 5 + j) (by simp; omega)
      have hl3 : [before, s, r, root, (j : Int)] ++ bs.take j = chainL before s r root bs := by unfold chainL; rw [List.take_of_length_le (by omega), hlen]
      rw [hl3] at lw
      have HO := dOf_calls 6 ⟨by omega, by omega⟩ _ _ _ _ _ lw HOK.out
      rw [show ofA 6 (chainL before s r root bs) (5 + j) = chainP before s r root bs from if_neg (by omega), show bigI (5 + j) = 0 from if_neg (by omega)] at HO
      go_wp2_with fail
      refine HO.mono ?_
      rintro e w3 ⟨rfl, hw3⟩
      go_wp2_with fail
      go_ret
      exact ⟨rfl, hal.trans ((hbel.trans (hw3.mono hbel.size)).mono hal.size)⟩

end Go.Proofs.YtgihnliipfdokaaGreat.Fx
