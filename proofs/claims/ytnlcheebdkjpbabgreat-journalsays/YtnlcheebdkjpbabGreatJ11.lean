/- What tree.chunks, tree.leaf and tree.Leaves return: the leaves of a list of integers. -/
import Derived.Test.YtnlcheebdkjpbabGreatJ02
import Derived.Test.YtnlcheebdkjpbabGreatJ10
import Derived.Test.YtnlcheebdkjpbabGreatJ00
import Derived.Deep.AppendLies
import Derived.Test.YtnlcheebdkjpbabGreatJ01
namespace Go.Proofs.YtnlcheebdkjpbabGreat.Fx
open Go.RowKit

theorem chunks_calls (n : Nat) (h : n ≤ 200) (w : World) : Calls Tryz.prog 121 #[.int .i64 n] w fun e w' => e = .returned (.int .i64 ((n + 3) / 4 : Nat)) ∧ w' = w := by
  have e1 : ((n : Int) + 4 - 1).tdiv 4 = (((n + 3) / 4 : Nat) : Int) := by
    rw [Int.tdiv_eq_ediv_of_nonneg (by omega)]; omega
  go_enter Tryz.func121, Tryz.ntmps121
  go_wp2
  go_ret
  exact ⟨ret_word (by omega), rfl⟩

theorem numL_ok (xs : List Int) (n : Nat) : okL (numL xs n) := by
  unfold numL
  intro i hi
  by_cases h : 200 < n
  · rw [if_pos h] at hi; simp at hi
  · rw [if_neg h] at hi ⊢
    simp at hi
    have := boundP_ok (xs.getD i 0)
    simp only [List.getD_eq_getElem?_getD, List.getElem?_map, List.getElem?_range hi, Option.map_some, Option.getD_some, numG] at this ⊢
    exact ⟨this.1, by omega⟩
theorem numL_len {xs : List Int} {n : Nat} (h : n ≤ 200) : (numL xs n).length = n := by
  unfold numL; rw [if_neg (by omega)]; simp

theorem leaf_calls (a : Option Addr) (la ca : Nat) (xs : List Int) (w : World) (ha : Lst w a la ca xs) (_hl : la ≤ 4) :
    Calls Tryz.prog 122 #[.slice a la ca] w fun e w' => e = .returned (.int .u64 (ofP 4 (numL xs la))) ∧ Below w.heap.size w w' := by
  go_enter Tryz.func122, Tryz.ntmps122
  go_wp2_with (first | (go_at_call 132; refine (dNumbers_calls _ _ _ xs _ ha).mono ?_; rintro e w1 ⟨a1, n1, rfl, hn1, h1, hw1⟩) | (go_at_call 79; refine (dOf_calls 4 ⟨by omega, by omega⟩ _ _ _ (numL xs la) _ h1 (numL_ok _ _)).mono ?_; rintro e w2 ⟨rfl, hw2⟩))
  go_ret
  exact ⟨ret_word (by unfold ofA; rw [if_neg (by omega)]), hw1.trans (hw2.mono hw1.size)⟩

/-- Leaf i of a list of n integers: of its chunk. -/
def hiN (n i : Nat) : Nat := min (i * 4 + 4) n
def leafG (xs : List Int) (n i : Nat) : Int := ofP 4 (numL ((xs.drop (i * 4)).take (hiN n i - i * 4)) (hiN n i - i * 4))
def leavesP (xs : List Int) (n : Nat) : List Int := (List.range ((n + 3) / 4)).map (leafG xs n)
theorem leavesP_len (xs : List Int) (n : Nat) : (leavesP xs n).length = (n + 3) / 4 := by unfold leavesP; simp
theorem leavesP_ok (xs : List Int) (n : Nat) : okL (leavesP xs n) := by
  intro i hi
  rw [leavesP_len] at hi
  unfold leavesP
  simp only [List.getD_eq_getElem?_getD, List.getElem?_map, List.getElem?_range hi, Option.map_some, Option.getD_some]
  exact okW_of_P (ofP_ok _ _)

set_option maxHeartbeats 1600000 in
theorem leaves_calls (a : Option Addr) (n c : Nat) (xs : List Int) (w : World) (ha : Lst w a n c xs) (h1 : 1 ≤ n) (h2 : n ≤ 200) :
    Calls Tryz.prog 100 #[.slice a n c] w fun e w' => ∃ a', e = .returned (.tuple #[.slice a' ((n + 3) / 4 : Nat) ((n + 3) / 4 : Nat), .int .i64 0]) ∧ LstW w' a' ((n + 3) / 4) ((n + 3) / 4) (leavesP xs n) ∧ Below w.heap.size w w' := by
  unfold leavesP
  have n0 : ((n : Int) == 0) = false := by rw [beq_eq_false_iff_ne]; omega
  have HC : Hid (∀ w, Calls Tryz.prog 121 #[.int .i64 n] w fun e w' => e = .returned (.int .i64 ((n + 3) / 4 : Nat)) ∧ w' = w) := chunks_calls n h2
  obtain ⟨N, hN⟩ : ∃ N, (n + 3) / 4 = N := ⟨_, rfl⟩
  rw [hN] at HC ⊢
  have hmk := run_make_row' (P := Tryz.prog) 86 22 (.int .u64 0) 8 Tryz.underlying86 infoW rfl .i64 .i64 N (by omega) (by omega)
  obtain ⟨b, off, x, rfl, hb, h0, HX⟩ := ha.at1 (k := 0) (by omega)
  have HK := ha.cap
  go_enter Tryz.func100, Tryz.ntmps100
  go_wp2_with (go_at_call 121; refine (HC.out _).mono ?_; rintro e w' ⟨rfl, hw'⟩; replace hw' := hw'.symm; subst hw')
  go_loopw [19] (fun i wr => ∃ k : Nat, k ≤ N ∧ i = .int .i64 k ∧ wr.rowIs w.heap.size 22 N (rowToW (leafG xs n) k) ∧ Below w.heap.size w wr) (fun i _ => N - (intOf i).toNat)
  case atStart => exact ⟨0, Nat.zero_le _, rfl, rowToW_made (World.rowIs_made _ _ _ _), (Below.refl _ _).alloc (Nat.le_refl _) _⟩
  case round =>
    obtain ⟨k, hk, rfl, hrow, hbel⟩ := hrel
    have ha' := ha.below hbel (Nat.le_refl _)
    clear ha hmk
    by_cases hlt : k < N
    · obtain ⟨lo, hlo⟩ : ∃ lo, k * 4 = lo := ⟨_, rfl⟩
      obtain ⟨hi, hhi⟩ : ∃ hi, hiN n k = hi := ⟨_, rfl⟩
      have hh : lo ≤ hi ∧ hi ≤ n ∧ hi ≤ lo + 4 := by unfold hiN at hhi; omega
      have hs := ha'.sub (by omega) lo hi (by omega) (by omega)
      have HG : Hid (leafG xs n k = ofP 4 (numL ((xs.drop lo).take (hi - lo)) (hi - lo))) := by show leafG xs n k = _; unfold leafG; rw [hlo, hhi]
      have HM : Hid (hi = min (lo + 4) n) := by show hi = min (lo + 4) n; rw [← hhi, ← hlo]; rfl
      have c3 := rowToW_cell hrow hlt
      have f3 := hrow.frozen k
      have e1 : (k : Int) * 4 = (lo : Int) := by omega
      clear hhi hlo
      have hlr := hrow.lt
      go_wp2_with fail
      all_goals
        first
          | rw [show ((lo : Int) + 4).toNat = hi from by have := HM.out; omega]
          | rw [show n - lo = hi - lo from by have := HM.out; omega]
        refine (leaf_calls _ _ _ _ _ hs (by omega)).mono ?_
        rintro e w1 ⟨rfl, hw1⟩
        have hrow1 := hrow.of_block (hw1.block _ hlr)
        have d3 := rowToW_cell hrow1 hlt
        have g3 := hrow1.frozen k
        clear c3 f3
        go_wp2
        go_roundw
        case rel =>
          have st := rowToW_step (g := leafG xs n) hrow1
          rw [HG.out] at st
          exact ⟨k + 1, by omega, by go_num, st, (hbel.trans (hw1.mono hbel.size)).setCell (Nat.le_refl _) _⟩
        case measure => simp [intOf]; omega
    · go_wp2
      go_ret2
      obtain rfl : k = N := by omega
      exact ⟨_, rfl, rowToW_lst hrow, hbel⟩

/-- The root of two lists, one behind the other. -/
def rootP (ws ms : List Int) (n : Nat) : Int := ofP 3 [(n : Int), treeP (leavesP (ws ++ ms) n)]
end Go.Proofs.YtnlcheebdkjpbabGreat.Fx

/- A journal in plain numbers: roots, heads, chains, records; and how records lie in memory; no function of the program is spoken of. -/
namespace Go.Proofs.YtnlcheebdkjpbabGreat.Fx
open Go.RowKit

/-- What a head is a digest of. -/
def headL (c : Cfg) (n : Nat) (DI DO : Nat → List Int) (N : Nat) : List Int :=
  [c.i, c.h, c.o, c.seed, c.batch, c.steps, c.rate, c.decay, c.how, c.keep, c.clip] ++ (List.range n).map (fun j => rootP (DI j) (DO j) ((DI j).length + (DO j).length)) ++ [rootP ((List.range N).map (startG c.seed)) ((List.range N).map zeroG) (N + N)]
def headP (c : Cfg) (n : Nat) (DI DO : Nat → List Int) (N : Nat) : Int := ofP 5 (headL c n DI DO N)
def chainL (before step rate root : Int) (bs : List Int) : List Int := [before, step, rate, root, (bs.length : Int)] ++ bs
def chainP (before step rate root : Int) (bs : List Int) : Int := ofP 6 (chainL before step rate root bs)
/-- May a record be chained? -/
def nonB (bs : List Int) : Bool := bs.all fun x => decide (0 ≤ x)
def chB (step rate : Int) (len : Nat) (bs : List Int) : Bool := decide (0 ≤ step) && decide (0 ≤ rate) && decide (len ≤ 8) && nonB bs
theorem nonB_true {xs : List Int} (h : ∀ j, j < xs.length → 0 ≤ xs.getD j 0) : nonB xs = true := by
  unfold nonB
  rw [List.all_eq_true]
  intro x hx
  obtain ⟨i, hi, rfl⟩ := List.getElem_of_mem hx
  have := h i hi
  rw [List.getD_eq_getElem?_getD, List.getElem?_eq_getElem hi, Option.getD_some] at this
  exact decide_eq_true this
theorem nonB_get {xs : List Int} (h : nonB xs = true) (j : Nat) : 0 ≤ xs.getD j 0 := by
  unfold nonB at h
  rw [List.all_eq_true] at h
  rcases Nat.lt_or_ge j xs.length with hj | hj
  · have := of_decide_eq_true (h (xs[j]) (List.getElem_mem hj))
    rw [List.getD_eq_getElem?_getD, List.getElem?_eq_getElem hj, Option.getD_some]
    exact this
  · rw [List.getD_eq_getElem?_getD, List.getElem?_eq_none hj]
    exact Int.le_refl _
theorem nonB_false {xs : List Int} {k : Nat} (h : ¬ 0 ≤ xs.getD k 0) : nonB xs = false := by
  cases e : nonB xs with
  | false => rfl
  | true => exact absurd (nonB_get e k) h
/-- Whether the first k are not below nothing. -/
def nonTo (xs : List Int) (k : Nat) (b0 ok : Bool) : Prop := ok = true ↔ (b0 = true ∧ ∀ j, j < k → 0 ≤ xs.getD j 0)
theorem nonTo_zero (xs : List Int) (b0 : Bool) : nonTo xs 0 b0 b0 := ⟨fun h => ⟨h, fun j hj => by omega⟩, fun h => h.1⟩
theorem nonTo_step {xs : List Int} {k : Nat} {b0 ok : Bool} {x : Int} (h : nonTo xs k b0 ok) (hx : xs.getD k 0 = x) : nonTo xs (k + 1) b0 (ok && decide (0 ≤ x)) := by
  unfold nonTo
  rw [Bool.and_eq_true, decide_eq_true_eq]
  refine ⟨fun g => ⟨(h.1 g.1).1, fun j hj => ?_⟩, fun g => ⟨h.2 ⟨g.1, fun j hj => g.2 j (by omega)⟩, by rw [← hx]; exact g.2 k (by omega)⟩⟩
  by_cases e : j = k
  · subst e; rw [hx]; exact g.2
  · exact (h.1 g.1).2 j (by omega)
theorem nonTo_end {xs : List Int} {k : Nat} {b0 ok : Bool} (h : nonTo xs k b0 ok) (hk : xs.length = k) : ok = (b0 && nonB xs) := by
  cases ok with
  | true =>
    obtain ⟨g1, g2⟩ := h.1 rfl
    rw [g1, nonB_true (fun j hj => g2 j (by omega))]; rfl
  | false =>
    cases e1 : b0 with
    | false => rfl
    | true =>
      cases e2 : nonB xs with
      | false => rfl
      | true => exact absurd (h.2 ⟨e1, fun j _ => nonB_get e2 j⟩) (by decide)

/-- The records of a course. -/
def jrRoot (c : Cfg) (n : Nat) (DI DO : Nat → List Int) (N k : Nat) : Int := rootP (stateP c n DI DO N (k + 1)).1 (stateP c n DI DO N (k + 1)).2 (N + N)
def jrBatch (c : Cfg) (n k : Nat) : List Int := batchP c.seed c.batch.toNat n (k * c.batch.toNat)
def jrChain (c : Cfg) (n : Nat) (DI DO : Nat → List Int) (N : Nat) : Nat → Int
  | 0 => headP c n DI DO N
  | k + 1 => chainP (jrChain c n DI DO N k) (k : Int) (rateV c k) (jrRoot c n DI DO N k) (jrBatch c n k)

/-- A record's value: its numbers, and where its batch lies. -/
structure Rcm where
  s : Int
  a : Option Addr
  n : Nat
  k : Nat
  r : Int
  root : Int
  chain : Int
def Rcm.cells (x : Rcm) : Array Value := #[.int .i64 x.s, .slice x.a x.n x.k, .int .i64 x.r, .int .u64 x.root, .int .u64 x.chain]
def Rcm.val (x : Rcm) : Value := .agg x.cells
/-- A slice of records: their values, and their batches' numbers. -/
def Recs (w : World) (a : Option Addr) (n cap : Nat) (R : Nat → Rcm) (D : Nat → List Int) : Prop :=
  n ≤ cap ∧ (n = 0 ∨ ∃ b off, a = some ⟨b, off, none⟩ ∧ b < w.heap.size ∧ ∀ i, i < n → w.cell? ⟨b, off + i * 5, none⟩ = some (.int .i64 (R i).s) ∧ w.cell? ⟨b, off + i * 5 + 1, none⟩ = some (.slice (R i).a (R i).n (R i).k) ∧ w.cell? ⟨b, off + i * 5 + 2, none⟩ = some (.int .i64 (R i).r) ∧ w.cell? ⟨b, off + i * 5 + 3, none⟩ = some (.int .u64 (R i).root) ∧ w.cell? ⟨b, off + i * 5 + 4, none⟩ = some (.int .u64 (R i).chain) ∧ Lst w (R i).a (R i).n (R i).k (D i))
theorem Recs.below {w w' : World} {a : Option Addr} {n c : Nat} {R : Nat → Rcm} {D : Nat → List Int} {B : Nat} (h : Recs w a n c R D) (hb : Below B w w') (hB : w.heap.size ≤ B) : Recs w' a n c R D := by
  refine ⟨h.1, ?_⟩
  rcases h.2 with h0 | ⟨b, off, e, hs, hc⟩
  · exact .inl h0
  · have k : ∀ o, w'.cell? ⟨b, o, none⟩ = w.cell? ⟨b, o, none⟩ := fun o => hb.cell (p := ⟨b, o, none⟩) (Nat.lt_of_lt_of_le hs hB)
    exact .inr ⟨b, off, e, Nat.lt_of_lt_of_le hs hb.size, fun i hi =>
      ⟨(k _).trans (hc i hi).1, (k _).trans (hc i hi).2.1, (k _).trans (hc i hi).2.2.1, (k _).trans (hc i hi).2.2.2.1, (k _).trans (hc i hi).2.2.2.2.1, (hc i hi).2.2.2.2.2.below hb hB⟩⟩
theorem Recs.nil (w : World) (a : Option Addr) (c : Nat) (R : Nat → Rcm) (D : Nat → List Int) : Recs w a 0 c R D := ⟨Nat.zero_le _, .inl rfl⟩
theorem okL_app {xs ys : List Int} (hx : okL xs) (hy : okL ys) : okL (xs ++ ys) := by
  intro i hi
  rw [List.length_append] at hi
  rcases Nat.lt_or_ge i xs.length with h | h
  · rw [List.getD_eq_getElem?_getD, List.getElem?_append_left h, ← List.getD_eq_getElem?_getD]; exact hx i h
  · rw [List.getD_eq_getElem?_getD, List.getElem?_append_right h, ← List.getD_eq_getElem?_getD]; exact hy _ (by omega)
theorem okL_non {xs : List Int} (h : nonB xs = true) (h2 : ∀ j, xs.getD j 0 ≤ 9223372036854775807) : okL xs := fun i _ => ⟨nonB_get h i, by have := h2 i; omega⟩
end Go.Proofs.YtnlcheebdkjpbabGreat.Fx

/- How a record by value is opened. -/
namespace Go.Proofs.YtnlcheebdkjpbabGreat.Fx
open Go.ChangeShapes Go.WideShapes Go.ChangeAt Go.RowKit

/-- Of a record that came in: where its batch lies, and that its numbers are a program's. -/
structure RecIn (w : World) (x : Rcm) (bs : List Int) : Prop where
  l : Lst w x.a x.n x.k bs
  s : -9223372036854775808 ≤ x.s ∧ x.s ≤ 9223372036854775807
  r : -9223372036854775808 ≤ x.r ∧ x.r ≤ 9223372036854775807
  root : okW x.root
  chain : okW x.chain
  bd : ∀ j, j < bs.length → -9223372036854775808 ≤ bs.getD j 0 ∧ bs.getD j 0 ≤ 9223372036854775807
  n : x.n ≤ maxLen
theorem wf_int {n : Int} (h : (Lit.int .i64 n).wf = true) : -9223372036854775808 ≤ n ∧ n ≤ 9223372036854775807 := by
  simp [Lit.wf, IntKind.min, IntKind.max, IntKind.signed, IntKind.bits] at h
  exact ⟨by omega, by omega⟩
theorem cellsRec : Tryz.prog.cellsOf 33 = 5 := by kernel_rfl
theorem cellsIntsR : Tryz.prog.cellsOf 26 = 1 := by kernel_rfl
theorem array5 {α : Type} {cs : Array α} (h : cs.size = 5) : ∃ c0 c1 c2 c3 c4, cs = #[c0, c1, c2, c3, c4] := by
  obtain ⟨l⟩ := cs
  match l, h with
  | [c0, c1, c2, c3, c4], _ => exact ⟨c0, c1, c2, c3, c4, rfl⟩
theorem fieldInts {H : Type} {enc : TypeId × Value → H} {W : World} {n i : Nat} {cs : List Value} {xs : List (DataW H × List MemPlace)} {off : Nat} {v : Value} (hi : i < xs.length)
    (h : DataW.trod enc Tryz.prog W 0 (fun _ => true) true n 26 ((cs.drop off).take (Tryz.prog.cellsOf 26)) = xs[i]?) (hc : (cs.drop off).take 1 = [v]) : ∃ a len cap B, v = .slice a len cap ∧ Came W a len cap B := by
  rw [cellsIntsR, hc, List.getElem?_eq_getElem hi] at h
  obtain ⟨a, l, c, B, e, g⟩ := came_trod h
  simp at e
  exact ⟨a, l, c, B, e, g⟩

set_option maxRecDepth 100000 in
theorem openRec {H : Type} {enc : TypeId × Value → H} {W : World} {b0 : Nat} {v : Value} {d : DataW H} {p : List MemPlace} (hv : Value.okWide Tryz.prog W .any b0 33 v) (h : DataW.Trod enc Tryz.prog W 0 (fun _ => true) true 33 v d p) :
    ∃ (x : Rcm) (bs : List Int), v = x.val ∧ RecIn W x bs := by
  obtain ⟨cs, rfl, hsz⟩ := okWide_struct Tryz.underlying33 hv
  obtain ⟨c0, c1, c2, c3, c4, rfl⟩ := array5 (hsz.trans cellsRec)
  obtain ⟨fuel, hf⟩ := h
  obtain ⟨xs, n, _, _, _, hlen, hfs⟩ := DataW.trod_struct Tryz.underlying33 hf
  have hl : xs.length = 5 := hlen
  obtain ⟨i0, rfl, w0⟩ := fieldInt (v := c0) Tryz.underlying3 cellsOfInt (by omega) (hfs 0 _ rfl) rfl
  obtain ⟨a, l, c, B, rfl, g⟩ := fieldInts (v := c1) (by omega) (hfs 1 _ rfl) rfl
  obtain ⟨i2, rfl, w2⟩ := fieldInt (v := c2) Tryz.underlying3 cellsOfInt (by omega) (hfs 2 _ rfl) rfl
  obtain ⟨i3, rfl, w3⟩ := fieldInt (v := c3) Tryz.underlying22 cellsOfWord (by omega) (hfs 3 _ rfl) rfl
  obtain ⟨i4, rfl, w4⟩ := fieldInt (v := c4) Tryz.underlying22 cellsOfWord (by omega) (hfs 4 _ rfl) rfl
  refine ⟨⟨i0, a, l, c, i2, i3, i4⟩, B, rfl, g.1, wf_int w0, wf_int w2, wf_word w3, wf_word w4, fun j hj => wf_int (g.2.2 _ ?_), Nat.le_trans g.1.cap g.2.1⟩
  rw [List.getD_eq_getElem?_getD, List.getElem?_eq_getElem hj, Option.getD_some]
  exact List.getElem_mem hj
end Go.Proofs.YtnlcheebdkjpbabGreat.Fx

/- How a state by value is opened, with what the form says of its sizes. -/
namespace Go.Proofs.YtnlcheebdkjpbabGreat.Fx
open Go.ChangeShapes Go.WideShapes Go.ChangeAt Go.RowKit

/-- The datum of a list that came in tells its length. -/
def DLen {H : Type} (d : DataW H) (len : Nat) : Prop := len = 0 ∨ ∃ elems spare, d = .slice elems spare ∧ len ≤ elems.length + spare.length
set_option maxRecDepth 100000 in
theorem came_trodD {H : Type} {enc : TypeId × Value → H} {W : World} {fuel : Nat} {cs : List Value} {x : DataW H × List MemPlace} (hf : DataW.trod enc Tryz.prog W 0 (fun _ => true) true fuel 26 cs = some x) :
    ∃ a len cap xs, cs = [.slice a len cap] ∧ Came W a len cap xs ∧ DLen x.1 len := by
  rcases open_ints Tryz.underlying26 Tryz.underlying3 (by kernel_rfl) hf with ⟨hcs, _⟩ | ⟨y, l, c, zs, hcs, _, hl, hm, hz, hx, hcell, hwz⟩
  · exact ⟨none, 0, 0, [], hcs, ⟨Lst.nil _ _ _, Nat.zero_le _, fun n h => by cases h⟩, .inl rfl⟩
  · have hz' : zs.length = c := by simpa using hz
    refine ⟨some y, l, c, zs.take l, hcs, ⟨Lst.came hl hz' hcell, hm, fun n h => hwz n (List.mem_of_mem_take h)⟩, .inr ⟨_, _, by rw [hx], ?_⟩⟩
    simp only [lits, List.length_map, List.length_take, List.length_drop]
    omega
set_option maxRecDepth 100000 in
theorem openStateD {H : Type} {enc : TypeId × Value → H} {W : World} {b0 : Nat} {v : Value} {d : DataW H} {p : List MemPlace} (hv : Value.okWide Tryz.prog W .any b0 28 v) (h : DataW.Trod enc Tryz.prog W 0 (fun _ => true) true 28 v d p) :
    ∃ (x : Exm) (I O : List Int), v = x.val ∧ InEx W x I O ∧ ∃ y0 y1 : DataW H, d = .agg [y0, y1] ∧ DLen y0 x.n ∧ DLen y1 x.m := by
  obtain ⟨c0, c1, y0, y1, m, rfl, hd, _, hy0, hy1⟩ := Go.Joins.open_agg2 Tryz.underlying28 (by kernel_rfl) cellsState hv h
  obtain ⟨a3, l3, k3, B1, e3, g3, d3⟩ := came_trodD hy0
  obtain ⟨a4, l4, k4, B2, e4, g4, d4⟩ := came_trodD hy1
  simp at e3 e4
  subst e3 e4
  exact ⟨⟨a3, l3, k3, a4, l4, k4⟩, B1, B2, rfl, ⟨g3.1, g4.1⟩, y0.1, y1.1, hd, d3, d4⟩
theorem bytesIntS : Tryz.prog.bytesOf 3 = 8 := by kernel_rfl
theorem dlen_le {H : Type} {ts : List TypeId} {ds : List (DataW H)} {j : Nat} {d : DataW H} {len : Nat} (h : ∀ n ∈ DataW.weightsEach Tryz.prog ts ds, n ≤ reachBytes) (ht : ts[j]? = some 26) (hd : ds[j]? = some d) (hl : DLen d len) : len * 8 ≤ 140737488351232 := by
  rcases hl with rfl | ⟨elems, spare, rfl, hle⟩
  · omega
  · have := h _ (DataW.weights_mem_each ht hd ((elems.length + spare.length) * Tryz.prog.bytesOf 3) (by simp [DataW.weights, Tryz.underlying26]))
    rw [bytesIntS] at this
    simp only [reachBytes] at this
    omega
set_option maxRecDepth 100000 in
theorem sizedState {H : Type} {ts : List TypeId} {ds : List (DataW H)} (h : (DataW.weightsEach Tryz.prog ts ds).all (· ≤ reachBytes) = true) {j n m : Nat} {d : DataW H} (ht : ts[j]? = some 28) (hd : ds[j]? = some d)
    (hl : ∃ y0 y1 : DataW H, d = .agg [y0, y1] ∧ DLen y0 n ∧ DLen y1 m) : n * 8 ≤ 140737488351232 ∧ m * 8 ≤ 140737488351232 := by
  obtain ⟨y0, y1, rfl, h0, h1⟩ := hl
  have key : ∀ t ∈ DataW.weightsEach Tryz.prog [26, 26] [y0, y1], t ≤ reachBytes := fun t hm => by
    have := List.all_eq_true.1 h _ (DataW.weights_mem_each ht hd t (by simp only [DataW.weights, Tryz.underlying28]; exact hm))
    simpa using this
  exact ⟨dlen_le (j := 0) key rfl rfl h0, dlen_le (j := 1) key rfl rfl h1⟩
end Go.Proofs.YtnlcheebdkjpbabGreat.Fx

/- What package journal's functions answer, in plain numbers, for every input; no function of the program is spoken of. -/
namespace Go.Proofs.YtnlcheebdkjpbabGreat.Fx
open Go.RowKit

def rootE (n1 n2 : Nat) : Int := if n1 + n2 = 0 then 1 else if 200 < n1 + n2 then 2 else 0
def rootV (n1 : Nat) (ws : List Int) (n2 : Nat) (ms : List Int) : Int := if rootE n1 n2 = 0 then rootP ws ms (n1 + n2) else 0
def headV (c : Cfg) (n : Nat) (X : Nat → Exm) (DI DO : Nat → List Int) : Int := if courseI c n X DI DO = 0 then headP c n DI DO (sizeN c).toNat else 0
def chE (step rate : Int) (len : Nat) (bs : List Int) : Int := if chB step rate len bs = true then 0 else 5
def chV (before step rate root : Int) (len : Nat) (bs : List Int) : Int := if chB step rate len bs = true then chainP before step rate root bs else 0
def mkE (c : Cfg) (n : Nat) (X : Nat → Exm) (DI DO : Nat → List Int) (m : Int) : Int := if courseI c n X DI DO = 0 then (if inB m 0 c.steps = true then 0 else 1) else courseI c n X DI DO
def mkN (c : Cfg) (n : Nat) (X : Nat → Exm) (DI DO : Nat → List Int) (m : Int) : Nat := if mkE c n X DI DO m = 0 then m.toNat else 0
def mkRV (c : Cfg) (j : Nat) : Int := rateV c j
def mkRO (c : Cfg) (n : Nat) (DI DO : Nat → List Int) : Nat → Int := jrRoot c n DI DO (sizeN c).toNat
def mkCH (c : Cfg) (n : Nat) (DI DO : Nat → List Int) : Nat → Int := jrChain c n DI DO (sizeN c).toNat
theorem course_is {c : Cfg} {n : Nat} {X : Nat → Exm} {DI DO : Nat → List Int} (h : courseI c n X DI DO = 0) : cfgB c = true ∧ 1 ≤ n ∧ n ≤ 16 ∧ allEx c n X DI DO = true := by
  unfold courseI at h
  by_cases h1 : cfgB c = true
  · rw [if_pos h1] at h
    by_cases h2 : n = 0
    · rw [if_pos h2] at h; cases h
    · rw [if_neg h2] at h
      by_cases h3 : 16 < n
      · rw [if_pos h3] at h; cases h
      · rw [if_neg h3] at h
        by_cases h4 : allEx c n X DI DO = true
        · exact ⟨h1, by omega, by omega, h4⟩
        · rw [if_neg h4] at h; cases h
  · rw [if_neg h1] at h; cases h
def noRec : Nat → Rcm := fun _ => ⟨0, none, 0, 0, 0, 0, 0⟩
/-- What the first records say. -/
def JrN (k : Nat) (R : Nat → Rcm) (RV RO CH : Nat → Int) : Prop := ∀ j, j < k → (R j).s = (j : Int) ∧ (R j).r = RV j ∧ (R j).root = RO j ∧ (R j).chain = CH (j + 1)
theorem JrN.push {k : Nat} {R R2 : Nat → Rcm} {RV RO CH : Nat → Int} (h : JrN k R RV RO CH) (hR : ∀ j, j < k → R2 j = R j) (h1 : (R2 k).s = (k : Int)) (h2 : (R2 k).r = RV k) (h3 : (R2 k).root = RO k) (h4 : (R2 k).chain = CH (k + 1)) : JrN (k + 1) R2 RV RO CH := fun j hj => by
  by_cases e : j = k
  · subst e; exact ⟨h1, h2, h3, h4⟩
  · rw [hR j (by omega)]; exact h j (by omega)
end Go.Proofs.YtnlcheebdkjpbabGreat.Fx

/- A list of words that the program itself makes by append: what is known of it, and what one append more leaves. -/
namespace Go.Proofs.YtnlcheebdkjpbabGreat.Fx
open Go.RowKit

/-- The slice value v, made from block number base on, owns the words xs. -/
def OwnW (base : Nat) (w : World) (v : Value) (xs : List Int) : Prop := w.ownsRow base 22 1 v xs.length (xs.map (Value.int .u64))

theorem OwnW.nil (base : Nat) (w : World) : OwnW base w (.slice none 0 0) [] := World.ownsRow_nil _ _ _ _
theorem OwnW.drew {base : Nat} {w : World} {v : Value} {xs : List Int} (h : OwnW base w v xs) : OwnW base w.drew v xs := h
theorem OwnW.drewN {base : Nat} {w : World} {v : Value} {xs : List Int} (h : OwnW base w v xs) (n : Nat) : OwnW base (w.drewN n) v xs := h
theorem OwnW.alloc {base : Nat} {w : World} {v : Value} {xs : List Int} (h : OwnW base w v xs) (o : Obj) : OwnW base (w.alloc o) v xs := World.ownsRow.alloc h o
theorem OwnW.below {base : Nat} {w w' : World} {v : Value} {xs : List Int} (h : OwnW base w v xs) (hb : Below w.heap.size w w') : OwnW base w' v xs := by
  refine ⟨h.1, ?_⟩
  rcases h.2 with h0 | ⟨g, cap, cur, hv, hg, hh, r⟩
  · exact .inl h0
  · exact .inr ⟨g, cap, cur, hv, hg, by rw [hb.block g (Array.getElem?_eq_some_iff.1 hh).1]; exact hh, r⟩
theorem OwnW.lst {base : Nat} {w : World} {v : Value} {xs : List Int} (h : OwnW base w v xs) : ∃ a c, v = .slice a xs.length c ∧ LstW w a xs.length c xs := LstW.owned h
theorem OwnW.lst' {base : Nat} {w : World} {v : Value} {xs : List Int} {n : Nat} (h : OwnW base w v xs) (hn : xs.length = n) : ∃ a c, v = .slice a n c ∧ LstW w a n c xs := by
  subst hn; exact LstW.owned h
theorem OwnW.congr {base : Nat} {w : World} {v : Value} {xs ys : List Int} (h : OwnW base w v xs) (e : xs = ys) : OwnW base w v ys := e ▸ h
theorem range_snocW (g : Nat → Int) (k : Nat) (x : Int) (h : g k = x) : (List.range k).map g ++ [x] = (List.range (k + 1)).map g := by
  rw [List.range_succ, List.map_append, List.map_singleton, h]

section
variable {w' W0 : World} {ops : Array Oper} {o : Oper} {a : Act} {Q : Exit → Act → World → Prop}

theorem run_append_word (ty : TypeId) (base : Nat) (v : Value) (xs : List Int) (z : Int) (g : Nat) (hown : OwnW base w' v xs) (hc : w'.cell? ⟨g, 0, none⟩ = some (.int .u64 z))
    (hn : (xs.length + 1) * 8 ≤ 140737488355328) (hbase : base ≤ w'.heap.size) (hB : Below base W0 w') :
    ∃ v' w1, (Builtin.append_ #[86, 86] ty #[v, .slice (some ⟨g, 0, none⟩) 1 1]).run Tryz.prog w' = .ok v' w1 ∧ OwnW base w1 v' (xs ++ [z]) ∧ Below base W0 w1 := by
  obtain ⟨i0, hi, hz0, hz1, hz2⟩ := info_parts infoW
  obtain ⟨v', w1, hrun, h1, h2, _⟩ := run_append_own (P := Tryz.prog) w' base 86 ty 22 i0 (.int .u64 0) 1 8 Tryz.underlying86 hi hz0 hz1 hz2 rfl (by decide) v xs.length _ hown ⟨g, 0, none⟩ 1 1 [.int .u64 z] rfl
    (by intro j u hj
        match j, hj with
        | 0, hj => simp at hj; subst hj; simpa [Addr.add] using hc)
    (by intro u hu; simp at hu; subst hu; rfl) (by unfold maxLen; omega) hn hbase
  refine ⟨v', w1, hrun, by unfold OwnW; rw [List.length_append, List.map_append]; exact h1, hB.grown h2 hbase ?_⟩
  intro k hk
  rcases hown.2 with ⟨rfl, _⟩ | ⟨g', cap, cur, rfl, hg, _⟩
  · simp [Value.ownBlock] at hk
  · simp [Value.ownBlock] at hk; omega

theorem wpList_append_word {rest : List Oper} (hgd : o.guard = none) (s x : Operand) (ho : o.op = .call { callee := .builtin .append, args := #[s, x], argTypes := #[86, 86] })
    (base : Nat) (v : Value) (xs : List Int) (z : Int) (g : Nat) (W0 : World) (hs : a.eval s = v) (hx : a.eval x = .slice (some ⟨g, 0, none⟩) 1 1) (hown : OwnW base w' v xs) (hc : w'.cell? ⟨g, 0, none⟩ = some (.int .u64 z))
    (hn : (xs.length + 1) * 8 ≤ 140737488355328) (hbase : base ≤ w'.heap.size) (hB : Below base W0 w')
    (h : ∀ v' w1, OwnW base w1 v' (xs ++ [z]) → Below base W0 w1 → wpList Tryz.prog ops Q rest (a.put o.dst v') w1) : wpList Tryz.prog ops Q (o :: rest) a w' := by
  obtain ⟨v', w1, hrun, h1, h2⟩ := run_append_word o.type base v xs z g hown hc hn hbase hB
  refine wpList_plain hgd fun K hK => ?_
  unfold Oper.wp
  simp [execOp, ho, resolve, invoke, builtin, hs, hx, hrun, Result.andThen]
  exact hK _ _ (h v' w1 h1 h2)

theorem step_append_word {K : Act → World → Prop} {E : Prop} (hgd : o.guard = none) (s x : Operand) (ho : o.op = .call { callee := .builtin .append, args := #[s, x], argTypes := #[86, 86] })
    (base : Nat) (v : Value) (xs : List Int) (z : Int) (g : Nat) (W0 : World) (hs : a.eval s = v) (hx : a.eval x = .slice (some ⟨g, 0, none⟩) 1 1) (hown : OwnW base w' v xs) (hc : w'.cell? ⟨g, 0, none⟩ = some (.int .u64 z))
    (hn : (xs.length + 1) * 8 ≤ 140737488355328) (hbase : base ≤ w'.heap.size) (hB : Below base W0 w')
    (h : ∀ v' w1, OwnW base w1 v' (xs ++ [z]) → Below base W0 w1 → K (a.put o.dst v') w1) :
    if Region.wanted o (yielded ops a.tmps) = true then Oper.wp Tryz.prog o a w' K Q else E := by
  obtain ⟨v', w1, hrun, h1, h2⟩ := run_append_word o.type base v xs z g hown hc hn hbase hB
  have hw : Region.wanted o (yielded ops a.tmps) = true := by simp [Region.wanted, hgd]
  rw [if_pos hw]
  unfold Oper.wp
  simp [execOp, ho, resolve, invoke, builtin, hs, hx, hrun, Result.andThen]
  exact h v' w1 h1 h2
end
end Go.Proofs.YtnlcheebdkjpbabGreat.Fx

/- A list of words as a literal, the first numbers of a list, and what a head is a digest of: no function of the program is spoken of. -/
namespace Go.Proofs.YtnlcheebdkjpbabGreat.Fx
open Go.RowKit

theorem OwnW.lit (w : World) (xs : List Int) (hm : xs.length ≤ 1000) : OwnW w.heap.size (w.alloc (.cells (xs.map (Value.int .u64)).toArray 22)) (.slice (some ⟨w.heap.size, 0, none⟩) xs.length xs.length) xs :=
  ⟨by simp, .inr ⟨w.heap.size, xs.length, _, rfl, Nat.le_refl _, Go.Deep.blk_alloc_new _ _, Nat.le_refl _, by unfold maxLen; omega, by simp, by simp; exact List.take_of_length_le (by simp)⟩⟩
theorem OwnW.mono {base b2 : Nat} {w : World} {v : Value} {xs : List Int} (h : OwnW base w v xs) (hb : b2 ≤ base) : OwnW b2 w v xs := by
  refine ⟨h.1, ?_⟩
  rcases h.2 with h0 | ⟨g, cap, cur, hv, hg, r⟩
  · exact .inl h0
  · exact .inr ⟨g, cap, cur, hv, by omega, r⟩
theorem take_snocI {xs : List Int} {t : Nat} {x : Int} (h : t < xs.length) (hx : xs.getD t 0 = x) : xs.take t ++ [x] = xs.take (t + 1) := by
  rw [List.take_succ_eq_append_getElem h]
  rw [List.getD_eq_getElem?_getD, List.getElem?_eq_getElem h, Option.getD_some] at hx
  rw [hx]

theorem rootP_W (ws ms : List Int) (n : Nat) : okW (rootP ws ms n) := okP_W (ofP_ok _ _)
def exRoot (DI DO : Nat → List Int) (j : Nat) : Int := rootP (DI j) (DO j) ((DI j).length + (DO j).length)
theorem headL_ok {c : Cfg} (hc : cfgB c = true) (hs : okW c.seed) (n : Nat) (DI DO : Nat → List Int) (N : Nat) : okL (headL c n DI DO N) := by
  obtain ⟨⟨i1, i2⟩, ⟨h1, h2⟩, ⟨o1, o2⟩, ⟨b1, b2⟩, ⟨s1, s2⟩, ⟨r1, r2⟩, ⟨d1, d2⟩, ⟨w1, w2⟩, ⟨k1, k2⟩, ⟨q1, q2⟩⟩ := cfgB_is hc
  unfold headL
  refine okL_app (okL_app ?_ ?_) ?_
  · intro i hi
    have h11 : i < 11 := by simpa using hi
    rcases (show i = 0 ∨ i = 1 ∨ i = 2 ∨ i = 3 ∨ i = 4 ∨ i = 5 ∨ i = 6 ∨ i = 7 ∨ i = 8 ∨ i = 9 ∨ i = 10 by omega) with rfl | rfl | rfl | rfl | rfl | rfl | rfl | rfl | rfl | rfl | rfl
    · exact ⟨by simp; omega, by simp; omega⟩
    · exact ⟨by simp; omega, by simp; omega⟩
    · exact ⟨by simp; omega, by simp; omega⟩
    · exact hs
    · exact ⟨by simp; omega, by simp; omega⟩
    · exact ⟨by simp; omega, by simp; omega⟩
    · exact ⟨by simp; omega, by simp; omega⟩
    · exact ⟨by simp; omega, by simp; omega⟩
    · exact ⟨by simp; omega, by simp; omega⟩
    · exact ⟨by simp; omega, by simp; omega⟩
    · exact ⟨by simp; omega, by simp; omega⟩
  · intro i hi
    have hi' : i < n := by simpa using hi
    rw [getD_range _ hi']
    exact rootP_W _ _ _
  · intro i hi
    obtain rfl : i = 0 := by simpa using hi
    exact rootP_W _ _ _
end Go.Proofs.YtnlcheebdkjpbabGreat.Fx

/- What coachref.plus and times return: sums and products by P. -/
namespace Go.Proofs.YtnlcheebdkjpbabGreat.Fx
open Go.RowKit

theorem rplus_calls (a b : Int) (ha : okW a) (hb : okW b) (w : World) : Calls Tryz.prog 76 #[.int .u64 a, .int .u64 b] w fun e w' => e = .returned (.int .u64 (addP a b)) ∧ w' = w := by
  obtain ⟨a0, a1⟩ := ha
  obtain ⟨b0, b1⟩ := hb
  go_enter Tryz.func76, Tryz.ntmps76
  go_wp2
  go_ret
  exact ⟨ret_word (rest_add a b), rfl⟩

set_option maxHeartbeats 1600000 in
theorem rtimes_calls (a b : Int) (ha : okP a) (hb : okP b) (w : World) : Calls Tryz.prog 99 #[.int .u64 a, .int .u64 b] w fun e w' => e = .returned (.int .u64 (mulP a b)) ∧ w' = w := by
  have HB : Hid (okP b) := hb
  obtain ⟨a0, a1⟩ := ha
  obtain ⟨b0, b1⟩ := hb
  have am : a % 2305843009213693951 = a := by omega
  have bm : b % 2305843009213693951 = b := by omega
  go_enter Tryz.func99, Tryz.ntmps99
  go_wp2
  go_loop [5, 6] (fun s i => ∃ (k : Nat) (x : Int), k ≤ 61 ∧ i = .int .i64 ((k : Int) - 1) ∧ s = .int .u64 x ∧ Hid (x = dblTo a b k)) (fun _ i => ((intOf i) + 1).toNat)
  case atStart => exact ⟨61, 0, by omega, rfl, rfl, (dbl_top a b HB.out).symm⟩
  case round =>
    obtain ⟨k, x, hk, rfl, rfl, HX⟩ := hrel
    have hx : okP x := by rw [HX.out]; exact dbl_ok _ _ _
    obtain ⟨x0, x1⟩ := hx
    cases k with
    | zero =>
      go_wp2
      go_ret
      exact ⟨ret_word (by rw [HX.out, dbl_end]), rfl⟩
    | succ j =>
      go_wp2
      all_goals
        rename_i hc
        have q0 : 0 ≤ b / 2 ^ j := Int.ediv_nonneg b0 (Int.pow_nonneg (by omega))
        rw [Int.tmod_eq_emod_of_nonneg q0] at hc
        simp only [beq_iff_eq, beq_eq_false_iff_ne, ne_eq] at hc
        go_round
        case measure => simp [intOf]
      · exact ⟨j, _, by omega, rfl, rfl, by rw [HX.out]; exact dbl_step1 _ _ _ hc⟩
      · exact ⟨j, _, by omega, rfl, rfl, by rw [HX.out]; exact dbl_step0 _ _ _ (by omega)⟩

end Go.Proofs.YtnlcheebdkjpbabGreat.Fx
