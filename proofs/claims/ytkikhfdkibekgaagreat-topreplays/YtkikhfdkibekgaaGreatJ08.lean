/- How a record by value is opened. -/
import Derived.Test.YtkikhfdkibekgaaGreatJ00
import Derived.Test.YtkikhfdkibekgaaGreatJ07
import Derived.Test.YtkikhfdkibekgaaGreatJ03
import Derived.Test.YtkikhfdkibekgaaGreatJ05
import Derived.Test.YtkikhfdkibekgaaGreatJ02
namespace Go.Proofs.YtkikhfdkibekgaaGreat.Fx
open Go.ChangeShapes Go.WideShapes Go.ChangeAt Go.RowKit

/-- Of a record that came in: where its batch lies, and that its numbers are a program's. -/
structure RecIn (w : World) (x : Rcm) (bs : List Int) : Prop where
  l : Lst w x.a x.n x.k bs
  s : -9223372036854775808 ≤ x.s ∧ x.s ≤ 9223372036854775807
  r : -9223372036854775808 ≤ x.r ∧ x.r ≤ 9223372036854775807
  root : okW x.root
  chain : okW x.chain
  bd : ∀ j, j < bs.length → -9223372036854775808 ≤ bs.getD j 0 ∧ bs.getD j 0 ≤ 9223372036854775807
  n : x.n ≤ maxLen
theorem wf_int {n : Int} (h : (Lit.int .i64 n).wf = true) : -9223372036854775808 ≤ n ∧ n ≤ 9223372036854775807 := by
  simp [Lit.wf, IntKind.min, IntKind.max, IntKind.signed, IntKind.bits] at h
  exact ⟨by omega, by omega⟩
theorem cellsRec : Tryz.prog.cellsOf 30 = 5 := by kernel_rfl
theorem cellsIntsR : Tryz.prog.cellsOf 26 = 1 := by kernel_rfl
theorem array5 {α : Type} {cs : Array α} (h : cs.size = 5) : ∃ c0 c1 c2 c3 c4, cs = #[c0, c1, c2, c3, c4] := by
  obtain ⟨l⟩ := cs
  match l, h with
  | [c0, c1, c2, c3, c4], _ => exact ⟨c0, c1, c2, c3, c4, rfl⟩
theorem fieldInts {H : Type} {enc : TypeId × Value → H} {W : World} {n i : Nat} {cs : List Value} {xs : List (DataW H × List MemPlace)} {off : Nat} {v : Value} (hi : i < xs.length)
    (h : DataW.trod enc Tryz.prog W 0 (fun _ => true) true n 26 ((cs.drop off).take (Tryz.prog.cellsOf 26)) = xs[i]?) (hc : (cs.drop off).take 1 = [v]) : ∃ a len cap B, v = .slice a len cap ∧ Came W a len cap B := by
  rw [cellsIntsR, hc, List.getElem?_eq_getElem hi] at h
  obtain ⟨a, l, c, B, e, g⟩ := came_trod h
  simp at e
  exact ⟨a, l, c, B, e, g⟩

set_option maxRecDepth 100000 in
theorem openRec {H : Type} {enc : TypeId × Value → H} {W : World} {b0 : Nat} {v : Value} {d : DataW H} {p : List MemPlace} (hv : Value.okWide Tryz.prog W .any b0 30 v) (h : DataW.Trod enc Tryz.prog W 0 (fun _ => true) true 30 v d p) :
    ∃ (x : Rcm) (bs : List Int), v = x.val ∧ RecIn W x bs := by
  obtain ⟨cs, rfl, hsz⟩ := okWide_struct Tryz.underlying30 hv
  obtain ⟨c0, c1, c2, c3, c4, rfl⟩ := array5 (hsz.trans cellsRec)
  obtain ⟨fuel, hf⟩ := h
  obtain ⟨xs, n, _, _, _, hlen, hfs⟩ := DataW.trod_struct Tryz.underlying30 hf
  have hl : xs.length = 5 := hlen
  obtain ⟨i0, rfl, w0⟩ := fieldInt (v := c0) Tryz.underlying3 cellsOfInt (by omega) (hfs 0 _ rfl) rfl
  obtain ⟨a, l, c, B, rfl, g⟩ := fieldInts (v := c1) (by omega) (hfs 1 _ rfl) rfl
  obtain ⟨i2, rfl, w2⟩ := fieldInt (v := c2) Tryz.underlying3 cellsOfInt (by omega) (hfs 2 _ rfl) rfl
  obtain ⟨i3, rfl, w3⟩ := fieldInt (v := c3) Tryz.underlying22 cellsOfWord (by omega) (hfs 3 _ rfl) rfl
  obtain ⟨i4, rfl, w4⟩ := fieldInt (v := c4) Tryz.underlying22 cellsOfWord (by omega) (hfs 4 _ rfl) rfl
  refine ⟨⟨i0, a, l, c, i2, i3, i4⟩, B, rfl, g.1, wf_int w0, wf_int w2, wf_word w3, wf_word w4, fun j hj => wf_int (g.2.2 _ ?_), Nat.le_trans g.1.cap g.2.1⟩
  rw [List.getD_eq_getElem?_getD, List.getElem?_eq_getElem hj, Option.getD_some]
  exact List.getElem_mem hj
end Go.Proofs.YtkikhfdkibekgaaGreat.Fx

/- How a state by value is opened, with what the form says of its sizes. -/
namespace Go.Proofs.YtkikhfdkibekgaaGreat.Fx
open Go.ChangeShapes Go.WideShapes Go.ChangeAt Go.RowKit

/-- The datum of a list that came in tells its length. -/
def DLen {H : Type} (d : DataW H) (len : Nat) : Prop := len = 0 ∨ ∃ elems spare, d = .slice elems spare ∧ len ≤ elems.length + spare.length
set_option maxRecDepth 100000 in
theorem came_trodD {H : Type} {enc : TypeId × Value → H} {W : World} {fuel : Nat} {cs : List Value} {x : DataW H × List MemPlace} (hf : DataW.trod enc Tryz.prog W 0 (fun _ => true) true fuel 26 cs = some x) :
    ∃ a len cap xs, cs = [.slice a len cap] ∧ Came W a len cap xs ∧ DLen x.1 len := by
  rcases open_ints Tryz.underlying26 Tryz.underlying3 (by kernel_rfl) hf with ⟨hcs, _⟩ | ⟨y, l, c, zs, hcs, _, hl, hm, hz, hx, hcell, hwz⟩
  · exact ⟨none, 0, 0, [], hcs, ⟨Lst.nil _ _ _, Nat.zero_le _, fun n h => by cases h⟩, .inl rfl⟩
  · have hz' : zs.length = c := by simpa using hz
    refine ⟨some y, l, c, zs.take l, hcs, ⟨Lst.came hl hz' hcell, hm, fun n h => hwz n (List.mem_of_mem_take h)⟩, .inr ⟨_, _, by rw [hx], ?_⟩⟩
    simp only [lits, List.length_map, List.length_take, List.length_drop]
    omega
set_option maxRecDepth 100000 in
theorem openStateD {H : Type} {enc : TypeId × Value → H} {W : World} {b0 : Nat} {v : Value} {d : DataW H} {p : List MemPlace} (hv : Value.okWide Tryz.prog W .any b0 28 v) (h : DataW.Trod enc Tryz.prog W 0 (fun _ => true) true 28 v d p) :
    ∃ (x : Exm) (I O : List Int), v = x.val ∧ InEx W x I O ∧ ∃ y0 y1 : DataW H, d = .agg [y0, y1] ∧ DLen y0 x.n ∧ DLen y1 x.m := by
  obtain ⟨c0, c1, y0, y1, m, rfl, hd, _, hy0, hy1⟩ := Go.Joins.open_agg2 Tryz.underlying28 (by kernel_rfl) cellsState hv h
  obtain ⟨a3, l3, k3, B1, e3, g3, d3⟩ := came_trodD hy0
  obtain ⟨a4, l4, k4, B2, e4, g4, d4⟩ := came_trodD hy1
  simp at e3 e4
  subst e3 e4
  exact ⟨⟨a3, l3, k3, a4, l4, k4⟩, B1, B2, rfl, ⟨g3.1, g4.1⟩, y0.1, y1.1, hd, d3, d4⟩
theorem bytesIntS : Tryz.prog.bytesOf 3 = 8 := by kernel_rfl
theorem dlen_le {H : Type} {ts : List TypeId} {ds : List (DataW H)} {j : Nat} {d : DataW H} {len : Nat} (h : ∀ n ∈ DataW.weightsEach Tryz.prog ts ds, n ≤ reachBytes) (ht : ts[j]? = some 26) (hd : ds[j]? = some d) (hl : DLen d len) : len * 8 ≤ 140737488351232 := by
  rcases hl with rfl | ⟨elems, spare, rfl, hle⟩
  · omega
  · have := h _ (DataW.weights_mem_each ht hd ((elems.length + spare.length) * Tryz.prog.bytesOf 3) (by simp [DataW.weights, Tryz.underlying26]))
    rw [bytesIntS] at this
    simp only [reachBytes] at this
    omega
set_option maxRecDepth 100000 in
theorem sizedState {H : Type} {ts : List TypeId} {ds : List (DataW H)} (h : (DataW.weightsEach Tryz.prog ts ds).all (· ≤ reachBytes) = true) {j n m : Nat} {d : DataW H} (ht : ts[j]? = some 28) (hd : ds[j]? = some d)
    (hl : ∃ y0 y1 : DataW H, d = .agg [y0, y1] ∧ DLen y0 n ∧ DLen y1 m) : n * 8 ≤ 140737488351232 ∧ m * 8 ≤ 140737488351232 := by
  obtain ⟨y0, y1, rfl, h0, h1⟩ := hl
  have key : ∀ t ∈ DataW.weightsEach Tryz.prog [26, 26] [y0, y1], t ≤ reachBytes := fun t hm => by
    have := List.all_eq_true.1 h _ (DataW.weights_mem_each ht hd t (by simp only [DataW.weights, Tryz.underlying28]; exact hm))
    simpa using this
  exact ⟨dlen_le (j := 0) key rfl rfl h0, dlen_le (j := 1) key rfl rfl h1⟩
end Go.Proofs.YtkikhfdkibekgaaGreat.Fx

/- Five cells in one block of memory: how they are laid, read and written; no program is spoken of. -/
namespace Go.Proofs.YtkikhfdkibekgaaGreat.Fx
open Go.RowKit

def fn5 (v0 v1 v2 v3 v4 : Value) (i : Nat) : Value := if i = 0 then v0 else if i = 1 then v1 else if i = 2 then v2 else if i = 3 then v3 else v4
theorem lt5 {i : Nat} (h : i < 5) : i = 0 ∨ i = 1 ∨ i = 2 ∨ i = 3 ∨ i = 4 := by omega
theorem fn5_alloc (w : World) (v0 v1 v2 v3 v4 : Value) (t : TypeId) : (w.alloc (.cells #[v0, v1, v2, v3, v4] t)).rowIs w.heap.size t 5 (fn5 v0 v1 v2 v3 v4) :=
  World.rowIs_alloc w #[v0, v1, v2, v3, v4] t (fn5 v0 v1 v2 v3 v4) (by
    intro i hi
    rcases lt5 hi with rfl | rfl | rfl | rfl | rfl <;> rfl)
structure Box5 (w : World) (b : Nat) (v0 v1 v2 v3 v4 : Value) : Prop where
  c0 : w.cell? ⟨b, 0, none⟩ = some v0
  c1 : w.cell? ⟨b, 1, none⟩ = some v1
  c2 : w.cell? ⟨b, 2, none⟩ = some v2
  c3 : w.cell? ⟨b, 3, none⟩ = some v3
  c4 : w.cell? ⟨b, 4, none⟩ = some v4
theorem fn5_box {w : World} {b t : Nat} {v0 v1 v2 v3 v4 : Value} (h : w.rowIs b t 5 (fn5 v0 v1 v2 v3 v4)) : Box5 w b v0 v1 v2 v3 v4 :=
  ⟨h.cell (i := 0) (by omega), h.cell (i := 1) (by omega), h.cell (i := 2) (by omega), h.cell (i := 3) (by omega), h.cell (i := 4) (by omega)⟩
theorem fn5_set {w : World} {b t : Nat} {f : Nat → Value} (h : w.rowIs b t 5 f) (v0 v1 v2 v3 v4 : Value) :
    (((((w.setCell ⟨b, 0, none⟩ v0).setCell ⟨b, 1, none⟩ v1).setCell ⟨b, 2, none⟩ v2).setCell ⟨b, 3, none⟩ v3).setCell ⟨b, 4, none⟩ v4).rowIs b t 5 (fn5 v0 v1 v2 v3 v4) := by
  refine (((((h.set 0 v0).set 1 v1).set 2 v2).set 3 v3).set 4 v4).congr (fun i hi => ?_)
  rcases lt5 hi with rfl | rfl | rfl | rfl | rfl <;> rfl

theorem below_set5 {Bd : Nat} {W q : World} {b : Nat} (h : Below Bd W q) (hb : Bd ≤ b) (v0 v1 v2 v3 v4 : Value) :
    Below Bd W (((((q.setCell ⟨b, 0, none⟩ v0).setCell ⟨b, 1, none⟩ v1).setCell ⟨b, 2, none⟩ v2).setCell ⟨b, 3, none⟩ v3).setCell ⟨b, 4, none⟩ v4) :=
  ((((h.setCell hb v0).setCell hb v1).setCell hb v2).setCell hb v3).setCell hb v4
theorem below_set2 {Bd : Nat} {W q : World} {b : Nat} (h : Below Bd W q) (hb : Bd ≤ b) (v0 v1 : Value) : Below Bd W ((q.setCell ⟨b, 0, none⟩ v0).setCell ⟨b, 1, none⟩ v1) := (h.setCell hb v0).setCell hb v1
end Go.Proofs.YtkikhfdkibekgaaGreat.Fx

/- Durstenfeld's law in plain numbers: an order has each number once; sorted, it is the numbers from 0 on. -/
namespace Go.Proofs.YtkikhfdkibekgaaGreat.Fx

def idN (x : Nat) : Int := (x : Int)

theorem swap_perm (f : Nat → Int) {n i j : Nat} (hi : i < n) (hj : j < n) : ((List.range n).map (swapF f i j)).Perm ((List.range n).map f) := by
  have h := Array.swap_perm (xs := ((List.range n).map f).toArray) (i := i) (j := j) (by simpa using hi) (by simpa using hj)
  rw [Array.perm_iff_toList_perm] at h
  refine List.Perm.trans ?_ h
  rw [show (List.range n).map (swapF f i j) = (((List.range n).map f).toArray.swap i j (by simpa using hi) (by simpa using hj)).toList from ?_]
  refine List.ext_getElem (by simp) (fun k h1 h2 => ?_)
  simp only [List.length_map, List.length_range] at h1
  simp only [List.getElem_map, List.getElem_range, Array.getElem_toList, Array.getElem_swap, List.getElem_toArray]
  unfold swapF
  by_cases e1 : k = i
  · subst e1
    by_cases e2 : k = j
    · subst e2; simp
    · simp [e2]
  · by_cases e2 : k = j
    · subst e2; simp [e1]
    · simp [e1, e2]

theorem shufTo_perm (seed : Int) (epoch n : Nat) : ∀ k, k + 1 ≤ n → ((List.range n).map (shufTo seed epoch n k)).Perm ((List.range n).map idN)
  | 0, _ => List.Perm.refl _
  | k + 1, h => (swap_perm (shufTo seed epoch n k) (i := n - 1 - k) (j := placeP seed epoch (n - 1 - k)) (by omega) (by have := placeP_le seed epoch (n - 1 - k); omega)).trans (shufTo_perm seed epoch n k (by omega))

theorem shufP_perm (seed : Int) (epoch n : Nat) (h : 1 ≤ n) : ((List.range n).map (shufF seed epoch n)).Perm ((List.range n).map idN) := shufTo_perm seed epoch n (n - 1) (by omega)

theorem sort_range {l : List Int} {n : Nat} (h : l.Perm ((List.range n).map idN)) : l.mergeSort (fun x y => decide (x ≤ y)) = (List.range n).map idN := by
  have h1 : (l.mergeSort (fun x y => decide (x ≤ y))).Perm ((List.range n).map idN) := (List.mergeSort_perm _ _).trans h
  have h2 : (l.mergeSort (fun x y => decide (x ≤ y))).Pairwise (fun x y => decide (x ≤ y) = true) := List.pairwise_mergeSort (le := fun x y : Int => decide (x ≤ y)) (by intro a b c h1 h2; simp only [decide_eq_true_eq] at *; omega) (by intro a b; simp only [Bool.or_eq_true, decide_eq_true_eq]; omega) _
  have h3 : ((List.range n).map idN).Pairwise (fun x y => decide (x ≤ y) = true) := by
    rw [List.pairwise_map]
    refine List.pairwise_lt_range.imp ?_
    intro a b hab
    exact decide_eq_true (show idN a ≤ idN b by unfold idN; omega)
  exact h1.eq_of_pairwise (fun a b _ _ p q => by simp only [decide_eq_true_eq] at p q; omega) h2 h3

/-- Number t of all the orders, one behind the other. -/
def allG (seed : Int) (n t : Nat) : Int := shufF seed (t / n) n (t % n)
theorem batchG_all (seed : Int) (n s i : Nat) : batchG seed n s i = allG seed n (s + i) := rfl
theorem all_snoc (seed : Int) (n s m : Nat) : (List.range s).map (allG seed n) ++ (List.range m).map (batchG seed n s) = (List.range (s + m)).map (allG seed n) := by
  rw [List.range_add, List.map_append, List.map_map]
  rfl
theorem all_part (seed : Int) {n m : Nat} (hn : 1 ≤ n) {L : Nat} (h : m * n + n ≤ L) : (((List.range L).map (allG seed n)).drop (m * n)).take n = (List.range n).map (shufF seed m n) := by
  refine List.ext_getElem (by simp; omega) (fun i h1 h2 => ?_)
  simp only [List.length_map, List.length_range] at h2
  simp only [List.getElem_take, List.getElem_drop, List.getElem_map, List.getElem_range, allG]
  rw [show m * n + i = i + n * m from by rw [Nat.mul_comm, Nat.add_comm], Nat.add_mul_div_left _ _ (by omega), Nat.add_mul_mod_self_left, Nat.div_eq_of_lt h2, Nat.mod_eq_of_lt h2, Nat.zero_add]

theorem first_two : shufF 1 0 2 0 = 0 ∧ shufF 1 0 2 1 = 1 := by decide +kernel

end Go.Proofs.YtkikhfdkibekgaaGreat.Fx

/- What OptimKeeps asks, in plain numbers: rates are not above the config's, what is clipped keeps signs and order and turns with signs, a step with rate 0 leaves weights. -/
namespace Go.Proofs.YtkikhfdkibekgaaGreat.Fx
open Go.RowKit

theorem mulI_zero (b : Int) : mulI 0 b = 0 := by
  unfold mulI
  rw [show clampI 0 = 0 from by decide, Int.zero_mul]
  decide
theorem mulI_nonneg {a b : Int} (ha : 0 ≤ a) (hb : 0 ≤ b) : 0 ≤ mulI a b := by
  have := mulI_mono hb ha
  rw [mulI_zero] at this
  exact this
theorem mulI_nonpos {a b : Int} (ha : a ≤ 0) (hb : 0 ≤ b) : mulI a b ≤ 0 := by
  have := mulI_mono hb ha
  rw [mulI_zero] at this
  exact this
theorem divI_part {a b : Int} (ha : 0 ≤ a) (hb : 0 < b) (hm : b ≤ 2147483647) (hab : a ≤ b) : 0 ≤ divI a b ∧ divI a b ≤ 65536 := by
  unfold divI quoI
  rw [clampI_in (n := a) (by omega) (by omega), clampI_in (n := b) (by omega) (by omega), if_neg (by omega)]
  have h0 := rnd_mono (a := 0 * b) (b := a * 65536) hb (by omega)
  have h1 := rnd_mono (a := a * 65536) (b := 65536 * b) hb (by omega)
  rw [rnd_whole _ _ hb] at h0 h1
  have c0 := clampI_mono h0
  have c1 := clampI_mono h1
  rw [show clampI 0 = 0 from by decide] at c0
  rw [show clampI 65536 = 65536 from by decide] at c1
  exact ⟨c0, c1⟩
theorem rateV_bd {c : Cfg} {step : Int} (h : cfgB c = true) (hs : inB step 0 (c.steps - 1) = true) : 0 ≤ rateV c step ∧ rateV c step ≤ c.rate := by
  obtain ⟨_, _, _, _, ⟨s1, s2⟩, ⟨r1, r2⟩, _⟩ := cfgB_is h
  have s := in_is hs
  unfold rateV
  split
  · have d := divI_part (a := c.steps - step) (b := c.steps) (by omega) (by omega) (by omega) (by omega)
    refine ⟨mulI_nonneg r1 d.1, ?_⟩
    have m := mulI_mono (c := c.rate) r1 d.2
    rw [mulI_comm 65536, mulI_one _ (by omega) r2, mulI_comm] at m
    exact m
  · omega

/-- The factor that Clip takes. -/
theorem part_nonneg {xs : List Int} {la : Nat} {most : Int} (h0 : 0 ≤ most) (hm : most < topL xs la) : 0 ≤ divI most (topL xs la) := by
  have := topL_bd xs la
  exact (divI_part h0 (by omega) (by omega) (by omega)).1
theorem clipG_mono {xs : List Int} {most : Int} {la i j : Nat} (h0 : 0 ≤ most) (h : clampI (xs.getD i 0) ≤ clampI (xs.getD j 0)) : clipG xs most la i ≤ clipG xs most la j := by
  unfold clipG
  by_cases c : most ≠ 0 ∧ most < topL xs la
  · rw [if_pos c, if_pos c]
    have := mulI_mono (part_nonneg h0 c.2) h
    rw [mulI_clamp, mulI_clamp] at this
    exact this
  · rw [if_neg c, if_neg c]; exact h
theorem clipG_pos {xs : List Int} {most : Int} {la i : Nat} (h0 : 0 ≤ most) (h : 0 ≤ clampI (xs.getD i 0)) : 0 ≤ clipG xs most la i := by
  unfold clipG
  by_cases c : most ≠ 0 ∧ most < topL xs la
  · rw [if_pos c]
    have := mulI_nonneg h (part_nonneg h0 c.2)
    rw [mulI_clamp] at this
    exact this
  · rw [if_neg c]; exact h
theorem clipG_neg {xs : List Int} {most : Int} {la i : Nat} (h0 : 0 ≤ most) (h : clampI (xs.getD i 0) ≤ 0) : clipG xs most la i ≤ 0 := by
  unfold clipG
  by_cases c : most ≠ 0 ∧ most < topL xs la
  · rw [if_pos c]
    have := mulI_nonpos h (part_nonneg h0 c.2)
    rw [mulI_clamp] at this
    exact this
  · rw [if_neg c]; exact h
theorem clipG_bd (xs : List Int) (most : Int) (la i : Nat) : -2147483647 ≤ clipG xs most la i ∧ clipG xs most la i ≤ 2147483647 := by
  unfold clipG
  split
  · exact mulI_bd _ _
  · exact clampI_bd _
def minusG (xs : List Int) (i : Nat) : Int := -clampI (xs.getD i 0)
def minusL (xs : List Int) (la : Nat) : List Int := (List.range la).map (minusG xs)
theorem minusL_get {xs : List Int} {la i : Nat} (hi : i < la) : (minusL xs la).getD i 0 = -clampI (xs.getD i 0) := by
  unfold minusL minusG
  simp [hi]
theorem minus_top (xs : List Int) (la : Nat) : topL (minusL xs la) la = topL xs la :=
  topTo_neg fun i hi => by
    unfold clampG
    rw [minusL_get hi, clampI_neg, clampI_idem]
theorem minus_clip {xs : List Int} {most : Int} {la i : Nat} (hi : i < la) : clipG (minusL xs la) most la i = -clipG xs most la i := by
  unfold clipG
  rw [minus_top, minusL_get hi]
  by_cases c : most ≠ 0 ∧ most < topL xs la
  · rw [if_pos c, if_pos c, mulI_neg, mulI_clamp]
  · rw [if_neg c, if_neg c, clampI_neg, clampI_idem]

theorem gone_still {c : Cfg} {ws ms gs : List Int} (h : rightB ws = true) (i : Nat) : goneG c ws ms gs 0 i = ws.getD i 0 := by
  unfold goneG subI
  rw [mulI_zero, show clampI 0 = 0 from by decide, Int.sub_zero, clampI_idem]
  exact (rightB_get h i).symm
theorem stepW_still {c : Cfg} {ws ms gs : List Int} {nw nm ng : Nat} (hl : ws.length = nw) (hc : cfgB c = true) (h : stepF c ws ms nw nm ng = true) : (List.range ng).map (goneG c ws ms gs 0) = ws := by
  simp only [stepF, Bool.and_eq_true, decide_eq_true_eq] at h
  obtain ⟨⟨h1, _⟩, rfl⟩ := h
  have f := fit_len hc h1
  refine List.ext_getElem (by simp [hl]) (fun i a b => ?_)
  simp only [List.getElem_map, List.getElem_range]
  rw [gone_still f.2.2.2, List.getD_eq_getElem?_getD, List.getElem?_eq_getElem b]
  rfl
end Go.Proofs.YtkikhfdkibekgaaGreat.Fx

/- A course's states in plain numbers, one after another, and that their numbers are such as may be; no function of the program is spoken of. -/
namespace Go.Proofs.YtkikhfdkibekgaaGreat.Fx
open Go.RowKit

theorem right_map {g : Nat → Int} {n : Nat} (h : ∀ i, i < n → clampI (g i) = g i) : rightB ((List.range n).map g) = true := by
  refine rightB_true (fun j hj => ?_)
  have hj' : j < n := by simpa using hj
  rw [getD_range g hj', h j hj']
theorem dotTo_in (xs ys : List Int) (n : Nat) : clampI (dotTo xs ys n) = dotTo xs ys n := by
  cases n with
  | zero => rfl
  | succ k => exact clampI_idem _
theorem difL_right (d : PD) (xs ys : List Int) (I H O : Nat) : rightB (difL d xs ys I H O) = true := right_map fun _ _ => clampI_idem _
theorem graL_right (d : PD) (xs ys : List Int) (I H O : Nat) : rightB (graL d xs ys I H O) = true := by
  refine right_map fun i _ => ?_
  unfold graG
  by_cases h : (hidL d xs I H).getD i 0 = 0
  · rw [if_pos h]; rfl
  · rw [if_neg h]; exact dotTo_in _ _ _
theorem graD_right (d : PD) (xs ys : List Int) (I H O : Nat) : RightD (graD d xs ys I H O) :=
  ⟨right_map fun _ _ => clampI_idem _, right_map fun _ _ => clampI_idem _, graL_right d xs ys I H O, difL_right d xs ys I H O⟩
theorem rightB_app {xs ys : List Int} (h : rightB (xs ++ ys) = true) : rightB xs = true ∧ rightB ys = true := by
  unfold rightB at h ⊢
  rw [List.all_append, Bool.and_eq_true] at h
  exact h
theorem cutD_right {I H O : Nat} {xs : List Int} (hl : xs.length = H * I + H + O * H + O) (h : rightB xs = true) : RightD (cutD I H O xs) := by
  rw [← cutD_flat hl] at h
  unfold flatD at h
  have h1 := rightB_app h
  have h2 := rightB_app h1.2
  have h3 := rightB_app h2.2
  exact ⟨h1.1, h3.1, h2.1, h3.2⟩
theorem graD_len (d : PD) (xs ys : List Int) (I H O : Nat) : (flatD (graD d xs ys I H O)).length = H * I + H + O * H + O := by
  unfold flatD graD graL difL
  simp
  omega

/-- What Next makes of a state. -/
def nextW (c : Cfg) (n : Nat) (ws ms : List Int) (DI DO : Nat → List Int) (step : Int) (N : Nat) : List Int := (List.range N).map (goneG c ws ms (pushL c n ws DI DO step N) (rateV c step))
def nextM (c : Cfg) (n : Nat) (ws ms : List Int) (DI DO : Nat → List Int) (step : Int) (N : Nat) : List Int := (List.range N).map (keptG c ms (pushL c n ws DI DO step N))
/-- The states of a course: weights and moves. -/
def stateP (c : Cfg) (n : Nat) (DI DO : Nat → List Int) (N : Nat) : Nat → List Int × List Int
  | 0 => ((List.range N).map (startG c.seed), (List.range N).map zeroG)
  | k + 1 => (nextW c n (stateP c n DI DO N k).1 (stateP c n DI DO N k).2 DI DO (k : Int) N, nextM c n (stateP c n DI DO N k).1 (stateP c n DI DO N k).2 DI DO (k : Int) N)
theorem nextW_right (c : Cfg) (n : Nat) (ws ms : List Int) (DI DO : Nat → List Int) (step : Int) (N : Nat) : rightB (nextW c n ws ms DI DO step N) = true := right_map fun _ _ => clampI_idem _
theorem nextM_right {c : Cfg} {n : Nat} {ws ms : List Int} {DI DO : Nat → List Int} {step : Int} {N : Nat} (h : rightB ms = true) : rightB (nextM c n ws ms DI DO step N) = true := by
  refine right_map fun i _ => ?_
  unfold keptG
  by_cases e : c.how = 1
  · rw [if_pos e]; unfold moveG; rw [if_pos e]; exact clampI_idem _
  · rw [if_neg e]; exact (rightB_get h i).symm
theorem start_right (seed : Int) (N : Nat) : rightB ((List.range N).map (startG seed)) = true := by
  refine right_map fun i _ => ?_
  have := startG_bd seed i
  exact clampI_in (by omega) (by omega)
theorem zero_right (N : Nat) : rightB ((List.range N).map zeroG) = true := right_map fun _ _ => rfl
theorem stateP_right (c : Cfg) (n : Nat) (DI DO : Nat → List Int) (N k : Nat) : rightB (stateP c n DI DO N k).1 = true ∧ rightB (stateP c n DI DO N k).2 = true := by
  induction k with
  | zero => exact ⟨start_right _ _, zero_right _⟩
  | succ k ih => exact ⟨nextW_right _ _ _ _ _ _ _ _, nextM_right ih.2⟩
theorem stateP_len (c : Cfg) (n : Nat) (DI DO : Nat → List Int) (N k : Nat) : (stateP c n DI DO N k).1.length = N ∧ (stateP c n DI DO N k).2.length = N := by
  cases k with
  | zero => exact ⟨by simp [stateP], by simp [stateP]⟩
  | succ k => exact ⟨by simp [stateP, nextW], by simp [stateP, nextM]⟩
theorem rateV_in {c : Cfg} (h : cfgB c = true) (step : Int) (h0 : 0 ≤ step) (h1 : step ≤ c.steps - 1) : inB (rateV c step) 0 2147483647 = true := by
  have b := rateV_bd h (in_yes ⟨h0, h1⟩)
  obtain ⟨_, _, _, _, _, ⟨r1, r2⟩, _⟩ := cfgB_is h
  exact in_yes ⟨b.1, by omega⟩
theorem push_len (c : Cfg) (hc : cfgB c = true) (n : Nat) (ws : List Int) (DI DO : Nat → List Int) (step : Int) (N : Nat) (hN : N ≤ 200) : pushL c n ws DI DO step N = (List.range N).map (clipG ((List.range N).map (meanG (gradG c n ws DI DO step) c.batch)) c.clip N) ∧ (pushL c n ws DI DO step N).length = N := by
  obtain ⟨_, _, _, _, _, _, _, _, _, q1, q2⟩ := cfgB_is hc
  have hE : clipE N c.clip = 0 := by
    unfold clipE
    rw [if_neg (by omega), if_pos (by unfold inB; simp [q1, q2])]
  unfold pushL clipL
  rw [if_pos hE]
  exact ⟨rfl, by simp⟩

theorem batch_in (seed : Int) (B n s : Nat) (h1 : 1 ≤ n) {k : Nat} (hk : k < B) : ∃ j : Nat, j < n ∧ (batchP seed B n s).getD k 0 = (j : Int) := by
  have e : (batchP seed B n s).getD k 0 = shufF seed ((s + k) / n) n ((s + k) % n) := by
    unfold batchP
    rw [getD_range _ hk]
    rfl
  have hm : shufF seed ((s + k) / n) n ((s + k) % n) ∈ (List.range n).map (shufF seed ((s + k) / n) n) := List.mem_map.2 ⟨_, List.mem_range.2 (Nat.mod_lt _ (by omega)), rfl⟩
  have hp := (shufP_perm seed ((s + k) / n) n h1).mem_iff.1 hm
  obtain ⟨j, hj, hj2⟩ := List.mem_map.1 hp
  exact ⟨j, List.mem_range.1 hj, by rw [e, ← hj2]; rfl⟩

end Go.Proofs.YtkikhfdkibekgaaGreat.Fx

/- The plain trees of package tree: where leaves are cut, the tree of a list, the way of one leaf, how deep it lies, and the way up; from each leaf by its way one comes to the tree. Nothing here speaks of the program. -/
namespace Go.Proofs.YtkikhfdkibekgaaGreat.Fx

theorem okL_take {xs : List Int} (h : okL xs) (k : Nat) : okL (xs.take k) := by
  intro i hi
  rw [List.length_take] at hi
  have e : (xs.take k).getD i 0 = xs.getD i 0 := by
    rw [List.getD_eq_getElem?_getD, List.getElem?_take_of_lt (by omega), ← List.getD_eq_getElem?_getD]
  rw [e]; exact h i (by omega)
theorem okL_drop {xs : List Int} (h : okL xs) (k : Nat) : okL (xs.drop k) := by
  intro i hi
  rw [List.length_drop] at hi
  have e : (xs.drop k).getD i 0 = xs.getD (k + i) 0 := by
    rw [List.getD_eq_getElem?_getD, List.getElem?_drop, ← List.getD_eq_getElem?_getD]
  rw [e]; exact h _ (by omega)
theorem okL_snoc {xs : List Int} {x : Int} (h : okL xs) (hx : okW x) : okL (xs ++ [x]) := by
  intro i hi
  rw [List.length_append] at hi
  simp at hi
  rw [List.getD_eq_getElem?_getD]
  by_cases c : i < xs.length
  · rw [List.getElem?_append_left c, ← List.getD_eq_getElem?_getD]; exact h i c
  · obtain rfl : i = xs.length := by omega
    simpa using hx
theorem okW_of_P {n : Int} (h : okP n) : okW n := ⟨h.1, by have := h.2; omega⟩

def cutN (n : Nat) : Nat := 2 ^ Nat.log2 (n - 1)
theorem cutN_lt {n : Nat} (h : 2 ≤ n) : 1 ≤ cutN n ∧ cutN n < n ∧ n ≤ cutN n + cutN n := by
  have h1 : 2 ^ Nat.log2 (n - 1) ≤ n - 1 := Nat.log2_self_le (by omega)
  have h2 : n - 1 < 2 ^ (Nat.log2 (n - 1) + 1) := Nat.lt_log2_self
  have h3 : 0 < 2 ^ Nat.log2 (n - 1) := Nat.pow_pos (by omega)
  rw [Nat.pow_succ] at h2
  unfold cutN
  omega
/-- A power of two that is less than n, and no less than half of it, is the cut. -/
theorem cutN_is {n j : Nat} (h : 2 ^ j < n) (h2 : n ≤ 2 ^ j + 2 ^ j) : cutN n = 2 ^ j := by
  unfold cutN
  have e : Nat.log2 (n - 1) = j := by
    rw [Nat.log2_eq_iff (by have : 0 < 2 ^ j := Nat.pow_pos (by omega)
                            omega)]
    rw [Nat.pow_succ]
    omega
  rw [e]

def treeF : Nat → List Int → Int
  | 0, l => l.getD 0 0
  | f + 1, l => if l.length ≤ 1 then l.getD 0 0 else ofP 3 [treeF f (l.take (cutN l.length)), treeF f (l.drop (cutN l.length))]
theorem treeF_same : ∀ (f g : Nat) (l : List Int), l.length ≤ f → l.length ≤ g → treeF f l = treeF g l
  | 0, 0, _, _, _ => rfl
  | 0, g + 1, l, h, _ => by unfold treeF; rw [if_pos (by omega)]
  | f + 1, 0, l, _, h => by unfold treeF; rw [if_pos (by omega)]
  | f + 1, g + 1, l, h1, h2 => by
    unfold treeF
    by_cases c : l.length ≤ 1
    · rw [if_pos c, if_pos c]
    · rw [if_neg c, if_neg c]
      have := cutN_lt (n := l.length) (by omega)
      rw [treeF_same f g (l.take _) (by rw [List.length_take]; omega) (by rw [List.length_take]; omega), treeF_same f g (l.drop _) (by rw [List.length_drop]; omega) (by rw [List.length_drop]; omega)]
/-- The tree of a list of leaves. -/
def treeP (l : List Int) : Int := treeF l.length l
theorem treeP_one {l : List Int} (h : l.length ≤ 1) : treeP l = l.getD 0 0 := by
  unfold treeP
  rw [treeF_same l.length (l.length + 1) l (Nat.le_refl _) (by omega)]
  unfold treeF
  rw [if_pos h]
theorem treeP_two {l : List Int} (h : 2 ≤ l.length) : treeP l = ofP 3 [treeP (l.take (cutN l.length)), treeP (l.drop (cutN l.length))] := by
  have := cutN_lt h
  have e : treeP l = treeF (l.length + 1) l := treeF_same _ _ l (Nat.le_refl _) (by omega)
  rw [e]
  rw [treeF, if_neg (by omega)]
  unfold treeP
  rw [treeF_same l.length (l.take _).length (l.take _) (by rw [List.length_take]; omega) (Nat.le_refl _), treeF_same l.length (l.drop _).length (l.drop _) (by rw [List.length_drop]; omega) (Nat.le_refl _)]
theorem treeP_ok {l : List Int} (h : okL l) (h1 : 1 ≤ l.length) : okW (treeP l) := by
  by_cases c : l.length ≤ 1
  · rw [treeP_one c]; exact h 0 (by omega)
  · rw [treeP_two (by omega)]; exact okW_of_P (ofP_ok _ _)

def wayF : Nat → List Int → Nat → List Int
  | 0, _, _ => []
  | f + 1, l, i => if l.length ≤ 1 then [] else if i < cutN l.length then wayF f (l.take (cutN l.length)) i ++ [treeP (l.drop (cutN l.length))] else wayF f (l.drop (cutN l.length)) (i - cutN l.length) ++ [treeP (l.take (cutN l.length))]
theorem wayF_same : ∀ (f g : Nat) (l : List Int) (i : Nat), l.length ≤ f → l.length ≤ g → wayF f l i = wayF g l i
  | 0, 0, _, _, _, _ => rfl
  | 0, g + 1, l, i, h, _ => by unfold wayF; rw [if_pos (by omega)]
  | f + 1, 0, l, i, _, h => by unfold wayF; rw [if_pos (by omega)]
  | f + 1, g + 1, l, i, h1, h2 => by
    unfold wayF
    by_cases c : l.length ≤ 1
    · rw [if_pos c, if_pos c]
    · rw [if_neg c, if_neg c]
      have := cutN_lt (n := l.length) (by omega)
      rw [wayF_same f g (l.take _) _ (by rw [List.length_take]; omega) (by rw [List.length_take]; omega), wayF_same f g (l.drop _) _ (by rw [List.length_drop]; omega) (by rw [List.length_drop]; omega)]
/-- The way of leaf i. -/
def wayP (l : List Int) (i : Nat) : List Int := wayF l.length l i
theorem wayP_one {l : List Int} (h : l.length ≤ 1) (i : Nat) : wayP l i = [] := by
  unfold wayP
  rw [wayF_same l.length (l.length + 1) l i (Nat.le_refl _) (by omega)]
  unfold wayF
  rw [if_pos h]
theorem wayP_left {l : List Int} (h : 2 ≤ l.length) {i : Nat} (hi : i < cutN l.length) : wayP l i = wayP (l.take (cutN l.length)) i ++ [treeP (l.drop (cutN l.length))] := by
  have := cutN_lt h
  have e : wayP l i = wayF (l.length + 1) l i := wayF_same _ _ l i (Nat.le_refl _) (by omega)
  rw [e]
  rw [wayF, if_neg (by omega), if_pos hi]
  unfold wayP
  rw [wayF_same l.length (l.take _).length (l.take _) _ (by rw [List.length_take]; omega) (Nat.le_refl _)]
theorem wayP_right {l : List Int} (h : 2 ≤ l.length) {i : Nat} (hi : ¬ i < cutN l.length) : wayP l i = wayP (l.drop (cutN l.length)) (i - cutN l.length) ++ [treeP (l.take (cutN l.length))] := by
  have := cutN_lt h
  have e : wayP l i = wayF (l.length + 1) l i := wayF_same _ _ l i (Nat.le_refl _) (by omega)
  rw [e]
  rw [wayF, if_neg (by omega), if_neg hi]
  unfold wayP
  rw [wayF_same l.length (l.drop _).length (l.drop _) _ (by rw [List.length_drop]; omega) (Nat.le_refl _)]

def deepF : Nat → Nat → Nat → Nat
  | 0, _, _ => 0
  | f + 1, i, n => if n ≤ 1 then 0 else if i < cutN n then 1 + deepF f i (cutN n) else 1 + deepF f (i - cutN n) (n - cutN n)
theorem deepF_same : ∀ (f g i n : Nat), n ≤ f → n ≤ g → deepF f i n = deepF g i n
  | 0, 0, _, _, _, _ => rfl
  | 0, g + 1, i, n, h, _ => by unfold deepF; rw [if_pos (by omega)]
  | f + 1, 0, i, n, _, h => by unfold deepF; rw [if_pos (by omega)]
  | f + 1, g + 1, i, n, h1, h2 => by
    unfold deepF
    by_cases c : n ≤ 1
    · rw [if_pos c, if_pos c]
    · rw [if_neg c, if_neg c]
      have := cutN_lt (n := n) (by omega)
      rw [deepF_same f g i (cutN n) (by omega) (by omega), deepF_same f g (i - cutN n) (n - cutN n) (by omega) (by omega)]
/-- How long the way of leaf i of n is. -/
def deepP (i n : Nat) : Nat := deepF n i n
theorem deepP_one {n : Nat} (h : n ≤ 1) (i : Nat) : deepP i n = 0 := by
  unfold deepP
  rw [deepF_same n (n + 1) i n (Nat.le_refl _) (by omega)]
  unfold deepF
  rw [if_pos h]
theorem deepP_left {i n : Nat} (h : 2 ≤ n) (hi : i < cutN n) : deepP i n = 1 + deepP i (cutN n) := by
  have := cutN_lt h
  have e : deepP i n = deepF (n + 1) i n := deepF_same _ _ i n (Nat.le_refl _) (by omega)
  rw [e]
  rw [deepF, if_neg (by omega), if_pos hi]
  unfold deepP
  rw [deepF_same n (cutN n) i (cutN n) (by omega) (Nat.le_refl _)]
theorem deepP_right {i n : Nat} (h : 2 ≤ n) (hi : ¬ i < cutN n) : deepP i n = 1 + deepP (i - cutN n) (n - cutN n) := by
  have := cutN_lt h
  have e : deepP i n = deepF (n + 1) i n := deepF_same _ _ i n (Nat.le_refl _) (by omega)
  rw [e]
  rw [deepF, if_neg (by omega), if_neg hi]
  unfold deepP
  rw [deepF_same n (n - cutN n) _ (n - cutN n) (by omega) (Nat.le_refl _)]
theorem deepF_le : ∀ (f i n : Nat), deepF f i n ≤ f
  | 0, _, _ => Nat.le_refl _
  | f + 1, i, n => by
    unfold deepF
    have h1 := deepF_le f i (cutN n)
    have h2 := deepF_le f (i - cutN n) (n - cutN n)
    by_cases c : n ≤ 1
    · rw [if_pos c]; omega
    · rw [if_neg c]
      by_cases d : i < cutN n
      · rw [if_pos d]; omega
      · rw [if_neg d]; omega
theorem deepP_le (i n : Nat) : deepP i n ≤ n := deepF_le n i n

def upF : Nat → Nat → Nat → Int → List Int → Int
  | 0, _, _, x, _ => x
  | f + 1, i, n, x, p => if n ≤ 1 then x else if i < cutN n then ofP 3 [upF f i (cutN n) x (p.take (p.length - 1)), p.getD (p.length - 1) 0] else ofP 3 [p.getD (p.length - 1) 0, upF f (i - cutN n) (n - cutN n) x (p.take (p.length - 1))]
theorem upF_same : ∀ (f g i n : Nat) (x : Int) (p : List Int), n ≤ f → n ≤ g → upF f i n x p = upF g i n x p
  | 0, 0, _, _, _, _, _, _ => rfl
  | 0, g + 1, i, n, x, p, h, _ => by unfold upF; rw [if_pos (by omega)]
  | f + 1, 0, i, n, x, p, _, h => by unfold upF; rw [if_pos (by omega)]
  | f + 1, g + 1, i, n, x, p, h1, h2 => by
    unfold upF
    by_cases c : n ≤ 1
    · rw [if_pos c, if_pos c]
    · rw [if_neg c, if_neg c]
      have := cutN_lt (n := n) (by omega)
      rw [upF_same f g i (cutN n) x _ (by omega) (by omega), upF_same f g (i - cutN n) (n - cutN n) x _ (by omega) (by omega)]
/-- The tree of n leaves, by leaf i and its way. -/
def upP (i n : Nat) (x : Int) (p : List Int) : Int := upF n i n x p
theorem upP_one {n : Nat} (h : n ≤ 1) (i : Nat) (x : Int) (p : List Int) : upP i n x p = x := by
  unfold upP
  rw [upF_same n (n + 1) i n x p (Nat.le_refl _) (by omega)]
  unfold upF
  rw [if_pos h]
theorem upP_left {i n : Nat} (h : 2 ≤ n) (hi : i < cutN n) (x : Int) (p : List Int) : upP i n x p = ofP 3 [upP i (cutN n) x (p.take (p.length - 1)), p.getD (p.length - 1) 0] := by
  have := cutN_lt h
  have e : upP i n x p = upF (n + 1) i n x p := upF_same _ _ i n x p (Nat.le_refl _) (by omega)
  rw [e]
  rw [upF, if_neg (by omega), if_pos hi]
  unfold upP
  rw [upF_same n (cutN n) i (cutN n) x _ (by omega) (Nat.le_refl _)]
theorem upP_right {i n : Nat} (h : 2 ≤ n) (hi : ¬ i < cutN n) (x : Int) (p : List Int) : upP i n x p = ofP 3 [p.getD (p.length - 1) 0, upP (i - cutN n) (n - cutN n) x (p.take (p.length - 1))] := by
  have := cutN_lt h
  have e : upP i n x p = upF (n + 1) i n x p := upF_same _ _ i n x p (Nat.le_refl _) (by omega)
  rw [e]
  rw [upF, if_neg (by omega), if_neg hi]
  unfold upP
  rw [upF_same n (n - cutN n) _ (n - cutN n) x _ (by omega) (Nat.le_refl _)]
theorem upP_ok {i n : Nat} {x : Int} {p : List Int} (hx : okW x) : okW (upP i n x p) := by
  by_cases c : n ≤ 1
  · rw [upP_one c]; exact hx
  · by_cases d : i < cutN n
    · rw [upP_left (by omega) d]; exact okW_of_P (ofP_ok _ _)
    · rw [upP_right (by omega) d]; exact okW_of_P (ofP_ok _ _)

theorem take_len {l : List Int} (h : 2 ≤ l.length) : (l.take (cutN l.length)).length = cutN l.length := by
  have := cutN_lt h
  rw [List.length_take]; omega
theorem snoc_last (p : List Int) (x : Int) : (p ++ [x]).getD ((p ++ [x]).length - 1) 0 = x ∧ (p ++ [x]).take ((p ++ [x]).length - 1) = p := by
  constructor <;> simp

/-- The way is as long as it is said to be, and of words. -/
theorem way_deep : ∀ (m : Nat) (l : List Int) (i : Nat), l.length ≤ m → okL l → (wayP l i).length = deepP i l.length ∧ okL (wayP l i)
  | 0, l, i, h, _ => by rw [wayP_one (by omega), deepP_one (by omega)]; exact ⟨rfl, fun i hi => by simp at hi⟩
  | m + 1, l, i, h, hl => by
    by_cases c : l.length ≤ 1
    · rw [wayP_one c, deepP_one c]; exact ⟨rfl, fun i hi => by simp at hi⟩
    · have h2 : 2 ≤ l.length := by omega
      have hc := cutN_lt h2
      by_cases d : i < cutN l.length
      · obtain ⟨e1, e2⟩ := way_deep m (l.take (cutN l.length)) i (by rw [take_len h2]; omega) (okL_take hl _)
        rw [wayP_left h2 d, deepP_left h2 d]
        rw [take_len h2] at e1
        exact ⟨by rw [List.length_append, e1, Nat.add_comm]; rfl, okL_snoc e2 (treeP_ok (okL_drop hl _) (by rw [List.length_drop]; omega))⟩
      · obtain ⟨e1, e2⟩ := way_deep m (l.drop (cutN l.length)) (i - cutN l.length) (by rw [List.length_drop]; omega) (okL_drop hl _)
        rw [wayP_right h2 d, deepP_right h2 d]
        rw [List.length_drop] at e1
        exact ⟨by rw [List.length_append, e1, Nat.add_comm]; rfl, okL_snoc e2 (treeP_ok (okL_take hl _) (by rw [take_len h2]; omega))⟩
/-- Merkle: from each leaf by its way one comes to the tree. -/
theorem way_up : ∀ (m : Nat) (l : List Int) (i : Nat), l.length ≤ m → i < l.length → upP i l.length (l.getD i 0) (wayP l i) = treeP l
  | 0, l, i, h, h1 => by omega
  | m + 1, l, i, h, h1 => by
    by_cases c : l.length ≤ 1
    · obtain rfl : i = 0 := by omega
      rw [upP_one c, treeP_one c]
    · have h2 : 2 ≤ l.length := by omega
      have hc := cutN_lt h2
      by_cases d : i < cutN l.length
      · have e := way_up m (l.take (cutN l.length)) i (by rw [take_len h2]; omega) (by rw [take_len h2]; omega)
        rw [take_len h2] at e
        have e3 : (l.take (cutN l.length)).getD i 0 = l.getD i 0 := by
          rw [List.getD_eq_getElem?_getD, List.getElem?_take_of_lt d, ← List.getD_eq_getElem?_getD]
        rw [e3] at e
        rw [upP_left h2 d, wayP_left h2 d, (snoc_last _ _).1, (snoc_last _ _).2, e, ← treeP_two h2]
      · have e := way_up m (l.drop (cutN l.length)) (i - cutN l.length) (by rw [List.length_drop]; omega) (by rw [List.length_drop]; omega)
        rw [List.length_drop] at e
        have e3 : (l.drop (cutN l.length)).getD (i - cutN l.length) 0 = l.getD i 0 := by
          rw [List.getD_eq_getElem?_getD, List.getElem?_drop, ← List.getD_eq_getElem?_getD]
          congr 1; omega
        rw [e3] at e
        rw [upP_right h2 d, wayP_right h2 d, (snoc_last _ _).1, (snoc_last _ _).2, e, ← treeP_two h2]

end Go.Proofs.YtkikhfdkibekgaaGreat.Fx

/- What tree.chunks, tree.leaf and tree.Leaves return: the leaves of a list of integers. -/
namespace Go.Proofs.YtkikhfdkibekgaaGreat.Fx
open Go.RowKit

theorem chunks_calls (n : Nat) (h : n ≤ 200) (w : World) : Calls Tryz.prog 93 #[.int .i64 n] w fun e w' => e = .returned (.int .i64 ((n + 3) / 4 : Nat)) ∧ w' = w := by
  have e1 : ((n : Int) + 4 - 1).tdiv 4 = (((n + 3) / 4 : Nat) : Int) := by
    rw [Int.tdiv_eq_ediv_of_nonneg (by omega)]; omega
  go_enter Tryz.func93, Tryz.ntmps93
  go_wp2
  go_ret
  exact ⟨ret_word (by omega), rfl⟩

theorem numL_ok (xs : List Int) (n : Nat) : okL (numL xs n) := by
  unfold numL
  intro i hi
  by_cases h : 200 < n
  · rw [if_pos h] at hi; simp at hi
  · rw [if_neg h] at hi ⊢
    simp at hi
    have := boundP_ok (xs.getD i 0)
    simp only [List.getD_eq_getElem?_getD, List.getElem?_map, List.getElem?_range hi, Option.map_some, Option.getD_some, numG] at this ⊢
    exact ⟨this.1, by omega⟩
theorem numL_len {xs : List Int} {n : Nat} (h : n ≤ 200) : (numL xs n).length = n := by
  unfold numL; rw [if_neg (by omega)]; simp

theorem leaf_calls (a : Option Addr) (la ca : Nat) (xs : List Int) (w : World) (ha : Lst w a la ca xs) (_hl : la ≤ 4) :
    Calls Tryz.prog 94 #[.slice a la ca] w fun e w' => e = .returned (.int .u64 (ofP 4 (numL xs la))) ∧ Below w.heap.size w w' := by
  go_enter Tryz.func94, Tryz.ntmps94
  go_wp2_with (first | (go_at_call 49; refine (dNumbers_calls _ _ _ xs _ ha).mono ?_; rintro e w1 ⟨a1, n1, rfl, hn1, h1, hw1⟩) | (go_at_call 51; refine (dOf_calls 4 ⟨by omega, by omega⟩ _ _ _ (numL xs la) _ h1 (numL_ok _ _)).mono ?_; rintro e w2 ⟨rfl, hw2⟩))
  go_ret
  exact ⟨ret_word (by unfold ofA; rw [if_neg (by omega)]), hw1.trans (hw2.mono hw1.size)⟩

/-- Leaf i of a list of n integers: of its chunk. -/
def hiN (n i : Nat) : Nat := min (i * 4 + 4) n
def leafG (xs : List Int) (n i : Nat) : Int := ofP 4 (numL ((xs.drop (i * 4)).take (hiN n i - i * 4)) (hiN n i - i * 4))
def leavesP (xs : List Int) (n : Nat) : List Int := (List.range ((n + 3) / 4)).map (leafG xs n)
theorem leavesP_len (xs : List Int) (n : Nat) : (leavesP xs n).length = (n + 3) / 4 := by unfold leavesP; simp
theorem leavesP_ok (xs : List Int) (n : Nat) : okL (leavesP xs n) := by
  intro i hi
  rw [leavesP_len] at hi
  unfold leavesP
  simp only [List.getD_eq_getElem?_getD, List.getElem?_map, List.getElem?_range hi, Option.map_some, Option.getD_some]
  exact okW_of_P (ofP_ok _ _)

set_option maxHeartbeats 1600000 in
theorem leaves_calls (a : Option Addr) (n c : Nat) (xs : List Int) (w : World) (ha : Lst w a n c xs) (h1 : 1 ≤ n) (h2 : n ≤ 200) :
    Calls Tryz.prog 71 #[.slice a n c] w fun e w' => ∃ a', e = .returned (.tuple #[.slice a' ((n + 3) / 4 : Nat) ((n + 3) / 4 : Nat), .int .i64 0]) ∧ LstW w' a' ((n + 3) / 4) ((n + 3) / 4) (leavesP xs n) ∧ Below w.heap.size w w' := by
  unfold leavesP
  have n0 : ((n : Int) == 0) = false := by rw [beq_eq_false_iff_ne]; omega
  have HC : Hid (∀ w, Calls Tryz.prog 93 #[.int .i64 n] w fun e w' => e = .returned (.int .i64 ((n + 3) / 4 : Nat)) ∧ w' = w) := chunks_calls n h2
  obtain ⟨N, hN⟩ : ∃ N, (n + 3) / 4 = N := ⟨_, rfl⟩
  rw [hN] at HC ⊢
  have hmk := run_make_row' (P := Tryz.prog) 67 22 (.int .u64 0) 8 Tryz.underlying67 infoW rfl .i64 .i64 N (by omega) (by omega)
  obtain ⟨b, off, x, rfl, hb, h0, HX⟩ := ha.at1 (k := 0) (by omega)
  have HK := ha.cap
  go_enter Tryz.func71, Tryz.ntmps71
  go_wp2_with (go_at_call 93; refine (HC.out _).mono ?_; rintro e w' ⟨rfl, hw'⟩; replace hw' := hw'.symm; subst hw')
  go_loopw [19] (fun i wr => ∃ k : Nat, k ≤ N ∧ i = .int .i64 k ∧ wr.rowIs w.heap.size 22 N (rowToW (leafG xs n) k) ∧ Below w.heap.size w wr) (fun i _ => N - (intOf i).toNat)
  case atStart => exact ⟨0, Nat.zero_le _, rfl, rowToW_made (World.rowIs_made _ _ _ _), (Below.refl _ _).alloc (Nat.le_refl _) _⟩
  case round =>
    obtain ⟨k, hk, rfl, hrow, hbel⟩ := hrel
    have ha' := ha.below hbel (Nat.le_refl _)
    clear ha hmk
    by_cases hlt : k < N
    · obtain ⟨lo, hlo⟩ : ∃ lo, k * 4 = lo := ⟨_, rfl⟩
      obtain ⟨hi, hhi⟩ : ∃ hi, hiN n k = hi := ⟨_, rfl⟩
      have hh : lo ≤ hi ∧ hi ≤ n ∧ hi ≤ lo + 4 := by unfold hiN at hhi; omega
      have hs := ha'.sub (by omega) lo hi (by omega) (by omega)
      have HG : Hid (leafG xs n k = ofP 4 (numL ((xs.drop lo).take (hi - lo)) (hi - lo))) := by show leafG xs n k = _; unfold leafG; rw [hlo, hhi]
      have HM : Hid (hi = min (lo + 4) n) := by show hi = min (lo + 4) n; rw [← hhi, ← hlo]; rfl
      have c3 := rowToW_cell hrow hlt
      have f3 := hrow.frozen k
      have e1 : (k : Int) * 4 = (lo : Int) := by omega
      clear hhi hlo
      have hlr := hrow.lt
      go_wp2_with fail
      all_goals
        first
          | rw [show ((lo : Int) + 4).toNat = hi from by have := HM.out; omega]
          | rw [show n - lo = hi - lo from by have := HM.out; omega]
        refine (leaf_calls _ _ _ _ _ hs (by omega)).mono ?_
        rintro e w1 ⟨rfl, hw1⟩
        have hrow1 := hrow.of_block (hw1.block _ hlr)
        have d3 := rowToW_cell hrow1 hlt
        have g3 := hrow1.frozen k
        clear c3 f3
        go_wp2
        go_roundw
        case rel =>
          have st := rowToW_step (g := leafG xs n) hrow1
          rw [HG.out] at st
          exact ⟨k + 1, by omega, by go_num, st, (hbel.trans (hw1.mono hbel.size)).setCell (Nat.le_refl _) _⟩
        case measure => simp [intOf]; omega
    · go_wp2
      go_ret2
      obtain rfl : k = N := by omega
      exact ⟨_, rfl, rowToW_lst hrow, hbel⟩

/-- The root of two lists, one behind the other. -/
def rootP (ws ms : List Int) (n : Nat) : Int := ofP 3 [(n : Int), treeP (leavesP (ws ++ ms) n)]
end Go.Proofs.YtkikhfdkibekgaaGreat.Fx

/- A journal in plain numbers: roots, heads, chains, records; and how records lie in memory; no function of the program is spoken of. -/
namespace Go.Proofs.YtkikhfdkibekgaaGreat.Fx
open Go.RowKit

/-- What a head is a digest of. -/
def headL (c : Cfg) (n : Nat) (DI DO : Nat → List Int) (N : Nat) : List Int :=
  [c.i, c.h, c.o, c.seed, c.batch, c.steps, c.rate, c.decay, c.how, c.keep, c.clip] ++ (List.range n).map (fun j => rootP (DI j) (DO j) ((DI j).length + (DO j).length)) ++ [rootP ((List.range N).map (startG c.seed)) ((List.range N).map zeroG) (N + N)]
def headP (c : Cfg) (n : Nat) (DI DO : Nat → List Int) (N : Nat) : Int := ofP 5 (headL c n DI DO N)
def chainL (before step rate root : Int) (bs : List Int) : List Int := [before, step, rate, root, (bs.length : Int)] ++ bs
def chainP (before step rate root : Int) (bs : List Int) : Int := ofP 6 (chainL before step rate root bs)
/-- May a record be chained? -/
def nonB (bs : List Int) : Bool := bs.all fun x => decide (0 ≤ x)
def chB (step rate : Int) (len : Nat) (bs : List Int) : Bool := decide (0 ≤ step) && decide (0 ≤ rate) && decide (len ≤ 8) && nonB bs
theorem nonB_true {xs : List Int} (h : ∀ j, j < xs.length → 0 ≤ xs.getD j 0) : nonB xs = true := by
  unfold nonB
  rw [List.all_eq_true]
  intro x hx
  obtain ⟨i, hi, rfl⟩ := List.getElem_of_mem hx
  have := h i hi
  rw [List.getD_eq_getElem?_getD, List.getElem?_eq_getElem hi, Option.getD_some] at this
  exact decide_eq_true this
theorem nonB_get {xs : List Int} (h : nonB xs = true) (j : Nat) : 0 ≤ xs.getD j 0 := by
  unfold nonB at h
  rw [List.all_eq_true] at h
  rcases Nat.lt_or_ge j xs.length with hj | hj
  · have := of_decide_eq_true (h (xs[j]) (List.getElem_mem hj))
    rw [List.getD_eq_getElem?_getD, List.getElem?_eq_getElem hj, Option.getD_some]
    exact this
  · rw [List.getD_eq_getElem?_getD, List.getElem?_eq_none hj]
    exact Int.le_refl _
theorem nonB_false {xs : List Int} {k : Nat} (h : ¬ 0 ≤ xs.getD k 0) : nonB xs = false := by
  cases e : nonB xs with
  | false => rfl
  | true => exact absurd (nonB_get e k) h
/-- Whether the first k are not below nothing. -/
def nonTo (xs : List Int) (k : Nat) (b0 ok : Bool) : Prop := ok = true ↔ (b0 = true ∧ ∀ j, j < k → 0 ≤ xs.getD j 0)
theorem nonTo_zero (xs : List Int) (b0 : Bool) : nonTo xs 0 b0 b0 := ⟨fun h => ⟨h, fun j hj => by omega⟩, fun h => h.1⟩
theorem nonTo_step {xs : List Int} {k : Nat} {b0 ok : Bool} {x : Int} (h : nonTo xs k b0 ok) (hx : xs.getD k 0 = x) : nonTo xs (k + 1) b0 (ok && decide (0 ≤ x)) := by
  unfold nonTo
  rw [Bool.and_eq_true, decide_eq_true_eq]
  refine ⟨fun g => ⟨(h.1 g.1).1, fun j hj => ?_⟩, fun g => ⟨h.2 ⟨g.1, fun j hj => g.2 j (by omega)⟩, by rw [← hx]; exact g.2 k (by omega)⟩⟩
  by_cases e : j = k
  · subst e; rw [hx]; exact g.2
  · exact (h.1 g.1).2 j (by omega)
theorem nonTo_end {xs : List Int} {k : Nat} {b0 ok : Bool} (h : nonTo xs k b0 ok) (hk : xs.length = k) : ok = (b0 && nonB xs) := by
  cases ok with
  | true =>
    obtain ⟨g1, g2⟩ := h.1 rfl
    rw [g1, nonB_true (fun j hj => g2 j (by omega))]; rfl
  | false =>
    cases e1 : b0 with
    | false => rfl
    | true =>
      cases e2 : nonB xs with
      | false => rfl
      | true => exact absurd (h.2 ⟨e1, fun j _ => nonB_get e2 j⟩) (by decide)

/-- The records of a course. -/
def jrRoot (c : Cfg) (n : Nat) (DI DO : Nat → List Int) (N k : Nat) : Int := rootP (stateP c n DI DO N (k + 1)).1 (stateP c n DI DO N (k + 1)).2 (N + N)
def jrBatch (c : Cfg) (n k : Nat) : List Int := batchP c.seed c.batch.toNat n (k * c.batch.toNat)
def jrChain (c : Cfg) (n : Nat) (DI DO : Nat → List Int) (N : Nat) : Nat → Int
  | 0 => headP c n DI DO N
  | k + 1 => chainP (jrChain c n DI DO N k) (k : Int) (rateV c k) (jrRoot c n DI DO N k) (jrBatch c n k)

theorem okL_app {xs ys : List Int} (hx : okL xs) (hy : okL ys) : okL (xs ++ ys) := by
  intro i hi
  rw [List.length_append] at hi
  rcases Nat.lt_or_ge i xs.length with h | h
  · rw [List.getD_eq_getElem?_getD, List.getElem?_append_left h, ← List.getD_eq_getElem?_getD]; exact hx i h
  · rw [List.getD_eq_getElem?_getD, List.getElem?_append_right h, ← List.getD_eq_getElem?_getD]; exact hy _ (by omega)
theorem okL_non {xs : List Int} (h : nonB xs = true) (h2 : ∀ j, xs.getD j 0 ≤ 9223372036854775807) : okL xs := fun i _ => ⟨nonB_get h i, by have := h2 i; omega⟩
end Go.Proofs.YtkikhfdkibekgaaGreat.Fx

/- What package journal's functions answer, in plain numbers, for every input; no function of the program is spoken of. -/
namespace Go.Proofs.YtkikhfdkibekgaaGreat.Fx
open Go.RowKit

def rootE (n1 n2 : Nat) : Int := if n1 + n2 = 0 then 1 else if 200 < n1 + n2 then 2 else 0
def rootV (n1 : Nat) (ws : List Int) (n2 : Nat) (ms : List Int) : Int := if rootE n1 n2 = 0 then rootP ws ms (n1 + n2) else 0
def headV (c : Cfg) (n : Nat) (X : Nat → Exm) (DI DO : Nat → List Int) : Int := if courseI c n X DI DO = 0 then headP c n DI DO (sizeN c).toNat else 0
def chE (step rate : Int) (len : Nat) (bs : List Int) : Int := if chB step rate len bs = true then 0 else 5
def chV (before step rate root : Int) (len : Nat) (bs : List Int) : Int := if chB step rate len bs = true then chainP before step rate root bs else 0
def mkE (c : Cfg) (n : Nat) (X : Nat → Exm) (DI DO : Nat → List Int) (m : Int) : Int := if courseI c n X DI DO = 0 then (if inB m 0 c.steps = true then 0 else 1) else courseI c n X DI DO
def mkN (c : Cfg) (n : Nat) (X : Nat → Exm) (DI DO : Nat → List Int) (m : Int) : Nat := if mkE c n X DI DO m = 0 then m.toNat else 0
def mkRV (c : Cfg) (j : Nat) : Int := rateV c j
def mkRO (c : Cfg) (n : Nat) (DI DO : Nat → List Int) : Nat → Int := jrRoot c n DI DO (sizeN c).toNat
def mkCH (c : Cfg) (n : Nat) (DI DO : Nat → List Int) : Nat → Int := jrChain c n DI DO (sizeN c).toNat
theorem course_is {c : Cfg} {n : Nat} {X : Nat → Exm} {DI DO : Nat → List Int} (h : courseI c n X DI DO = 0) : cfgB c = true ∧ 1 ≤ n ∧ n ≤ 16 ∧ allEx c n X DI DO = true := by
  unfold courseI at h
  by_cases h1 : cfgB c = true
  · rw [if_pos h1] at h
    by_cases h2 : n = 0
    · rw [if_pos h2] at h; cases h
    · rw [if_neg h2] at h
      by_cases h3 : 16 < n
      · rw [if_pos h3] at h; cases h
      · rw [if_neg h3] at h
        by_cases h4 : allEx c n X DI DO = true
        · exact ⟨h1, by omega, by omega, h4⟩
        · rw [if_neg h4] at h; cases h
  · rw [if_neg h1] at h; cases h
/-- A batch's numbers, one by one. -/
def jrG (c : Cfg) (n k : Nat) : Nat → Int := batchG c.seed n (k * c.batch.toNat)
theorem jrBatch_is (c : Cfg) (n : Nat) : jrBatch c n = fun k => (List.range c.batch.toNat).map (jrG c n k) := rfl
def noRec : Nat → Rcm := fun _ => ⟨0, none, 0, 0, 0, 0, 0⟩
/-- What the first records say. -/
def JrN (k : Nat) (R : Nat → Rcm) (RV RO CH : Nat → Int) : Prop := ∀ j, j < k → (R j).s = (j : Int) ∧ (R j).r = RV j ∧ (R j).root = RO j ∧ (R j).chain = CH (j + 1)
theorem JrN.push {k : Nat} {R R2 : Nat → Rcm} {RV RO CH : Nat → Int} (h : JrN k R RV RO CH) (hR : ∀ j, j < k → R2 j = R j) (h1 : (R2 k).s = (k : Int)) (h2 : (R2 k).r = RV k) (h3 : (R2 k).root = RO k) (h4 : (R2 k).chain = CH (k + 1)) : JrN (k + 1) R2 RV RO CH := fun j hj => by
  by_cases e : j = k
  · subst e; exact ⟨h1, h2, h3, h4⟩
  · rw [hR j (by omega)]; exact h j (by omega)
end Go.Proofs.YtkikhfdkibekgaaGreat.Fx
