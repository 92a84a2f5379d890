/- Orders and batches as plain numbers, and a row of integers whose cells are changed in whatever order; no program is spoken of. -/
import Derived.Test.YtfkalnehomgccaaApps
import Derived.Test.YtfkalnehomgccaaDig
namespace Go.Proofs.Ytfkalnehomgccaa.Fx
open Go.RowKit

/-- The place that place i changes with. -/
def placeP (seed : Int) (epoch i : Nat) : Nat := (ofP 2 [seed, ((64 * epoch + i : Nat) : Int)] % ((i : Int) + 1)).toNat
theorem placeP_le (seed : Int) (epoch i : Nat) : placeP seed epoch i ≤ i := by
  unfold placeP
  have h := Int.emod_lt_of_pos (ofP 2 [seed, ((64 * epoch + i : Nat) : Int)]) (b := (i : Int) + 1) (by omega)
  omega
theorem placeP_eq (seed : Int) (epoch i : Nat) : ofP 2 [seed, ((64 * epoch + i : Nat) : Int)] % ((i : Int) + 1) = (placeP seed epoch i : Int) := by
  unfold placeP
  have h := Int.emod_nonneg (ofP 2 [seed, ((64 * epoch + i : Nat) : Int)]) (b := (i : Int) + 1) (by omega)
  omega

/-- Numbers i and j change places. -/
def swapF (f : Nat → Int) (i j : Nat) : Nat → Int := fun x => if x = j then f i else if x = i then f j else f x
/-- The order behind k changes, from the last place on. -/
def shufTo (seed : Int) (epoch n : Nat) : Nat → Nat → Int
  | 0 => fun x => (x : Int)
  | k + 1 => swapF (shufTo seed epoch n k) (n - 1 - k) (placeP seed epoch (n - 1 - k))
theorem shufTo_step {seed : Int} {epoch n k i : Nat} (h : i + k + 1 = n) : swapF (shufTo seed epoch n k) i (placeP seed epoch i) = shufTo seed epoch n (k + 1) := by
  obtain rfl : i = n - 1 - k := by omega
  rfl
def shufF (seed : Int) (epoch n : Nat) : Nat → Int := shufTo seed epoch n (n - 1)
def shufP (seed : Int) (epoch n : Nat) : List Int := (List.range n).map (shufF seed epoch n)
theorem shufP_len (seed : Int) (epoch n : Nat) : (shufP seed epoch n).length = n := by unfold shufP; simp
theorem getD_range (g : Nat → Int) {n i : Nat} (h : i < n) : ((List.range n).map g).getD i 0 = g i := by
  simp [List.getD_eq_getElem?_getD, h]

/-- Number i of a batch that begins at s. -/
def batchG (seed : Int) (n s i : Nat) : Int := shufF seed ((s + i) / n) n ((s + i) % n)
def batchP (seed : Int) (size n s : Nat) : List Int := (List.range size).map (batchG seed n s)

theorem day_goes {n d r s k t : Nat} (ht : s + k = t) (hdm : n * d + r = t) (hrn : r < n) (hk : k ≠ 0) (hr : r ≠ 0) : (s + (k - 1)) / n = d := by
  rw [show s + (k - 1) = (r - 1) + n * d from by omega, Nat.add_mul_div_left _ _ (by omega), Nat.div_eq_of_lt (by omega), Nat.zero_add]

/-- Block b, of c cells, none of them frozen, holds first the n integers of f. -/
def Arr (w : World) (b c n : Nat) (f : Nat → Int) : Prop := n ≤ c ∧ ∃ F, w.rowIs b 3 c F ∧ ∀ i, i < n → F i = .int .i64 (f i)

namespace Arr
variable {w w' : World} {b c n : Nat} {f g : Nat → Int}
theorem cap (h : Arr w b c n f) : n ≤ c := h.1
theorem cell (h : Arr w b c n f) {i : Nat} (hi : i < n) : w.cell? ⟨b, i, none⟩ = some (.int .i64 (f i)) := by
  obtain ⟨hc, F, hr, hf⟩ := h
  rw [hr.cell (by omega), hf i hi]
theorem frozen (h : Arr w b c n f) (i : Nat) : w.frozen? ⟨b, i, none⟩ = false := by
  obtain ⟨hc, F, hr, hf⟩ := h
  exact hr.frozen i
theorem lt (h : Arr w b c n f) : b < w.heap.size := by
  obtain ⟨hc, F, hr, hf⟩ := h
  exact hr.lt
theorem congr (h : Arr w b c n f) (e : ∀ i, i < n → f i = g i) : Arr w b c n g := by
  obtain ⟨hc, F, hr, hf⟩ := h
  exact ⟨hc, F, hr, fun i hi => by rw [hf i hi, e i hi]⟩
theorem set (h : Arr w b c n f) (i : Nat) (x : Int) : Arr (w.setCell ⟨b, i, none⟩ (.int .i64 x)) b c n (fun j => if j = i then x else f j) := by
  obtain ⟨hc, F, hr, hf⟩ := h
  refine ⟨hc, _, hr.set i _, fun j hj => ?_⟩
  by_cases e : j = i
  · simp [e]
  · simp [e, hf j hj]
theorem swap (h : Arr w b c n f) (i j : Nat) (x y : Int) (hx : f j = x) (hy : f i = y) : Arr ((w.setCell ⟨b, i, none⟩ (.int .i64 x)).setCell ⟨b, j, none⟩ (.int .i64 y)) b c n (swapF f i j) := by
  refine ((h.set i x).set j y).congr (fun k _ => ?_)
  unfold swapF
  rw [hx, hy]
theorem below (h : Arr w b c n f) (hb : Below w.heap.size w w') : Arr w' b c n f := by
  have hlt := h.lt
  obtain ⟨hc, F, hr, hf⟩ := h
  exact ⟨hc, F, hr.of_block (hb.block _ hlt), hf⟩
theorem belowAt {B : Nat} (h : Arr w b c n f) (hb : Below B w w') (hB : b < B) : Arr w' b c n f := by
  obtain ⟨hc, F, hr, hf⟩ := h
  exact ⟨hc, F, hr.of_block (hb.block _ hB), hf⟩
theorem drewN (h : Arr w b c n f) (k : Nat) : Arr (w.drewN k) b c n f := h
theorem drew (h : Arr w b c n f) : Arr w.drew b c n f := h
theorem alloc (h : Arr w b c n f) (o : Obj) : Arr (w.alloc o) b c n f := by
  obtain ⟨hc, F, hr, hf⟩ := h
  exact ⟨hc, F, hr.alloc o, hf⟩
theorem setOther (h : Arr w b c n f) {a : Addr} (ha : b ≠ a.block) (v : Value) : Arr (w.setCell a v) b c n f := by
  obtain ⟨hc, F, hr, hf⟩ := h
  exact ⟨hc, F, hr.setOther ha v, hf⟩
theorem lst (h : Arr w b c n f) : Lst w (some ⟨b, 0, none⟩) n c ((List.range n).map f) :=
  ⟨by simp, h.cap, .inr ⟨b, 0, rfl, h.lt, fun i hi => by rw [Nat.zero_add, h.cell hi, getD_range f hi]⟩⟩
theorem row (h : w.rowIs b 3 n (rowTo f n)) : Arr w b n n f := ⟨Nat.le_refl _, _, h, fun i hi => by unfold rowTo; rw [if_pos hi]⟩
end Arr

/-- A list that was made by append, with one number at least, is such a block. -/
theorem OwnI.arr {base : Nat} {w : World} {v : Value} {n : Nat} {f : Nat → Int} (h : OwnI base w v ((List.range n).map f)) (h1 : 1 ≤ n) :
    ∃ b c, v = .slice (some ⟨b, 0, none⟩) n c ∧ base ≤ b ∧ Arr w b c n f := by
  obtain ⟨hl, h2⟩ := h
  rcases h2 with ⟨_, hn⟩ | ⟨g, cap, cur, rfl, hg, hh, hle, _, hsz, hcur⟩
  · simp at hn; omega
  · simp only [List.length_map, List.length_range, Nat.mul_one] at hle hcur hsz ⊢
    refine ⟨g, cap, rfl, hg, hle, fun i => cur[i]?.getD default, ⟨cur, hh, hsz, fun i hi => ?_⟩, fun i hi => ?_⟩
    · show cur[i]? = some (cur[i]?.getD default)
      rw [Array.getElem?_eq_getElem (by omega)]; rfl
    · have h3 : (((List.range n).map f).map (Value.int .i64))[i]? = some (.int .i64 (f i)) := by simp [hi]
      rw [← hcur, List.getElem?_take_of_lt hi, Array.getElem?_toList] at h3
      show cur[i]?.getD default = _
      rw [h3]; rfl

end Go.Proofs.Ytfkalnehomgccaa.Fx
