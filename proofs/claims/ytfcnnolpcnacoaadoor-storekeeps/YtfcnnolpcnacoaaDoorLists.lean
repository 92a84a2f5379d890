/- Lists of integers as they lie in memory: what a slice reads as, in whatever world that holds its cells; no program is spoken of. -/
import Derived.WalkKit
import Derived.Deep.OwnRows
import Derived.Deep.Draws
import Derived.Test.YtfcnnolpcnacoaaDoorFix
namespace Go.Proofs.YtfcnnolpcnacoaaDoor.Fx
open Go.RowKit

/-- The slice of that address, length and capacity reads as the integers xs. -/
def Lst (w : World) (a : Option Addr) (len cap : Nat) (xs : List Int) : Prop :=
  xs.length = len ∧ len ≤ cap ∧ (len = 0 ∨ ∃ b off, a = some ⟨b, off, none⟩ ∧ b < w.heap.size ∧ ∀ i, i < len → w.cell? ⟨b, off + i, none⟩ = some (.int .i64 (xs.getD i 0)))

theorem Lst.len {w : World} {a : Option Addr} {n c : Nat} {xs : List Int} (h : Lst w a n c xs) : xs.length = n := h.1
theorem Lst.cap {w : World} {a : Option Addr} {n c : Nat} {xs : List Int} (h : Lst w a n c xs) : n ≤ c := h.2.1
theorem Lst.at {w : World} {a : Option Addr} {n c : Nat} {xs : List Int} (h : Lst w a n c xs) (hn : 0 < n) :
    ∃ b off, a = some ⟨b, off, none⟩ ∧ b < w.heap.size ∧ ∀ i, i < n → w.cell? ⟨b, off + i, none⟩ = some (.int .i64 (xs.getD i 0)) := by
  rcases h.2.2 with h0 | h0
  · omega
  · exact h0
theorem Lst.at1 {w : World} {a : Option Addr} {n c : Nat} {xs : List Int} (h : Lst w a n c xs) {k : Nat} (hk : k < n) :
    ∃ b off x, a = some ⟨b, off, none⟩ ∧ b < w.heap.size ∧ w.cell? ⟨b, off + k, none⟩ = some (.int .i64 x) ∧ Hid (xs.getD k 0 = x) := by
  obtain ⟨b, off, e, hs, hc⟩ := h.at (by omega)
  exact ⟨b, off, _, e, hs, hc k hk, rfl⟩
theorem Lst.nil (w : World) (a : Option Addr) (c : Nat) : Lst w a 0 c [] := ⟨rfl, Nat.zero_le _, .inl rfl⟩
theorem Lst.below {w w' : World} {a : Option Addr} {n c : Nat} {xs : List Int} {B : Nat} (h : Lst w a n c xs) (hb : Below B w w') (hB : w.heap.size ≤ B) : Lst w' a n c xs := by
  refine ⟨h.1, h.2.1, ?_⟩
  rcases h.2.2 with h0 | ⟨b, off, e, hs, hc⟩
  · exact .inl h0
  · exact .inr ⟨b, off, e, Nat.lt_of_lt_of_le hs hb.size, fun i hi => (hb.cell (p := ⟨b, off + i, none⟩) (Nat.lt_of_lt_of_le hs hB)).trans (hc i hi)⟩
theorem Lst.drewN {w : World} {a : Option Addr} {n c : Nat} {xs : List Int} (h : Lst w a n c xs) (k : Nat) : Lst (w.drewN k) a n c xs := by
  refine ⟨h.1, h.2.1, ?_⟩
  rcases h.2.2 with h0 | ⟨b, off, e, hs, hc⟩
  · exact .inl h0
  · exact .inr ⟨b, off, e, by simpa using hs, fun i hi => by simpa using hc i hi⟩
theorem Lst.drew {w : World} {a : Option Addr} {n c : Nat} {xs : List Int} (h : Lst w a n c xs) : Lst w.drew a n c xs := h.drewN 1
theorem Lst.row {w : World} {b t n : Nat} {f : Nat → Value} {xs : List Int} (h : w.rowIs b t n f) (hl : xs.length = n) (hf : ∀ i, i < n → f i = .int .i64 (xs.getD i 0)) : Lst w (some ⟨b, 0, none⟩) n n xs :=
  ⟨hl, Nat.le_refl _, .inr ⟨b, 0, rfl, h.lt, fun i hi => by rw [Nat.zero_add, h.cell hi, hf i hi]⟩⟩

theorem getD_map_int (xs : List Int) (i : Nat) (hi : i < xs.length) : (xs.map (Value.int .i64))[i]? = some (.int .i64 (xs.getD i 0)) := by
  simp [hi]

theorem Lst.owned {w : World} {base e n : Nat} {v : Value} {xs : List Int} (h : w.ownsRow base e 1 v n (xs.map (Value.int .i64))) :
    ∃ a c, v = .slice a n c ∧ Lst w a n c xs := by
  obtain ⟨hl, h2⟩ := h
  rw [List.length_map, Nat.mul_one] at hl
  rcases h2 with ⟨rfl, rfl⟩ | ⟨g, cap, cur, rfl, _, hh, hle, _, hsz, hcur⟩
  · rw [List.length_eq_zero_iff] at hl
    subst hl
    exact ⟨none, 0, rfl, Lst.nil _ _ _⟩
  · refine ⟨_, cap, rfl, hl, hle, .inr ⟨g, 0, rfl, (Array.getElem?_eq_some_iff.1 hh).1, fun i hi => ?_⟩⟩
    have h3 := getD_map_int xs i (by omega)
    rw [← hcur, Nat.mul_one] at h3
    simp only [World.cell?, hh, Nat.zero_add]
    rw [List.getElem?_take_of_lt hi] at h3
    simpa using h3

theorem Lst.sub {w : World} {b off n c : Nat} {xs : List Int} (h : Lst w (some ⟨b, off, none⟩) n c xs) (hn : 0 < n) (lo hi : Nat) (h1 : lo ≤ hi) (h2 : hi ≤ n) :
    Lst w (some ⟨b, off + lo, none⟩) (hi - lo) (c - lo) ((xs.drop lo).take (hi - lo)) := by
  obtain ⟨b', off', e, hs, hc⟩ := h.at hn
  have := h.len
  have := h.cap
  simp only [Option.some.injEq, Addr.mk.injEq, and_true] at e
  obtain ⟨rfl, rfl⟩ := e
  refine ⟨by simp; omega, by omega, .inr ⟨b, off + lo, rfl, hs, fun i hi' => ?_⟩⟩
  rw [Nat.add_assoc, hc (lo + i) (by omega)]
  have e : ((xs.drop lo).take (hi - lo)).getD i 0 = xs.getD (lo + i) 0 := by
    rw [List.getD_eq_getElem?_getD, List.getElem?_take_of_lt hi', List.getElem?_drop, ← List.getD_eq_getElem?_getD]
  rw [e]

theorem bcell {B : Nat} {W w1 : World} (hb : Below B W w1) : (∀ b o, b < B → w1.cell? ⟨b, o, none⟩ = W.cell? ⟨b, o, none⟩) ∧ (∀ b o, b < B → w1.frozen? ⟨b, o, none⟩ = W.frozen? ⟨b, o, none⟩) :=
  ⟨fun b o h => hb.cell (p := ⟨b, o, none⟩) h, fun b o h => hb.frozen (p := ⟨b, o, none⟩) h⟩
theorem below_drewN {B : Nat} {W w1 : World} (hb : Below B W w1) (n : Nat) : Below B W (w1.drewN n) := ⟨hb.os, hb.tape, hb.output, hb.size, hb.block⟩
theorem Lst.at1b {w wr : World} {a : Option Addr} {n c : Nat} {xs : List Int} {B : Nat} (h : Lst w a n c xs) (hb : Below B w wr) (hB : w.heap.size ≤ B) {k : Nat} (hk : k < n) :
    ∃ b off x, a = some ⟨b, off, none⟩ ∧ b < w.heap.size ∧ wr.cell? ⟨b, off + k, none⟩ = some (.int .i64 x) ∧ Hid (xs.getD k 0 = x) := by
  obtain ⟨b, off, x, e, hs, hc, hx⟩ := h.at1 hk
  exact ⟨b, off, x, e, hs, (hb.cell (p := ⟨b, off + k, none⟩) (Nat.lt_of_lt_of_le hs hB)).trans hc, hx⟩
theorem cell_new (w : World) (v : Value) (t : TypeId) : (w.alloc (.cells #[v] t)).cell? ⟨w.heap.size, 0, none⟩ = some v :=
  (World.rowIs_alloc w #[v] t (fun _ => v) (by intro i hi; obtain rfl : i = 0 := by simpa using hi
                                               rfl)).cell (i := 0) (by simp)
/-- The three cells of a struct that was laid, in whatever world that left them. -/
theorem box3 {w wr : World} {B : Nat} (v0 v1 v2 : Value) (t : TypeId) (hb : Below B (w.alloc (.cells #[v0, v1, v2] t)) wr) (hB : w.heap.size < B) :
    wr.cell? ⟨w.heap.size, 0, none⟩ = some v0 ∧ wr.cell? ⟨w.heap.size, 1, none⟩ = some v1 ∧ wr.cell? ⟨w.heap.size, 2, none⟩ = some v2 := by
  have h := World.rowIs_alloc w #[v0, v1, v2] t (fun i => if i = 0 then v0 else if i = 1 then v1 else v2) (by
    intro i hi
    rcases (show i = 0 ∨ i = 1 ∨ i = 2 from by have : i < 3 := hi
                                               omega) with rfl | rfl | rfl <;> rfl)
  refine ⟨?_, ?_, ?_⟩
  · exact (hb.cell (p := ⟨w.heap.size, 0, none⟩) hB).trans (h.cell (i := 0) (by simp))
  · exact (hb.cell (p := ⟨w.heap.size, 1, none⟩) hB).trans (h.cell (i := 1) (by simp))
  · exact (hb.cell (p := ⟨w.heap.size, 2, none⟩) hB).trans (h.cell (i := 2) (by simp))
theorem cell_lt {w : World} {a : Addr} {v : Value} (h : w.cell? a = some v) : a.block < w.heap.size := by
  rcases Nat.lt_or_ge a.block w.heap.size with h' | h'
  · exact h'
  · simp [World.cell?, Array.getElem?_eq_none h'] at h
/-- Of the numbers up to the capacity the first are the list. -/
theorem Lst.came {w : World} {x : Addr} {len cap : Nat} {zs : List Int} (hl : len ≤ cap) (hz : zs.length = cap) (hc : ∀ i, i < zs.length → w.cell? (x.add i) = some (.int .i64 (zs.getD i 0))) : Lst w (some x) len cap (zs.take len) := by
  refine ⟨by simp; omega, hl, ?_⟩
  by_cases h0 : len = 0
  · exact .inl h0
  · obtain ⟨b, off, spot⟩ := x
    have hspot : spot = none := by simpa [Addr.add] using World.cell?_spot (hc 0 (by omega))
    subst hspot
    refine .inr ⟨b, off, rfl, ?_, fun i hi => ?_⟩
    · have := cell_lt (hc 0 (by omega)); simpa [Addr.add] using this
    · have h := hc i (by omega)
      rw [Go.WideShapes.add_plain] at h
      rw [h]
      simp [List.getD_eq_getElem?_getD, List.getElem?_take_of_lt hi]

theorem wrap_in (x : Int) (h1 : -9223372036854775808 ≤ x) (h2 : x ≤ 9223372036854775807) : IntKind.i64.wrap x = x := by
  rw [IntKind.wrap_i64]; omega

/-! The products of two lists, added one by one from the first on. -/
def dotTo (xs ys : List Int) : Nat → Int
  | 0 => 0
  | k + 1 => addI (dotTo xs ys k) (mulI (xs.getD k 0) (ys.getD k 0))

/-! A row that is written from its head on: the first k of its numbers are g's. -/
def rowTo (g : Nat → Int) (k i : Nat) : Value := if i < k then .int .i64 (g i) else .int .i64 0
theorem rowTo_step {w : World} {b t n k : Nat} {g : Nat → Int} (h : w.rowIs b t n (rowTo g k)) : (w.setCell ⟨b, k, none⟩ (.int .i64 (g k))).rowIs b t n (rowTo g (k + 1)) := by
  refine (h.set k (.int .i64 (g k))).congr (fun i _ => ?_)
  unfold rowTo
  by_cases e : i = k
  · subst e; rw [if_pos rfl, if_pos (by omega)]
  · rw [if_neg e]
    by_cases e2 : i < k
    · rw [if_pos e2, if_pos (by omega)]
    · rw [if_neg e2, if_neg (by omega)]
theorem rowTo_made {w : World} {b t n : Nat} {g : Nat → Int} (h : w.rowIs b t n (fun _ => .int .i64 0)) : w.rowIs b t n (rowTo g 0) :=
  h.congr (fun i _ => by unfold rowTo; rw [if_neg (by omega)])
theorem rowTo_lst {w : World} {b t n : Nat} {g : Nat → Int} (h : w.rowIs b t n (rowTo g n)) : Lst w (some ⟨b, 0, none⟩) n n ((List.range n).map g) :=
  Lst.row h (by simp) (fun i hi => by unfold rowTo; rw [if_pos hi]; simp [hi])
theorem rowTo_cell {w : World} {b t n k : Nat} {g : Nat → Int} (h : w.rowIs b t n (rowTo g k)) (hk : k < n) : w.cell? ⟨b, k, none⟩ = some (.int .i64 0) := by
  rw [h.cell hk]; unfold rowTo; rw [if_neg (by omega)]
theorem rowIs_drewN {w : World} {b t n : Nat} {f : Nat → Value} (h : w.rowIs b t n f) (k : Nat) : (w.drewN k).rowIs b t n f := h

end Go.Proofs.YtfcnnolpcnacoaaDoor.Fx
