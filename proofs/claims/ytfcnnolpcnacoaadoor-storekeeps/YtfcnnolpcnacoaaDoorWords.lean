/- Lists of words (unsigned integers of 64 bits) as they lie in memory: what a slice reads as, in whatever world that holds its cells; no program is spoken of. -/
import Derived.Test.YtfcnnolpcnacoaaDoorLists
namespace Go.Proofs.YtfcnnolpcnacoaaDoor.Fx
open Go.RowKit

def LstW (w : World) (a : Option Addr) (len cap : Nat) (xs : List Int) : Prop :=
  xs.length = len ∧ len ≤ cap ∧ (len = 0 ∨ ∃ b off, a = some ⟨b, off, none⟩ ∧ b < w.heap.size ∧ ∀ i, i < len → w.cell? ⟨b, off + i, none⟩ = some (.int .u64 (xs.getD i 0)))
theorem LstW.len {w : World} {a : Option Addr} {n c : Nat} {xs : List Int} (h : LstW w a n c xs) : xs.length = n := h.1
theorem LstW.cap {w : World} {a : Option Addr} {n c : Nat} {xs : List Int} (h : LstW w a n c xs) : n ≤ c := h.2.1
theorem LstW.at {w : World} {a : Option Addr} {n c : Nat} {xs : List Int} (h : LstW w a n c xs) (hn : 0 < n) :
    ∃ b off, a = some ⟨b, off, none⟩ ∧ b < w.heap.size ∧ ∀ i, i < n → w.cell? ⟨b, off + i, none⟩ = some (.int .u64 (xs.getD i 0)) := by
  rcases h.2.2 with h0 | h0
  · omega
  · exact h0
theorem LstW.at1 {w : World} {a : Option Addr} {n c : Nat} {xs : List Int} (h : LstW w a n c xs) {k : Nat} (hk : k < n) :
    ∃ b off x, a = some ⟨b, off, none⟩ ∧ b < w.heap.size ∧ w.cell? ⟨b, off + k, none⟩ = some (.int .u64 x) ∧ Hid (xs.getD k 0 = x) := by
  obtain ⟨b, off, e, hs, hc⟩ := h.at (by omega)
  exact ⟨b, off, _, e, hs, hc k hk, rfl⟩
theorem LstW.nil (w : World) (a : Option Addr) (c : Nat) : LstW w a 0 c [] := ⟨rfl, Nat.zero_le _, .inl rfl⟩
theorem LstW.below {w w' : World} {a : Option Addr} {n c : Nat} {xs : List Int} {B : Nat} (h : LstW w a n c xs) (hb : Below B w w') (hB : w.heap.size ≤ B) : LstW w' a n c xs := by
  refine ⟨h.1, h.2.1, ?_⟩
  rcases h.2.2 with h0 | ⟨b, off, e, hs, hc⟩
  · exact .inl h0
  · exact .inr ⟨b, off, e, Nat.lt_of_lt_of_le hs hb.size, fun i hi => (hb.cell (p := ⟨b, off + i, none⟩) (Nat.lt_of_lt_of_le hs hB)).trans (hc i hi)⟩
theorem LstW.drewN {w : World} {a : Option Addr} {n c : Nat} {xs : List Int} (h : LstW w a n c xs) (k : Nat) : LstW (w.drewN k) a n c xs := by
  refine ⟨h.1, h.2.1, ?_⟩
  rcases h.2.2 with h0 | ⟨b, off, e, hs, hc⟩
  · exact .inl h0
  · exact .inr ⟨b, off, e, by simpa using hs, fun i hi => by simpa using hc i hi⟩
theorem LstW.row {w : World} {b t n : Nat} {f : Nat → Value} {xs : List Int} (h : w.rowIs b t n f) (hl : xs.length = n) (hf : ∀ i, i < n → f i = .int .u64 (xs.getD i 0)) : LstW w (some ⟨b, 0, none⟩) n n xs :=
  ⟨hl, Nat.le_refl _, .inr ⟨b, 0, rfl, h.lt, fun i hi => by rw [Nat.zero_add, h.cell hi, hf i hi]⟩⟩
theorem getD_map_word (xs : List Int) (i : Nat) (hi : i < xs.length) : (xs.map (Value.int .u64))[i]? = some (.int .u64 (xs.getD i 0)) := by
  simp [hi]
theorem LstW.owned {w : World} {base e n : Nat} {v : Value} {xs : List Int} (h : w.ownsRow base e 1 v n (xs.map (Value.int .u64))) :
    ∃ a c, v = .slice a n c ∧ LstW w a n c xs := by
  obtain ⟨hl, h2⟩ := h
  rw [List.length_map, Nat.mul_one] at hl
  rcases h2 with ⟨rfl, rfl⟩ | ⟨g, cap, cur, rfl, _, hh, hle, _, hsz, hcur⟩
  · rw [List.length_eq_zero_iff] at hl
    subst hl
    exact ⟨none, 0, rfl, LstW.nil _ _ _⟩
  · refine ⟨_, cap, rfl, hl, hle, .inr ⟨g, 0, rfl, (Array.getElem?_eq_some_iff.1 hh).1, fun i hi => ?_⟩⟩
    have h3 := getD_map_word xs i (by omega)
    rw [← hcur, Nat.mul_one] at h3
    simp only [World.cell?, hh, Nat.zero_add]
    rw [List.getElem?_take_of_lt hi] at h3
    simpa using h3
theorem LstW.sub {w : World} {b off n c : Nat} {xs : List Int} (h : LstW w (some ⟨b, off, none⟩) n c xs) (hn : 0 < n) (lo hi : Nat) (h1 : lo ≤ hi) (h2 : hi ≤ n) :
    LstW w (some ⟨b, off + lo, none⟩) (hi - lo) (c - lo) ((xs.drop lo).take (hi - lo)) := by
  obtain ⟨b', off', e, hs, hc⟩ := h.at hn
  have := h.len
  have := h.cap
  simp only [Option.some.injEq, Addr.mk.injEq, and_true] at e
  obtain ⟨rfl, rfl⟩ := e
  refine ⟨by simp; omega, by omega, .inr ⟨b, off + lo, rfl, hs, fun i hi' => ?_⟩⟩
  rw [Nat.add_assoc, hc (lo + i) (by omega)]
  have e : ((xs.drop lo).take (hi - lo)).getD i 0 = xs.getD (lo + i) 0 := by
    rw [List.getD_eq_getElem?_getD, List.getElem?_take_of_lt hi', List.getElem?_drop, ← List.getD_eq_getElem?_getD]
  rw [e]
theorem LstW.at1b {w wr : World} {a : Option Addr} {n c : Nat} {xs : List Int} {B : Nat} (h : LstW w a n c xs) (hb : Below B w wr) (hB : w.heap.size ≤ B) {k : Nat} (hk : k < n) :
    ∃ b off x, a = some ⟨b, off, none⟩ ∧ b < w.heap.size ∧ wr.cell? ⟨b, off + k, none⟩ = some (.int .u64 x) ∧ Hid (xs.getD k 0 = x) := by
  obtain ⟨b, off, x, e, hs, hc, hx⟩ := h.at1 hk
  exact ⟨b, off, x, e, hs, (hb.cell (p := ⟨b, off + k, none⟩) (Nat.lt_of_lt_of_le hs hB)).trans hc, hx⟩
theorem LstW.came {w : World} {x : Addr} {len cap : Nat} {zs : List Int} (hl : len ≤ cap) (hz : zs.length = cap) (hc : ∀ i, i < zs.length → w.cell? (x.add i) = some (.int .u64 (zs.getD i 0))) : LstW w (some x) len cap (zs.take len) := by
  refine ⟨by simp; omega, hl, ?_⟩
  by_cases h0 : len = 0
  · exact .inl h0
  · obtain ⟨b, off, spot⟩ := x
    have hspot : spot = none := by simpa [Addr.add] using World.cell?_spot (hc 0 (by omega))
    subst hspot
    refine .inr ⟨b, off, rfl, ?_, fun i hi => ?_⟩
    · have := cell_lt (hc 0 (by omega)); simpa [Addr.add] using this
    · have h := hc i (by omega)
      rw [Go.WideShapes.add_plain] at h
      rw [h]
      simp [List.getD_eq_getElem?_getD, List.getElem?_take_of_lt hi]
def rowToW (g : Nat → Int) (k i : Nat) : Value := if i < k then .int .u64 (g i) else .int .u64 0
theorem rowToW_step {w : World} {b t n k : Nat} {g : Nat → Int} (h : w.rowIs b t n (rowToW g k)) : (w.setCell ⟨b, k, none⟩ (.int .u64 (g k))).rowIs b t n (rowToW g (k + 1)) := by
  refine (h.set k (.int .u64 (g k))).congr (fun i _ => ?_)
  unfold rowToW
  by_cases e : i = k
  · subst e; rw [if_pos rfl, if_pos (by omega)]
  · rw [if_neg e]
    by_cases e2 : i < k
    · rw [if_pos e2, if_pos (by omega)]
    · rw [if_neg e2, if_neg (by omega)]
theorem rowToW_made {w : World} {b t n : Nat} {g : Nat → Int} (h : w.rowIs b t n (fun _ => .int .u64 0)) : w.rowIs b t n (rowToW g 0) :=
  h.congr (fun i _ => by unfold rowToW; rw [if_neg (by omega)])
theorem rowToW_lst {w : World} {b t n : Nat} {g : Nat → Int} (h : w.rowIs b t n (rowToW g n)) : LstW w (some ⟨b, 0, none⟩) n n ((List.range n).map g) :=
  LstW.row h (by simp) (fun i hi => by unfold rowToW; rw [if_pos hi]; simp [hi])
theorem rowToW_cell {w : World} {b t n k : Nat} {g : Nat → Int} (h : w.rowIs b t n (rowToW g k)) (hk : k < n) : w.cell? ⟨b, k, none⟩ = some (.int .u64 0) := by
  rw [h.cell hk]; unfold rowToW; rw [if_neg (by omega)]

end Go.Proofs.YtfcnnolpcnacoaaDoor.Fx
