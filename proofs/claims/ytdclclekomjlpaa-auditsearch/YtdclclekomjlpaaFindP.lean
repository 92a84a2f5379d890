/- Where two journals part, asked by halves, in plain numbers; no function of the program is spoken of. -/
import Derived.Test.YtdclclekomjlpaaRecsD
namespace Go.Proofs.Ytdclclekomjlpaa.Fx
open Go.RowKit

/-- From low and place on: which one is found, and how often it was asked. -/
def findG (f : Int → Bool) : Nat → Int → Int → Int → Int × Int
  | 0, _, place, asks => (place, asks)
  | m + 1, low, place, asks => if 1 < place - low then (if f (low + (place - low) / 2) = true then findG f m (low + (place - low) / 2) place (asks + 1) else findG f m low (low + (place - low) / 2) (asks + 1)) else (place, asks)
theorem findG_stop (f : Int → Bool) (m : Nat) {low place : Int} (asks : Int) (h : ¬ 1 < place - low) : findG f m low place asks = (place, asks) := by
  cases m with
  | zero => rfl
  | succ m => unfold findG; rw [if_neg h]
theorem findG_yes (f : Int → Bool) (m : Nat) {low place : Int} (asks : Int) (h : 1 < place - low) (hf : f (low + (place - low) / 2) = true) : findG f (m + 1) low place asks = findG f m (low + (place - low) / 2) place (asks + 1) := by
  rw [findG, if_pos h, if_pos hf]
theorem findG_no (f : Int → Bool) (m : Nat) {low place : Int} (asks : Int) (h : 1 < place - low) (hf : f (low + (place - low) / 2) = false) : findG f (m + 1) low place asks = findG f m low (low + (place - low) / 2) (asks + 1) := by
  rw [findG, if_pos h, if_neg (by rw [hf]; decide)]
/-- Are the chains the same at a place? -/
def sameAt (X Y : Nat → Rcm) (i : Int) : Bool := decide ((X i.toNat).chain = (Y i.toNat).chain)
def findP (X Y : Nat → Rcm) (n : Nat) : Int × Int := if sameAt X Y ((n : Int) - 1) = true then ((n : Int), 1) else findG (sameAt X Y) n (-1) ((n : Int) - 1) 1
def fdE (n m : Nat) : Int := if m = n ∧ n ≠ 0 ∧ n ≤ 40 then 0 else 5
def fdX (X Y : Nat → Rcm) (n m : Nat) : Int := if m = n ∧ n ≠ 0 ∧ n ≤ 40 then (findP X Y n).1 else 0
def fdY (X Y : Nat → Rcm) (n m : Nat) : Int := if m = n ∧ n ≠ 0 ∧ n ≤ 40 then (findP X Y n).2 else 0
theorem ret_boolF {a b : Bool} (h : a = b) : Ending.returned (.bool a) = .returned (.bool b) := by rw [h]
/-- Where the search stands. -/
structure FindAt (X Y : Nat → Rcm) (n : Nat) (low place asks : Int) : Prop where
  lo : -1 ≤ low
  lt : low < place
  hi : place ≤ (n : Int) - 1
  go : ∃ m : Nat, place - low ≤ (m : Int) + 1 ∧ findG (sameAt X Y) m low place asks = findG (sameAt X Y) n (-1) ((n : Int) - 1) 1
  few : asks ≤ 1000 - (place - low)
  pos : 1 ≤ asks
theorem FindAt.start (X Y : Nat → Rcm) {n : Nat} (h1 : 1 ≤ n) (h2 : n ≤ 40) : FindAt X Y n (-1) ((n : Int) - 1) 1 := ⟨by omega, by omega, by omega, ⟨n, by omega, rfl⟩, by omega, by omega⟩
theorem FindAt.yes {X Y : Nat → Rcm} {n : Nat} {low place asks : Int} (h : FindAt X Y n low place asks) (hd : 1 < place - low) (hf : sameAt X Y (low + (place - low) / 2) = true) : FindAt X Y n (low + (place - low) / 2) place (asks + 1) := by
  obtain ⟨m, hm, e⟩ := h.go
  have := h.lo
  have := h.hi
  have := h.few
  have := h.pos
  cases m with
  | zero => omega
  | succ m =>
    rw [findG_yes _ _ _ hd hf] at e
    exact ⟨by omega, by omega, h.hi, ⟨m, by omega, e⟩, by omega, by omega⟩
theorem FindAt.no {X Y : Nat → Rcm} {n : Nat} {low place asks : Int} (h : FindAt X Y n low place asks) (hd : 1 < place - low) (hf : sameAt X Y (low + (place - low) / 2) = false) : FindAt X Y n low (low + (place - low) / 2) (asks + 1) := by
  obtain ⟨m, hm, e⟩ := h.go
  have := h.lo
  have := h.hi
  have := h.few
  have := h.pos
  cases m with
  | zero => omega
  | succ m =>
    rw [findG_no _ _ _ hd hf] at e
    exact ⟨h.lo, by omega, by omega, ⟨m, by omega, e⟩, by omega, by omega⟩
theorem FindAt.stop {X Y : Nat → Rcm} {n : Nat} {low place asks : Int} (h : FindAt X Y n low place asks) (hd : ¬ 1 < place - low) : findG (sameAt X Y) n (-1) ((n : Int) - 1) 1 = (place, asks) := by
  obtain ⟨m, _, e⟩ := h.go
  rw [← e]
  exact findG_stop _ _ _ hd
end Go.Proofs.Ytdclclekomjlpaa.Fx
