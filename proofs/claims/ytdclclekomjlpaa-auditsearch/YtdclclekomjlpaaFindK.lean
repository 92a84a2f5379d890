/- What is known of the place where two journals part, and of how often it was asked; no function of the program is spoken of. -/
import Derived.Test.YtdclclekomjlpaaFindP
namespace Go.Proofs.Ytdclclekomjlpaa.Fx
open Go.RowKit

theorem two_pow_half {d : Int} {p : Nat} (h : d ≤ ((2 ^ p : Nat) : Int)) (h1 : 1 < d) : ∃ q, p = q + 1 ∧ d / 2 ≤ ((2 ^ q : Nat) : Int) ∧ d - d / 2 ≤ ((2 ^ q : Nat) : Int) := by
  cases p with
  | zero => simp at h; omega
  | succ q =>
    have e : (2 ^ (q + 1) : Nat) = 2 ^ q * 2 := Nat.pow_succ 2 q
    exact ⟨q, rfl, by omega, by omega⟩
theorem findG_good (f : Int → Bool) : ∀ (m : Nat) (low place asks : Int) (p : Nat), -1 ≤ low → low < place → place - low ≤ (m : Int) + 1 → place - low ≤ ((2 ^ p : Nat) : Int) → (low = -1 ∨ f low = true) → f place = false →
    low < (findG f m low place asks).1 ∧ (findG f m low place asks).1 ≤ place ∧ f (findG f m low place asks).1 = false ∧ ((findG f m low place asks).1 = 0 ∨ f ((findG f m low place asks).1 - 1) = true) ∧ (findG f m low place asks).2 ≤ asks + (p : Int) ∧ asks ≤ (findG f m low place asks).2
  | 0, low, place, asks, p, h1, h2, h3, _, h5, h6 => by
    have e : low = place - 1 := by omega
    refine ⟨h2, Int.le_refl _, h6, ?_, by show asks ≤ asks + (p : Int); omega, Int.le_refl _⟩
    show place = 0 ∨ f (place - 1) = true
    rcases h5 with h | h
    · exact .inl (by omega)
    · exact .inr (by rw [← e]; exact h)
  | m + 1, low, place, asks, p, h1, h2, h3, h4, h5, h6 => by
    by_cases hd : 1 < place - low
    · obtain ⟨q, rfl, g1, g2⟩ := two_pow_half h4 hd
      cases hf : f (low + (place - low) / 2) with
      | true =>
        rw [findG_yes f m asks hd hf]
        obtain ⟨k1, k2, k3, k4, k5, k6⟩ := findG_good f m (low + (place - low) / 2) place (asks + 1) q (by omega) (by omega) (by omega) (by omega) (.inr hf) h6
        exact ⟨by omega, k2, k3, k4, by omega, by omega⟩
      | false =>
        rw [findG_no f m asks hd hf]
        obtain ⟨k1, k2, k3, k4, k5, k6⟩ := findG_good f m low (low + (place - low) / 2) (asks + 1) q h1 (by omega) (by omega) (by omega) h5 hf
        exact ⟨k1, by omega, k3, k4, by omega, by omega⟩
    · rw [findG_stop f (m + 1) asks hd]
      have e : low = place - 1 := by omega
      refine ⟨h2, Int.le_refl _, h6, ?_, by show asks ≤ asks + (p : Int); omega, Int.le_refl _⟩
      show place = 0 ∨ f (place - 1) = true
      rcases h5 with h | h
      · exact .inl (by omega)
      · exact .inr (by rw [← e]; exact h)
/-- Where it is found that two journals part, they part, and just ahead they didn't; and it isn't asked often. -/
theorem findP_good (X Y : Nat → Rcm) {n p : Nat} (h1 : 1 ≤ n) (hp : n ≤ 2 ^ p) :
    (((findP X Y n).1 = (n : Int) ∧ sameAt X Y ((n : Int) - 1) = true) ∨ (0 ≤ (findP X Y n).1 ∧ (findP X Y n).1 < (n : Int) ∧ sameAt X Y (findP X Y n).1 = false ∧ ((findP X Y n).1 = 0 ∨ sameAt X Y ((findP X Y n).1 - 1) = true))) ∧ 1 ≤ (findP X Y n).2 ∧ (findP X Y n).2 ≤ 1 + (p : Int) := by
  unfold findP
  cases hs : sameAt X Y ((n : Int) - 1) with
  | true =>
    rw [if_pos rfl]
    exact ⟨.inl ⟨rfl, rfl⟩, Int.le_refl _, by show (1 : Int) ≤ 1 + (p : Int); omega⟩
  | false =>
    rw [if_neg (by decide)]
    obtain ⟨k1, k2, k3, k4, k5, k6⟩ := findG_good (sameAt X Y) n (-1) ((n : Int) - 1) 1 p (by omega) (by omega) (by omega) (by omega) (.inl rfl) hs
    exact ⟨.inr ⟨by omega, by omega, k3, k4⟩, k6, k5⟩
end Go.Proofs.Ytdclclekomjlpaa.Fx
