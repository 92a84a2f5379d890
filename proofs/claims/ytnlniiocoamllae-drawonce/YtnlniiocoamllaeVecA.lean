/- What the small functions of package vec return (tooLong, checkTwo, dot, Dot), and slices.Equal over integers: whatever lists lie there. -/
import Derived.Test.YtnlniiocoamllaeFixWalks
import Derived.Test.YtnlniiocoamllaeLists
namespace Go.Proofs.Ytnlniiocoamllae.Fx
open Go.RowKit

/-- What two lists that should go together are told: too long, not as long, or nothing. -/
def twoI (la lb : Nat) : Int := if 200 < la ∨ 200 < lb then 2 else if la = lb then 0 else 5
def longB (L : Nat → Nat) (n : Nat) : Bool := (List.range n).any fun i => decide (200 < L i)
theorem longB_true {L : Nat → Nat} {n k : Nat} (hk : k < n) (h : 200 < L k) : longB L n = true := by
  unfold longB; rw [List.any_eq_true]; exact ⟨k, List.mem_range.2 hk, by simpa using h⟩
theorem longB_false {L : Nat → Nat} {n : Nat} (h : ∀ j, j < n → L j ≤ 200) : longB L n = false := by
  unfold longB; rw [List.any_eq_false]; intro x hx; have := h x (List.mem_range.1 hx); simp; omega

theorem eq_of_getD {xs ys : List Int} {n : Nat} (hx : xs.length = n) (hy : ys.length = n) (h : ∀ j, j < n → xs.getD j 0 = ys.getD j 0) : xs = ys := by
  refine List.ext_getElem (by omega) (fun i h1 h2 => ?_)
  have := h i (by omega)
  rw [List.getD_eq_getElem?_getD, List.getD_eq_getElem?_getD, List.getElem?_eq_getElem h1, List.getElem?_eq_getElem h2] at this
  exact this
