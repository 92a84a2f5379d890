/- Matrices as plain numbers: what Check says of one, and what lines it has; no program is spoken of. -/
import Derived.Test.YtfkalnehomgccaaLists
namespace Go.Proofs.Ytfkalnehomgccaa.Fx
open Go.RowKit

/-- May a matrix have so many rows, or columns? -/
def sideB (n : Int) : Bool := decide (1 ≤ n) && decide (n ≤ 4)
theorem sideB_true {n : Int} (h : sideB n = true) : 1 ≤ n ∧ n ≤ 4 := by simpa [sideB] using h
theorem sideB_mk {n : Int} (h1 : 1 ≤ n) (h2 : n ≤ 4) : sideB n = true := by simp [sideB, h1, h2]
theorem sideB_false {n : Int} (h : ¬ (1 ≤ n ∧ n ≤ 4)) : sideB n = false := by
  cases e : sideB n with
  | false => rfl
  | true => exact absurd (sideB_true e) h

/-- Are all numbers such as may be? -/
def rightB (xs : List Int) : Bool := xs.all fun n => decide (n = clampI n)
theorem rightB_true {xs : List Int} (h : ∀ j, j < xs.length → xs.getD j 0 = clampI (xs.getD j 0)) : rightB xs = true := by
  unfold rightB
  rw [List.all_eq_true]
  intro x hx
  obtain ⟨i, hi, rfl⟩ := List.getElem_of_mem hx
  have := h i hi
  rw [List.getD_eq_getElem?_getD, List.getElem?_eq_getElem hi, Option.getD_some] at this
  exact decide_eq_true this
theorem rightB_get {xs : List Int} (h : rightB xs = true) (j : Nat) : xs.getD j 0 = clampI (xs.getD j 0) := by
  unfold rightB at h
  rw [List.all_eq_true] at h
  rcases Nat.lt_or_ge j xs.length with hj | hj
  · have := of_decide_eq_true (h (xs[j]) (List.getElem_mem hj))
    rw [List.getD_eq_getElem?_getD, List.getElem?_eq_getElem hj, Option.getD_some]
    exact this
  · rw [List.getD_eq_getElem?_getD, List.getElem?_eq_none hj]
    rfl
theorem rightB_false {xs : List Int} {k : Nat} (h : xs.getD k 0 ≠ clampI (xs.getD k 0)) : rightB xs = false := by
  cases e : rightB xs with
  | false => rfl
  | true => exact absurd (rightB_get e k) h

/-- What Check says of a matrix with so many rows, columns and numbers. -/
def chkI (r c : Int) (len : Nat) (xs : List Int) : Int :=
  if sideB r = true ∧ sideB c = true then (if (len : Int) = r * c ∧ rightB xs = true then 0 else 5) else 1
/-- .. and behind it a list that should have as many numbers as a side. -/
def bothI (r c : Int) (len : Nat) (xs : List Int) (lv : Nat) (side : Int) : Int :=
  if 200 < lv then 2 else if chkI r c len xs = 0 then (if (lv : Int) = side then 0 else 5) else chkI r c len xs

theorem prod_side {r c : Int} (hr1 : 1 ≤ r) (hr2 : r ≤ 4) (hc1 : 1 ≤ c) (hc2 : c ≤ 4) : 1 ≤ r * c ∧ r * c ≤ 16 := by
  rcases (show r = 1 ∨ r = 2 ∨ r = 3 ∨ r = 4 from by omega) with rfl | rfl | rfl | rfl <;> omega
theorem prod_sideN {r c : Nat} (hr2 : r ≤ 4) (hc2 : c ≤ 4) : r * c ≤ 16 := by
  rcases (show r = 0 ∨ r = 1 ∨ r = 2 ∨ r = 3 ∨ r = 4 from by omega) with rfl | rfl | rfl | rfl | rfl <;> omega

/-- A matrix that Check takes, in natural numbers. -/
theorem chkI_zero {r c : Int} {len : Nat} {xs : List Int} (h : chkI r c len xs = 0) :
    ∃ R C : Nat, r = (R : Int) ∧ c = (C : Int) ∧ 1 ≤ R ∧ R ≤ 4 ∧ 1 ≤ C ∧ C ≤ 4 ∧ len = R * C ∧ rightB xs = true := by
  unfold chkI at h
  by_cases h1 : sideB r = true ∧ sideB c = true
  · rw [if_pos h1] at h
    by_cases h2 : (len : Int) = r * c ∧ rightB xs = true
    · have a := sideB_true h1.1
      have b := sideB_true h1.2
      obtain ⟨R, rfl⟩ := Int.eq_ofNat_of_zero_le (show 0 ≤ r by omega)
      obtain ⟨C, rfl⟩ := Int.eq_ofNat_of_zero_le (show 0 ≤ c by omega)
      exact ⟨R, C, rfl, rfl, by omega, by omega, by omega, by omega, by exact_mod_cast h2.1, h2.2⟩
    · rw [if_neg h2] at h; exact absurd h (by decide)
  · rw [if_neg h1] at h; exact absurd h (by decide)

theorem chkI_cases (r c : Int) (len : Nat) (xs : List Int) : chkI r c len xs = 0 ∨ (chkI r c len xs ≠ 0 ∧ (chkI r c len xs != 0) = true ∧ (chkI r c len xs == 0) = false) := by
  by_cases h : chkI r c len xs = 0
  · exact .inl h
  · exact .inr ⟨h, by simpa using h, by simpa using h⟩

theorem bothI_cases (r c : Int) (len : Nat) (xs : List Int) (lv : Nat) (s : Int) :
    (bothI r c len xs lv s = 0 ∧ lv ≤ 200 ∧ chkI r c len xs = 0 ∧ (lv : Int) = s) ∨ (bothI r c len xs lv s ≠ 0 ∧ (bothI r c len xs lv s != 0) = true) := by
  unfold bothI
  by_cases h : 200 < lv
  · rw [if_pos h]; exact .inr ⟨by decide, by decide⟩
  · rw [if_neg h]
    by_cases h2 : chkI r c len xs = 0
    · rw [if_pos h2]
      by_cases h3 : (lv : Int) = s
      · rw [if_pos h3]; exact .inl ⟨rfl, by omega, h2, h3⟩
      · rw [if_neg h3]; exact .inr ⟨by decide, by decide⟩
    · rw [if_neg h2]; exact .inr ⟨h2, by simpa using h2⟩

/-- Row k, and column k, of a matrix with c columns. -/
def rowL (xs : List Int) (c k : Nat) : List Int := (List.range c).map fun i => xs.getD (k * c + i) 0
def colL (xs : List Int) (r c k : Nat) : List Int := (List.range r).map fun i => xs.getD (i * c + k) 0
def mulG (xs ys : List Int) (c k : Nat) : Int := dotTo (rowL xs c k) ys c
def backG (xs ys : List Int) (r c k : Nat) : Int := dotTo (colL xs r c k) ys r
/-- What Mul, and what Back, tells: nothing where there is an error. -/
def mulL (r c : Int) (len : Nat) (xs : List Int) (lv : Nat) (ys : List Int) : List Int := if bothI r c len xs lv c = 0 then (List.range r.toNat).map (mulG xs ys c.toNat) else []
def backL (r c : Int) (len : Nat) (xs : List Int) (lv : Nat) (ys : List Int) : List Int := if bothI r c len xs lv r = 0 then (List.range c.toNat).map (backG xs ys r.toNat c.toNat) else []

theorem sub_range (xs : List Int) (lo n : Nat) (h : lo + n ≤ xs.length) : (xs.drop lo).take n = (List.range n).map fun i => xs.getD (lo + i) 0 := by
  refine List.ext_getElem (by simp; omega) (fun i h1 h2 => ?_)
  have h3 : lo + i < xs.length := by simp at h1; omega
  simp [h3]

end Go.Proofs.Ytfkalnehomgccaa.Fx
