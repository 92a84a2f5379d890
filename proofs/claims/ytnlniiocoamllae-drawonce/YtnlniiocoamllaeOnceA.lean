/- Durstenfeld's law in plain numbers: an order has each number once; sorted, it is the numbers from 0 on. -/
import Derived.Test.YtnlniiocoamllaeDraws
namespace Go.Proofs.Ytnlniiocoamllae.Fx

def idN (x : Nat) : Int := (x : Int)

theorem swap_perm (f : Nat → Int) {n i j : Nat} (hi : i < n) (hj : j < n) : ((List.range n).map (swapF f i j)).Perm ((List.range n).map f) := by
  have h := Array.swap_perm (xs := ((List.range n).map f).toArray) (i := i) (j := j) (by simpa using hi) (by simpa using hj)
  rw [Array.perm_iff_toList_perm] at h
  refine List.Perm.trans ?_ h
  rw [show (List.range n).map (swapF f i j) = (((List.range n).map f).toArray.swap i j (by simpa using hi) (by simpa using hj)).toList from ?_]
  refine List.ext_getElem (by simp) (fun k h1 h2 => ?_)
  simp only [List.length_map, List.length_range] at h1
  simp only [List.getElem_map, List.getElem_range, Array.getElem_toList, Array.getElem_swap, List.getElem_toArray]
  unfold swapF
  by_cases e1 : k = i
  · subst e1
    by_cases e2 : k = j
    · subst e2; simp
    · simp [e2]
  · by_cases e2 : k = j
    · subst e2; simp [e1]
    · simp [e1, e2]

theorem shufTo_perm (seed : Int) (epoch n : Nat) : ∀ k, k + 1 ≤ n → ((List.range n).map (shufTo seed epoch n k)).Perm ((List.range n).map idN)
  | 0, _ => List.Perm.refl _
  | k + 1, h => (swap_perm (shufTo seed epoch n k) (i := n - 1 - k) (j := placeP seed epoch (n - 1 - k)) (by omega) (by have := placeP_le seed epoch (n - 1 - k); omega)).trans (shufTo_perm seed epoch n k (by omega))

theorem shufP_perm (seed : Int) (epoch n : Nat) (h : 1 ≤ n) : ((List.range n).map (shufF seed epoch n)).Perm ((List.range n).map idN) := shufTo_perm seed epoch n (n - 1) (by omega)

theorem sort_range {l : List Int} {n : Nat} (h : l.Perm ((List.range n).map idN)) : l.mergeSort (fun x y => decide (x ≤ y)) = (List.range n).map idN := by
  have h1 : (l.mergeSort (fun x y => decide (x ≤ y))).Perm ((List.range n).map idN) := (List.mergeSort_perm _ _).trans h
  have h2 : (l.mergeSort (fun x y => decide (x ≤ y))).Pairwise (fun x y => decide (x ≤ y) = true) := List.pairwise_mergeSort (le := fun x y : Int => decide (x ≤ y)) (by intro a b c h1 h2; simp only [decide_eq_true_eq] at *; omega) (by intro a b; simp only [Bool.or_eq_true, decide_eq_true_eq]; omega) _
  have h3 : ((List.range n).map idN).Pairwise (fun x y => decide (x ≤ y) = true) := by
    rw [List.pairwise_map]
    refine List.pairwise_lt_range.imp ?_
    intro a b hab
    exact decide_eq_true (show idN a ≤ idN b by unfold idN; omega)
  exact h1.eq_of_pairwise (fun a b _ _ p q => by simp only [decide_eq_true_eq] at p q; omega) h2 h3

/-- Number t of all the orders, one behind the other. -/
def allG (seed : Int) (n t : Nat) : Int := shufF seed (t / n) n (t % n)
theorem batchG_all (seed : Int) (n s i : Nat) : batchG seed n s i = allG seed n (s + i) := rfl
theorem all_snoc (seed : Int) (n s m : Nat) : (List.range s).map (allG seed n) ++ (List.range m).map (batchG seed n s) = (List.range (s + m)).map (allG seed n) := by
  rw [List.range_add, List.map_append, List.map_map]
  rfl
theorem all_part (seed : Int) {n m : Nat} (hn : 1 ≤ n) {L : Nat} (h : m * n + n ≤ L) : (((List.range L).map (allG seed n)).drop (m * n)).take n = (List.range n).map (shufF seed m n) := by
  refine List.ext_getElem (by simp; omega) (fun i h1 h2 => ?_)
  simp only [List.length_map, List.length_range] at h2
  simp only [List.getElem_take, List.getElem_drop, List.getElem_map, List.getElem_range, allG]
  rw [show m * n + i = i + n * m from by rw [Nat.mul_comm, Nat.add_comm], Nat.add_mul_div_left _ _ (by omega), Nat.add_mul_mod_self_left, Nat.div_eq_of_lt h2, Nat.mod_eq_of_lt h2, Nat.zero_add]

theorem first_two : shufF 1 0 2 0 = 0 ∧ shufF 1 0 2 1 = 1 := by decide +kernel

end Go.Proofs.Ytnlniiocoamllae.Fx
