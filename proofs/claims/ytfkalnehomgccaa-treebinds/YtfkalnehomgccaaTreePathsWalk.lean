/- The walk of TreePaths: it returns true, whatever integers lie there, and nothing that was there is written. -/
import Derived.Test.YtfkalnehomgccaaTreeF
namespace Go.Proofs.Ytfkalnehomgccaa.Fx
open Go.RowKit

theorem Lst.one (w : World) (x : Int) (t : TypeId) : Lst (w.alloc (.cells #[.int .i64 x] t)) (some ⟨w.heap.size, 0, none⟩) 1 1 [x] := by
  refine ⟨rfl, Nat.le_refl _, .inr ⟨w.heap.size, 0, rfl, by simp, fun i hi => ?_⟩⟩
  obtain rfl : i = 0 := by omega
  exact cell_new _ _ _

theorem grown_tree : treeP (leavesP [5] 1) = ofA 4 (numL [5] 1) 1 := by decide +kernel
theorem grown_not : (ofP 3 [((1 : Nat) : Int), ofA 4 (numL [5] 1) 1] != 0) = true := by decide +kernel
theorem ofA_ok (kind : Int) (xs : List Int) (n : Nat) : okW (ofA kind xs n) := by
  unfold ofA
  by_cases h : 200 < n
  · rw [if_pos h]; exact ⟨by omega, by omega⟩
  · rw [if_neg h]; exact okW_of_P (ofP_ok _ _)

theorem grown_calls (w : World) : Calls Try.prog 16 #[] w fun e w' => e = .returned (.bool true) ∧ Below w.heap.size w w' := by
  have HT : Hid (treeP (leavesP [5] 1) = ofA 4 (numL [5] 1) 1) := grown_tree
  have HN : Hid ((ofP 3 [((1 : Nat) : Int), ofA 4 (numL [5] 1) 1] != 0) = true) := grown_not
  have HO : Hid (okW (ofA 4 (numL [5] 1) 1)) := ofA_ok _ _ _
  have HB : Hid (bigI 1 = 0) := rfl
  generalize hX : ofA 4 (numL [5] 1) 1 = X at *
  have HX : Hid (ofA 4 (numL [5] 1) 1 = X) := hX
  generalize hR : ofP 3 [((1 : Nat) : Int), X] = R at *
  have HR : Hid (ofP 3 [(1 : Int), X] = R) := hR
  have HN2 := HN.out
  clear hX hR HN
  go_enter Try.func16, Try.ntmps16
  go_wp2_with fail
  refine (root_good _ _ _ [5] _ (Lst.one _ _ _) (by omega) (by omega)).mono ?_
  rintro e w1 ⟨rfl, hw1⟩
  rw [HT.out, show ((1 : Nat) : Int) = 1 from rfl, HR.out]
  have b1 : Below w.heap.size w w1 := ((Below.refl _ _).alloc (Nat.le_refl _) _).trans (hw1.mono (by simp))
  clear hw1
  go_wp2_with fail
  refine (dNumbers_calls _ _ _ [5] _ (Lst.one _ _ _)).mono ?_
  rintro e w2 ⟨a2, n2, rfl, hn2, l2, hw2⟩
  obtain rfl : 1 = n2 := l2.len
  have b2 := (b1.alloc b1.size (.cells #[.int .i64 5] 3)).trans (hw2.mono (by have := b1.size; simp; omega))
  rw [HB.out]
  clear hw2 b1
  go_wp2_with fail
  refine (dOf_calls 4 ⟨by omega, by omega⟩ _ _ _ _ _ l2 (numL_ok _ _)).mono ?_
  rintro e w3 ⟨rfl, hw3⟩
  have b3 := b2.trans (hw3.mono b2.size)
  rw [HB.out, HX.out]
  clear hw3 b2
  go_wp2_with fail
  refine (dPair_calls _ _ ⟨by omega, by omega⟩ HO.out _).mono ?_
  rintro e w4 ⟨rfl, hw4⟩
  rw [HR.out]
  have b4 := b3.trans (hw4.mono b3.size)
  clear hw4 b3
  go_wp2
  go_ret
  exact ⟨rfl, b4⟩

/-- Merkle's law in the program's terms: by a leaf's own way one comes to the root. -/
theorem climb_root (xs : List Int) (n k : Nat) (h1 : 1 ≤ n) (h2 : n ≤ 200) (hk : k < (n + 3) / 4) :
    upL k n ((leavesP xs n).getD k 0) (wayP (leavesP xs n) k) (deepP k ((n + 3) / 4)) = ofP 3 [(n : Int), treeP (leavesP xs n)] ∧ errC k n (deepP k ((n + 3) / 4)) = 0 := by
  have hc : okC k n := ⟨by omega, by omega, by omega, by omega⟩
  have hd : deepP k ((n + 3) / 4) = dpC k n := by unfold dpC; simp
  have hw := way_up _ (leavesP xs n) k (Nat.le_refl _) (by rw [leavesP_len]; exact hk)
  rw [leavesP_len] at hw
  refine ⟨?_, ?_⟩
  · unfold upL
    rw [if_pos (And.intro hc hd)]
    simp only [Int.toNat_natCast]
    rw [hw]
  · unfold errC
    rw [if_pos hc, if_pos hd]

end Go.Proofs.Ytfkalnehomgccaa.Fx
