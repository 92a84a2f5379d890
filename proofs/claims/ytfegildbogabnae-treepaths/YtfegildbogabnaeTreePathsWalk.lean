/- The walk of TreePaths: it returns true, whatever integers lie there, and nothing that was there is written. -/
import Derived.Test.YtfegildbogabnaeTreeF
namespace Go.Proofs.Ytfegildbogabnae.Fx
open Go.RowKit

theorem Lst.one (w : World) (x : Int) (t : TypeId) : Lst (w.alloc (.cells #[.int .i64 x] t)) (some ⟨w.heap.size, 0, none⟩) 1 1 [x] := by
  refine ⟨rfl, Nat.le_refl _, .inr ⟨w.heap.size, 0, rfl, by simp, fun i hi => ?_⟩⟩
  obtain rfl : i = 0 := by omega
  exact cell_new _ _ _

theorem grown_tree : treeP (leavesP [5] 1) = ofA 4 (numL [5] 1) 1 := by decide +kernel
theorem grown_not : (ofP 3 [((1 : Nat) : Int), ofA 4 (numL [5] 1) 1] != 0) = true := by decide +kernel
theorem ofA_ok (kind : Int) (xs : List Int) (n : Nat) : okW (ofA kind xs n) := by
  unfold ofA
  by_cases h : 200 < n
  · rw [if_pos h]; exact ⟨by omega, by omega⟩
  · rw [if_neg h]; exact okW_of_P (ofP_ok _ _)

theorem grown_calls (w : World) : Calls Try.prog 5 #[] w fun e w' => e = .returned (.bool true) ∧ Below w.heap.size w w' := by
  have HT : Hid (treeP (leavesP [5] 1) = ofA 4 (numL [5] 1) 1) := grown_tree
  have HN : Hid ((ofP 3 [((1 : Nat) : Int), ofA 4 (numL [5] 1) 1] != 0) = true) := grown_not
  have HO : Hid (okW (ofA 4 (numL [5] 1) 1)) := ofA_ok _ _ _
  have HB : Hid (bigI 1 = 0) := rfl
  generalize hX : ofA 4 (numL [5] 1) 1 = X at *
  have HX : Hid (ofA 4 (numL [5] 1) 1 = X) := hX
  generalize hR : ofP 3 [((1 : Nat) : Int), X] = R at *
  have HR : Hid (ofP 3 [(1 : Int), X] = R) := hR
  have HN2 := HN.out
  clear hX hR HN
  go_enter Try.func5, Try.ntmps5
  go_wp2_with fail
  refine (root_good _ _ _ [5] _ (Lst.one _ _ _) (by omega) (by omega)).mono ?_
  rintro e w1 ⟨rfl, hw1⟩
  rw [HT.out, show ((1 : Nat) : Int) = 1 from rfl, HR.out]
  have b1 : Below w.heap.size w w1 := ((Below.refl _ _).alloc (Nat.le_refl _) _).trans (hw1.mono (by simp))
  clear hw1
  go_wp2_with fail
  refine (dNumbers_calls _ _ _ [5] _ (Lst.one _ _ _)).mono ?_
  rintro e w2 ⟨a2, n2, rfl, hn2, l2, hw2⟩
  obtain rfl : 1 = n2 := l2.len
  have b2 := (b1.alloc b1.size (.cells #[.int .i64 5] 3)).trans (hw2.mono (by have := b1.size; simp; omega))
  rw [HB.out]
  clear hw2 b1
  go_wp2_with fail
  refine (dOf_calls 4 ⟨by omega, by omega⟩ _ _ _ _ _ l2 (numL_ok _ _)).mono ?_
  rintro e w3 ⟨rfl, hw3⟩
  have b3 := b2.trans (hw3.mono b2.size)
  rw [HB.out, HX.out]
  clear hw3 b2
  go_wp2_with fail
  refine (dPair_calls _ _ ⟨by omega, by omega⟩ HO.out _).mono ?_
  rintro e w4 ⟨rfl, hw4⟩
  rw [HR.out]
  have b4 := b3.trans (hw4.mono b3.size)
  clear hw4 b3
  go_wp2
  go_ret
  exact ⟨rfl, b4⟩

theorem rest_calls (n : Int) (m : Nat) (h1 : 1 ≤ m) (h2 : m ≤ 200) (w : World) :
    Calls Try.prog 8 #[.int .i64 n, .int .i64 m] w fun e w' => (∃ k : Nat, k < m ∧ e = .returned (.int .i64 k)) ∧ w' = w := by
  obtain ⟨r, hr⟩ : ∃ r, n.tmod (m : Int) = r := ⟨_, rfl⟩
  have r1 : r < (m : Int) := by rw [← hr]; exact Int.tmod_lt_of_pos _ (by omega)
  have r2 : -(m : Int) < r := by
    rw [← hr]
    have := Int.tmod_lt_of_pos (-n) (b := (m : Int)) (by omega)
    rw [Int.neg_tmod] at this
    omega
  by_cases h : r < 0
  · go_enter Try.func8, Try.ntmps8
    go_wp2
    go_ret
    exact ⟨⟨(r + m).toNat, by omega, ret_word (by omega)⟩, rfl⟩
  · go_enter Try.func8, Try.ntmps8
    go_wp2
    go_ret
    exact ⟨⟨r.toNat, by omega, ret_word (by omega)⟩, rfl⟩

theorem list_calls (a : Option Addr) (la ca : Nat) (xs : List Int) (w : World) (ha : Lst w a la ca xs) :
    Calls Try.prog 6 #[.slice a la ca] w fun e w' => ∃ a' n c' ys, e = .returned (.slice a' n c') ∧ 1 ≤ n ∧ n ≤ 60 ∧ Lst w' a' n c' ys ∧ Below w.heap.size w w' := by
  by_cases h0 : la = 0
  · have n0 : ((la : Int) == 0) = true := by rw [beq_iff_eq]; omega
    go_enter Try.func6, Try.ntmps6
    go_wp2
    go_ret
    exact ⟨_, _, _, [7], rfl, by omega, by omega, Lst.one _ _ _, (Below.refl _ _).alloc (Nat.le_refl _) _⟩
  · have n0 : ((la : Int) == 0) = false := by rw [beq_eq_false_iff_ne]; omega
    have hk := ha.cap
    obtain ⟨b, off, x, rfl, hb, _, _⟩ := ha.at1 (k := 0) (by omega)
    have hA : Hid (∀ k, k ≤ la → Lst w (some ⟨b, off, none⟩) k ca (xs.take k)) := fun k hk => by simpa using ha.sub (by omega) 0 k (Nat.zero_le _) hk
    clear ha
    by_cases h1 : la < 60
    · go_enter Try.func6, Try.ntmps6
      go_wp2
      go_ret
      exact ⟨_, _, _, _, rfl, by omega, by omega, hA.out la (Nat.le_refl _), Below.refl _ _⟩
    · go_enter Try.func6, Try.ntmps6
      go_wp2
      go_ret
      exact ⟨_, _, _, _, rfl, by omega, by omega, hA.out 60 (by omega), Below.refl _ _⟩

/-- Merkle's law in the program's terms: by a leaf's own way one comes to the root. -/
theorem climb_root (xs : List Int) (n k : Nat) (h1 : 1 ≤ n) (h2 : n ≤ 200) (hk : k < (n + 3) / 4) :
    upL k n ((leavesP xs n).getD k 0) (wayP (leavesP xs n) k) (deepP k ((n + 3) / 4)) = ofP 3 [(n : Int), treeP (leavesP xs n)] ∧ errC k n (deepP k ((n + 3) / 4)) = 0 := by
  have hc : okC k n := ⟨by omega, by omega, by omega, by omega⟩
  have hd : deepP k ((n + 3) / 4) = dpC k n := by unfold dpC; simp
  have hw := way_up _ (leavesP xs n) k (Nat.le_refl _) (by rw [leavesP_len]; exact hk)
  rw [leavesP_len] at hw
  refine ⟨?_, ?_⟩
  · unfold upL
    rw [if_pos (And.intro hc hd)]
    simp only [Int.toNat_natCast]
    rw [hw]
  · unfold errC
    rw [if_pos hc, if_pos hd]

set_option maxRecDepth 100000 in
set_option maxHeartbeats 3200000 in
theorem treePaths_any (a : Option Addr) (la ca : Nat) (xs : List Int) (i : Int) (w : World) (ha : Lst w a la ca xs) (_ : (Lit.int .i64 i).wf = true) :
    Calls Try.prog 3 #[.slice a la ca, .int .i64 i] w fun e w' => e = .returned (.bool true) ∧ Below w.heap.size w w' := by
  go_enter Try.func3, Try.ntmps3
  go_wp2_with fail
  refine (grown_calls _).mono ?_
  rintro e w1 ⟨rfl, T1⟩
  have ha1 := ha.below T1 (Nat.le_refl _)
  clear ha
  go_wp2_with fail
  refine (list_calls _ _ _ _ _ ha1).mono ?_
  rintro e w2 ⟨a2, n, c2, ys, rfl, h1, h2, l2, hw2⟩
  have T2 := T1.trans (hw2.mono T1.size)
  clear T1 hw2 ha1
  have HR : Hid (∀ k, k < (n + 3) / 4 → upL k n ((leavesP ys n).getD k 0) (wayP (leavesP ys n) k) (deepP k ((n + 3) / 4)) = ofP 3 [(n : Int), treeP (leavesP ys n)] ∧ errC k n (deepP k ((n + 3) / 4)) = 0) := fun k hk => climb_root ys n k h1 (by omega) hk
  have HO : Hid (okL (leavesP ys n)) := leavesP_ok ys n
  have HLN : Hid ((leavesP ys n).length = (n + 3) / 4) := leavesP_len ys n
  have HLV : Hid (∀ q, Lst q a2 n c2 ys → Calls Try.prog 7 #[.slice a2 n c2] q fun e w' => ∃ a', e = .returned (.tuple #[.slice a' ((n + 3) / 4 : Nat) ((n + 3) / 4 : Nat), .int .i64 0]) ∧ LstW w' a' ((n + 3) / 4) ((n + 3) / 4) (leavesP ys n) ∧ Below q.heap.size q w') := fun q hq => leaves_calls a2 n c2 ys q hq h1 (by omega)
  have HPT : Hid (∀ q (k : Nat), Lst q a2 n c2 ys → k < (n + 3) / 4 → Calls Try.prog 9 #[.slice a2 n c2, .int .i64 k] q fun e w' => ∃ a' c', e = .returned (.tuple #[.slice a' (deepP k ((n + 3) / 4)) c', .int .i64 0]) ∧ LstW w' a' (deepP k ((n + 3) / 4)) c' (wayP (leavesP ys n) k) ∧ Below q.heap.size q w') := fun q k hq hk => path_good a2 n c2 ys k q hq h1 (by omega) hk
  have HRT : Hid (∀ q, Lst q a2 n c2 ys → Calls Try.prog 10 #[.slice a2 n c2] q fun e w' => e = .returned (.tuple #[.int .u64 (ofP 3 [(n : Int), treeP (leavesP ys n)]), .int .i64 0]) ∧ Below q.heap.size q w') := fun q hq => root_good a2 n c2 ys q hq h1 (by omega)
  have hN1 : 1 ≤ (n + 3) / 4 := by omega
  have hN2 : (n + 3) / 4 ≤ 50 := by omega
  generalize (n + 3) / 4 = N at *
  go_wp2_with fail
  refine (HLV.out _ l2).mono ?_
  rintro e w3 ⟨a3, rfl, l3, hw3⟩
  have T3 := T2.trans (hw3.mono T2.size)
  replace l2 := l2.below hw3 (Nat.le_refl _)
  clear T2 hw3
  have e0 : (if (1 : Int) < (N : Int) then (N : Int) else 1) = (N : Int) := by split <;> omega
  go_wp2_with fail
  refine (rest_calls i N hN1 (by omega) _).mono ?_
  rintro e w' ⟨⟨k, hk0, rfl⟩, hw'⟩
  replace hw' := hw'.symm
  subst hw'
  have hk : k < N := by omega
  obtain ⟨hR, hE⟩ := HR.out k hk
  have HE : Hid (errC k n (deepP k N) = 0 ∧ upL k n ((leavesP ys n).getD k 0) (wayP (leavesP ys n) k) (deepP k N) = ofP 3 [(n : Int), treeP (leavesP ys n)]) := ⟨hE, hR⟩
  have HW : Hid (okL (wayP (leavesP ys n) k)) := (way_deep _ (leavesP ys n) k (Nat.le_refl _) HO.out).2
  have hdl := deepP_le k N
  clear hR hE hk0
  go_wp2_with fail
  refine (HPT.out _ k l2 hk).mono ?_
  rintro e w4 ⟨a4, c4, rfl, l4, hw4⟩
  have T4 := T3.trans (hw4.mono T3.size)
  replace l2 := l2.below hw4 (Nat.le_refl _)
  replace l3 := l3.below hw4 (Nat.le_refl _)
  clear T3 hw4
  go_wp2_with fail
  refine (HRT.out _ l2).mono ?_
  rintro e w5 ⟨rfl, hw5⟩
  have T5 := T4.trans (hw5.mono T4.size)
  replace l3 := l3.below hw5 (Nat.le_refl _)
  replace l4 := l4.below hw5 (Nat.le_refl _)
  clear T4 hw5
  obtain ⟨b, off, y, rfl, hb, h0, HY⟩ := l3.at1 hk
  have hy : okW y := by rw [← HY.out]; exact HO.out k (by rw [HLN.out]; exact hk)
  have HF : Hid (errC k n (deepP k N) = 0 ∧ upL k n y (wayP (leavesP ys n) k) (deepP k N) = ofP 3 [(n : Int), treeP (leavesP ys n)]) := by rw [← HY.out]; exact HE.out
  clear l3 HE
  generalize deepP k N = D at *
  generalize ofP 3 [(n : Int), treeP (leavesP ys n)] = R at *
  go_wp2_with fail
  refine (Climb_calls _ _ _ _ _ _ (wayP (leavesP ys n) k) _ hy l4 HW.out).mono ?_
  rintro e w6 ⟨rfl, hw6⟩
  rw [HF.out.1, HF.out.2]
  have T6 := T5.trans (hw6.mono T5.size)
  clear hw6 T5
  go_wp2
  go_ret
  exact ⟨rfl, T6⟩

end Go.Proofs.Ytfegildbogabnae.Fx
