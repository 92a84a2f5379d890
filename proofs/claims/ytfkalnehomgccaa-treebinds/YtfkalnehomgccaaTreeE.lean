/- What tree.chunks, tree.leaf and tree.Leaves return: the leaves of a list of integers. -/
import Derived.Test.YtfkalnehomgccaaDigD
import Derived.Test.YtfkalnehomgccaaTrees
namespace Go.Proofs.Ytfkalnehomgccaa.Fx
open Go.RowKit

theorem chunks_calls (n : Nat) (h : n ≤ 200) (w : World) : Calls Try.prog 37 #[.int .i64 n] w fun e w' => e = .returned (.int .i64 ((n + 3) / 4 : Nat)) ∧ w' = w := by
  have e1 : ((n : Int) + 4 - 1).tdiv 4 = (((n + 3) / 4 : Nat) : Int) := by
    rw [Int.tdiv_eq_ediv_of_nonneg (by omega)]; omega
  go_enter Try.func37, Try.ntmps37
  go_wp2
  go_ret
  exact ⟨ret_word (by omega), rfl⟩

theorem numL_ok (xs : List Int) (n : Nat) : okL (numL xs n) := by
  unfold numL
  intro i hi
  by_cases h : 200 < n
  · rw [if_pos h] at hi; simp at hi
  · rw [if_neg h] at hi ⊢
    simp at hi
    have := boundP_ok (xs.getD i 0)
    simp only [List.getD_eq_getElem?_getD, List.getElem?_map, List.getElem?_range hi, Option.map_some, Option.getD_some, numG] at this ⊢
    exact ⟨this.1, by omega⟩
theorem numL_len {xs : List Int} {n : Nat} (h : n ≤ 200) : (numL xs n).length = n := by
  unfold numL; rw [if_neg (by omega)]; simp

theorem leaf_calls (a : Option Addr) (la ca : Nat) (xs : List Int) (w : World) (ha : Lst w a la ca xs) (_hl : la ≤ 4) :
    Calls Try.prog 40 #[.slice a la ca] w fun e w' => e = .returned (.int .u64 (ofP 4 (numL xs la))) ∧ Below w.heap.size w w' := by
  go_enter Try.func40, Try.ntmps40
  go_wp2_with (first | (go_at_call 30; refine (dNumbers_calls _ _ _ xs _ ha).mono ?_; rintro e w1 ⟨a1, n1, rfl, hn1, h1, hw1⟩) | (go_at_call 31; refine (dOf_calls 4 ⟨by omega, by omega⟩ _ _ _ (numL xs la) _ h1 (numL_ok _ _)).mono ?_; rintro e w2 ⟨rfl, hw2⟩))
  go_ret
  exact ⟨ret_word (by unfold ofA; rw [if_neg (by omega)]), hw1.trans (hw2.mono hw1.size)⟩

/-- Leaf i of a list of n integers: of its chunk. -/
def hiN (n i : Nat) : Nat := min (i * 4 + 4) n
def leafG (xs : List Int) (n i : Nat) : Int := ofP 4 (numL ((xs.drop (i * 4)).take (hiN n i - i * 4)) (hiN n i - i * 4))
def leavesP (xs : List Int) (n : Nat) : List Int := (List.range ((n + 3) / 4)).map (leafG xs n)
theorem leavesP_len (xs : List Int) (n : Nat) : (leavesP xs n).length = (n + 3) / 4 := by unfold leavesP; simp
theorem leavesP_ok (xs : List Int) (n : Nat) : okL (leavesP xs n) := by
  intro i hi
  rw [leavesP_len] at hi
  unfold leavesP
  simp only [List.getD_eq_getElem?_getD, List.getElem?_map, List.getElem?_range hi, Option.map_some, Option.getD_some]
  exact okW_of_P (ofP_ok _ _)

set_option maxHeartbeats 1600000 in
theorem leaves_calls (a : Option Addr) (n c : Nat) (xs : List Int) (w : World) (ha : Lst w a n c xs) (h1 : 1 ≤ n) (h2 : n ≤ 200) :
    Calls Try.prog 27 #[.slice a n c] w fun e w' => ∃ a', e = .returned (.tuple #[.slice a' ((n + 3) / 4 : Nat) ((n + 3) / 4 : Nat), .int .i64 0]) ∧ LstW w' a' ((n + 3) / 4) ((n + 3) / 4) (leavesP xs n) ∧ Below w.heap.size w w' := by
  unfold leavesP
  have n0 : ((n : Int) == 0) = false := by rw [beq_eq_false_iff_ne]; omega
  have HC : Hid (∀ w, Calls Try.prog 37 #[.int .i64 n] w fun e w' => e = .returned (.int .i64 ((n + 3) / 4 : Nat)) ∧ w' = w) := chunks_calls n h2
  obtain ⟨N, hN⟩ : ∃ N, (n + 3) / 4 = N := ⟨_, rfl⟩
  rw [hN] at HC ⊢
  have hmk := run_make_row' (P := Try.prog) 26 25 (.int .u64 0) 8 Try.underlying26 infoW rfl .i64 .i64 N (by omega) (by omega)
  obtain ⟨b, off, x, rfl, hb, h0, HX⟩ := ha.at1 (k := 0) (by omega)
  have HK := ha.cap
  go_enter Try.func27, Try.ntmps27
  go_wp2_with (go_at_call 37; refine (HC.out _).mono ?_; rintro e w' ⟨rfl, hw'⟩; replace hw' := hw'.symm; subst hw')
  go_loopw [19] (fun i wr => ∃ k : Nat, k ≤ N ∧ i = .int .i64 k ∧ wr.rowIs w.heap.size 25 N (rowToW (leafG xs n) k) ∧ Below w.heap.size w wr) (fun i _ => N - (intOf i).toNat)
  case atStart => exact ⟨0, Nat.zero_le _, rfl, rowToW_made (World.rowIs_made _ _ _ _), (Below.refl _ _).alloc (Nat.le_refl _) _⟩
  case round =>
    obtain ⟨k, hk, rfl, hrow, hbel⟩ := hrel
    have ha' := ha.below hbel (Nat.le_refl _)
    clear ha hmk
    by_cases hlt : k < N
    · obtain ⟨lo, hlo⟩ : ∃ lo, k * 4 = lo := ⟨_, rfl⟩
      obtain ⟨hi, hhi⟩ : ∃ hi, hiN n k = hi := ⟨_, rfl⟩
      have hh : lo ≤ hi ∧ hi ≤ n ∧ hi ≤ lo + 4 := by unfold hiN at hhi; omega
      have hs := ha'.sub (by omega) lo hi (by omega) (by omega)
      have HG : Hid (leafG xs n k = ofP 4 (numL ((xs.drop lo).take (hi - lo)) (hi - lo))) := by show leafG xs n k = _; unfold leafG; rw [hlo, hhi]
      have HM : Hid (hi = min (lo + 4) n) := by show hi = min (lo + 4) n; rw [← hhi, ← hlo]; rfl
      have c3 := rowToW_cell hrow hlt
      have f3 := hrow.frozen k
      have e1 : (k : Int) * 4 = (lo : Int) := by omega
      clear hhi hlo
      have hlr := hrow.lt
      go_wp2_with fail
      all_goals
        first
          | rw [show ((lo : Int) + 4).toNat = hi from by have := HM.out; omega]
          | rw [show n - lo = hi - lo from by have := HM.out; omega]
        refine (leaf_calls _ _ _ _ _ hs (by omega)).mono ?_
        rintro e w1 ⟨rfl, hw1⟩
        have hrow1 := hrow.of_block (hw1.block _ hlr)
        have d3 := rowToW_cell hrow1 hlt
        have g3 := hrow1.frozen k
        clear c3 f3
        go_wp2
        go_roundw
        case rel =>
          have st := rowToW_step (g := leafG xs n) hrow1
          rw [HG.out] at st
          exact ⟨k + 1, by omega, by go_num, st, (hbel.trans (hw1.mono hbel.size)).setCell (Nat.le_refl _) _⟩
        case measure => simp [intOf]; omega
    · go_wp2
      go_ret2
      obtain rfl : k = N := by omega
      exact ⟨_, rfl, rowToW_lst hrow, hbel⟩

/-- The root of two lists, one behind the other. -/
def rootP (ws ms : List Int) (n : Nat) : Int := ofP 3 [(n : Int), treeP (leavesP (ws ++ ms) n)]
end Go.Proofs.Ytfkalnehomgccaa.Fx
