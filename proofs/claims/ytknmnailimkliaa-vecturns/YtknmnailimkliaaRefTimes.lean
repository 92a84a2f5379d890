/- What coachref's Times returns: the products of a matrix's rows, or of its columns, with a list. -/
import Derived.Test.YtknmnailimkliaaRefLine
namespace Go.Proofs.Ytknmnailimkliaa.Fx
open Go.RowKit

theorem rowL_len (xs : List Int) (C k : Nat) : (rowL xs C k).length = C := by simp [rowL]
theorem colL_len (xs : List Int) (R C k : Nat) : (colL xs R C k).length = R := by simp [colL]

set_option maxHeartbeats 1600000 in
theorem rtimes_row (R C : Nat) (a : Option Addr) (cap : Nat) (xs : List Int) (v : Option Addr) (cv : Nat) (ys : List Int) (w : World) (ha : Lst w a (R * C) cap xs) (hv : Lst w v C cv ys) (hR : R ≤ 4) (hC : C ≤ 4) :
    Calls Try.prog 22 #[.agg #[.int .i64 R, .int .i64 C, .slice a (R * C) cap], .slice v C cv, .bool false] w fun e w' => ∃ a' c', e = .returned (.slice a' R c') ∧ Lst w' a' R c' ((List.range R).map (mulG xs ys C)) ∧ Below w.heap.size w w' := by
  have hal := (Below.refl w.heap.size w).alloc (Nat.le_refl _) (.cells #[.int .i64 R, .int .i64 C, .slice a (R * C) cap] 37)
  go_enter Try.func22, Try.ntmps22
  go_wp2
  go_loopw [7, 9] (fun s i wr => ∃ k : Nat, k ≤ R ∧ i = .int .i64 k ∧ OwnI (w.heap.size + 1) wr s ((List.range k).map (mulG xs ys C)) ∧ Below (w.heap.size + 1) (w.alloc (.cells #[.int .i64 R, .int .i64 C, .slice a (R * C) cap] 37)) wr) (fun _ i _ => R - (intOf i).toNat)
  case atStart => exact ⟨0, Nat.zero_le _, rfl, OwnI.nil _ _, Below.refl _ _⟩
  case round =>
    obtain ⟨k, hk, rfl, hown, hbel⟩ := hrel
    obtain ⟨g0, g1, g2⟩ := box3 _ _ _ _ hbel (Nat.lt_succ_self _)
    have hsz : w.heap.size + 1 ≤ wr.heap.size := by have := hbel.size; simpa using this
    have hbw := hal.trans (hbel.mono (by omega))
    have ha' := ha.below hbw (Nat.le_refl _)
    have hv' := hv.below hbw (Nat.le_refl _)
    clear ha hv hal
    by_cases hlt : k < R
    · go_wp2_with fail
      refine (rline_row R C k a cap xs _ ha' hR hC hlt).mono ?_
      rintro e w2 ⟨a2, n2, c2, rfl, hl, hb2⟩
      obtain rfl : C = n2 := by rw [← hl.len]; exact (rowL_len _ _ _).symm
      have hv2 := hv'.below hb2 (Nat.le_refl _)
      have hown2 := OwnI.below hown hb2 
      go_wp2_with fail
      refine (rdot_calls a2 v _ c2 cv _ ys _ hl hv2 (by omega)).mono ?_
      rintro e w3 ⟨rfl, nd, hw3⟩
      have hb3 : Below (w.heap.size + 1) wr w3 := hw3 ▸ below_drewN (hb2.mono hsz) nd
      have hown3 : OwnI (w.heap.size + 1) w3 _ _ := hw3 ▸ hown2.drewN nd
      have hsz3 : w.heap.size + 1 ≤ w3.heap.size := Nat.le_trans hsz hb3.size
      clear hw3 hl hv2 hown2 ha' hv'
      go_wp2_with (at_builtin; refine wpList_append_int (by rfl) _ _ (by rfl) (w.heap.size + 1) _ ((List.range k).map (mulG xs ys C)) ((mulG xs ys C) k) w3.heap.size wr (by rfl) (by rfl) (by exact hown3.alloc _) (by exact cell_new _ _ _) (by simp; omega) (by simp; omega) (by exact hb3.alloc (by omega) _) ?_; intro v1 w4 hown1 hbel1)
      go_roundw
      case rel => exact ⟨k + 1, by omega, by go_num, hown1.congr (range_snoc _ _ _ rfl), hbel.trans hbel1⟩
      case measure => simp [intOf]; omega
    · obtain rfl : k = R := by omega
      obtain ⟨a1, c1, rfl, hl⟩ := hown.lst' (n := k) (by simp)
      go_wp2
      go_ret
      exact ⟨_, _, rfl, hl, hbw⟩

set_option maxHeartbeats 1600000 in
theorem rtimes_col (R C : Nat) (a : Option Addr) (cap : Nat) (xs : List Int) (v : Option Addr) (cv : Nat) (ys : List Int) (w : World) (ha : Lst w a (R * C) cap xs) (hv : Lst w v R cv ys) (hR : R ≤ 4) (hC : C ≤ 4) :
    Calls Try.prog 22 #[.agg #[.int .i64 R, .int .i64 C, .slice a (R * C) cap], .slice v R cv, .bool true] w fun e w' => ∃ a' c', e = .returned (.slice a' C c') ∧ Lst w' a' C c' ((List.range C).map (backG xs ys R C)) ∧ Below w.heap.size w w' := by
  have hal := (Below.refl w.heap.size w).alloc (Nat.le_refl _) (.cells #[.int .i64 R, .int .i64 C, .slice a (R * C) cap] 37)
  go_enter Try.func22, Try.ntmps22
  go_wp2
  go_loopw [7, 9] (fun s i wr => ∃ k : Nat, k ≤ C ∧ i = .int .i64 k ∧ OwnI (w.heap.size + 1) wr s ((List.range k).map (backG xs ys R C)) ∧ Below (w.heap.size + 1) (w.alloc (.cells #[.int .i64 R, .int .i64 C, .slice a (R * C) cap] 37)) wr) (fun _ i _ => C - (intOf i).toNat)
  case atStart => exact ⟨0, Nat.zero_le _, rfl, OwnI.nil _ _, Below.refl _ _⟩
  case round =>
    obtain ⟨k, hk, rfl, hown, hbel⟩ := hrel
    obtain ⟨g0, g1, g2⟩ := box3 _ _ _ _ hbel (Nat.lt_succ_self _)
    have hsz : w.heap.size + 1 ≤ wr.heap.size := by have := hbel.size; simpa using this
    have hbw := hal.trans (hbel.mono (by omega))
    have ha' := ha.below hbw (Nat.le_refl _)
    have hv' := hv.below hbw (Nat.le_refl _)
    clear ha hv hal
    by_cases hlt : k < C
    · go_wp2_with fail
      refine (rline_col R C k a cap xs _ ha' hR hC hlt).mono ?_
      rintro e w2 ⟨a2, n2, c2, rfl, hl, hb2⟩
      obtain rfl : R = n2 := by rw [← hl.len]; exact (colL_len _ _ _ _).symm
      have hv2 := hv'.below hb2 (Nat.le_refl _)
      have hown2 := OwnI.below hown hb2 
      go_wp2_with fail
      refine (rdot_calls a2 v _ c2 cv _ ys _ hl hv2 (by omega)).mono ?_
      rintro e w3 ⟨rfl, nd, hw3⟩
      have hb3 : Below (w.heap.size + 1) wr w3 := hw3 ▸ below_drewN (hb2.mono hsz) nd
      have hown3 : OwnI (w.heap.size + 1) w3 _ _ := hw3 ▸ hown2.drewN nd
      have hsz3 : w.heap.size + 1 ≤ w3.heap.size := Nat.le_trans hsz hb3.size
      clear hw3 hl hv2 hown2 ha' hv'
      go_wp2_with (at_builtin; refine wpList_append_int (by rfl) _ _ (by rfl) (w.heap.size + 1) _ ((List.range k).map (backG xs ys R C)) ((backG xs ys R C) k) w3.heap.size wr (by rfl) (by rfl) (by exact hown3.alloc _) (by exact cell_new _ _ _) (by simp; omega) (by simp; omega) (by exact hb3.alloc (by omega) _) ?_; intro v1 w4 hown1 hbel1)
      go_roundw
      case rel => exact ⟨k + 1, by omega, by go_num, hown1.congr (range_snoc _ _ _ rfl), hbel.trans hbel1⟩
      case measure => simp [intOf]; omega
    · obtain rfl : k = C := by omega
      obtain ⟨a1, c1, rfl, hl⟩ := hown.lst' (n := k) (by simp)
      go_wp2
      go_ret
      exact ⟨_, _, rfl, hl, hbw⟩

end Go.Proofs.Ytknmnailimkliaa.Fx
