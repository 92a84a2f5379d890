/- What vec.Mul and vec.Back return, whatever matrix and list lie there. -/
import Derived.Test.YtfcnnolpcnacoaaGreatDoorJ05
namespace Go.Proofs.YtfcnnolpcnacoaaGreatDoor.Fx
open Go.RowKit

theorem rowIs_below {w w' : World} {b t n : Nat} {f : Nat → Value} {B : Nat} (h : w.rowIs b t n f) (hb : Below B w w') (hB : b < B) : w'.rowIs b t n f := h.of_block (hb.block b hB)

set_option maxHeartbeats 1600000 in
theorem vMul_calls (r c : Int) (a : Option Addr) (len cap : Nat) (xs : List Int) (v : Option Addr) (lv cv : Nat) (ys : List Int) (w : World) (ha : Lst w a len cap xs) (hv : Lst w v lv cv ys) :
    Calls Tryz.prog 167 #[.agg #[.int .i64 r, .int .i64 c, .slice a len cap], .slice v lv cv] w fun e w' => ∃ a' n, e = .returned (.tuple #[.slice a' n n, .int .i64 (bothI r c len xs lv c)]) ∧ n ≤ 200 ∧ Lst w' a' n n (mulL r c len xs lv ys) ∧ Below w.heap.size w w' := by
  unfold mulL
  have hal := (Below.refl w.heap.size w).alloc (Nat.le_refl _) (.cells #[.int .i64 r, .int .i64 c, .slice a len cap] 138)
  have ha0 := ha.below hal (Nat.le_refl _)
  rcases bothI_cases r c len xs lv c with ⟨h0, hl, hz, hc⟩ | ⟨h0, h1⟩
  · rw [if_pos h0]
    have H0 : Hid (bothI r c len xs lv c = 0) := h0
    clear h0
    obtain ⟨R, C, rfl, rfl, hR1, hR2, hC1, hC2, rfl, _⟩ := chkI_zero hz
    obtain rfl : lv = C := by omega
    clear hz hc
    have hmk := run_make_row' (P := Tryz.prog) 26 3 (.int .i64 0) 8 Tryz.underlying26 info3 rfl .i64 .i64 R (by omega) (by omega)
    simp only [Int.toNat_natCast]
    go_enter Tryz.func167, Tryz.ntmps167
    go_wp2_with (go_at_call 154; refine (both_calls _ _ _ _ _ xs _ _ _ _ _ ha0).mono ?_; rintro e w1 ⟨rfl, hw1⟩; rw [H0.out]; obtain ⟨f0, f1, f2⟩ := box3 _ _ _ _ hw1 (by simp))
    have hbw1 := hal.trans (hw1.mono hal.size)
    have hs1 : w.heap.size < w1.heap.size := by have := hw1.size; simp at this; omega
    go_loopw [22] (fun i wr => ∃ j : Nat, j ≤ R ∧ i = .int .i64 j ∧ wr.rowIs w1.heap.size 3 R (rowTo (mulG xs ys lv) j) ∧ Below w1.heap.size w1 wr) (fun i _ => R - (intOf i).toNat)
    case atStart => exact ⟨0, Nat.zero_le _, rfl, rowTo_made (World.rowIs_made _ _ _ _), (Below.refl _ _).alloc (Nat.le_refl _) _⟩
    case round =>
      obtain ⟨j, hj, rfl, hrow, hbel⟩ := hrel
      have hbw := hbw1.trans (hbel.mono (by omega))
      have ha' := ha.below hbw (Nat.le_refl _)
      have hv' := hv.below hbw (Nat.le_refl _)
      have g0 := (hbel.cell (p := ⟨w.heap.size, 0, none⟩) hs1).trans f0
      have g1 := (hbel.cell (p := ⟨w.heap.size, 1, none⟩) hs1).trans f1
      have g2 := (hbel.cell (p := ⟨w.heap.size, 2, none⟩) hs1).trans f2
      have hlt1 := hrow.lt
      clear ha hv hal hmk ha0 hw1 f0 f1 f2
      by_cases hlt : j < R
      · go_wp2_with fail
        refine (row_calls R lv j a cap xs _ ha' hR2 hC1 hC2 hlt).mono ?_
        rintro e w2 ⟨a2, c2, rfl, hrw, hb2⟩
        have hv2 := hv'.below hb2 (Nat.le_refl _)
        have hrow2 := rowIs_below hrow hb2 hlt1
        go_wp2_with fail
        refine (dot_calls a2 v lv c2 cv _ ys _ hrw hv2 (by omega)).mono ?_
        rintro e w3 ⟨rfl, nd, rfl⟩
        have c3 := rowTo_cell hrow2 hlt
        have f3 := hrow2.frozen j
        go_wp2
        go_roundw
        case rel =>
          have st := rowTo_step (g := mulG xs ys lv) hrow2
          exact ⟨j + 1, by omega, by go_num, rowIs_drewN st _, below_drewN ((hbel.trans (hb2.mono hbel.size)).setCell (Nat.le_refl _) _) _⟩
        case measure => simp [intOf]; omega
      · go_wp2
        go_ret2
        obtain rfl : j = R := by omega
        exact ⟨_, _, by rw [H0.out]; rfl, by omega, rowTo_lst hrow, hbw⟩
  · rw [if_neg h0]
    clear ha hv h0
    go_enter Tryz.func167, Tryz.ntmps167
    go_wp2_with (go_at_call 154; refine (both_calls _ _ _ _ _ xs _ _ _ _ _ ha0).mono ?_; rintro e w1 ⟨rfl, hw1⟩)
    go_ret2
    exact ⟨_, _, rfl, Nat.zero_le _, Lst.nil _ _ _, hal.trans (hw1.mono hal.size)⟩

set_option maxHeartbeats 1600000 in
theorem vBack_calls (r c : Int) (a : Option Addr) (len cap : Nat) (xs : List Int) (v : Option Addr) (lv cv : Nat) (ys : List Int) (w : World) (ha : Lst w a len cap xs) (hv : Lst w v lv cv ys) :
    Calls Tryz.prog 129 #[.agg #[.int .i64 r, .int .i64 c, .slice a len cap], .slice v lv cv] w fun e w' => ∃ a' n, e = .returned (.tuple #[.slice a' n n, .int .i64 (bothI r c len xs lv r)]) ∧ n ≤ 200 ∧ Lst w' a' n n (backL r c len xs lv ys) ∧ Below w.heap.size w w' := by
  unfold backL
  have hal := (Below.refl w.heap.size w).alloc (Nat.le_refl _) (.cells #[.int .i64 r, .int .i64 c, .slice a len cap] 138)
  have ha0 := ha.below hal (Nat.le_refl _)
  rcases bothI_cases r c len xs lv r with ⟨h0, hl, hz, hc⟩ | ⟨h0, h1⟩
  · rw [if_pos h0]
    have H0 : Hid (bothI r c len xs lv r = 0) := h0
    clear h0
    obtain ⟨R, C, rfl, rfl, hR1, hR2, hC1, hC2, rfl, _⟩ := chkI_zero hz
    obtain rfl : lv = R := by omega
    clear hz hc
    have hmk := run_make_row' (P := Tryz.prog) 26 3 (.int .i64 0) 8 Tryz.underlying26 info3 rfl .i64 .i64 C (by omega) (by omega)
    simp only [Int.toNat_natCast]
    go_enter Tryz.func129, Tryz.ntmps129
    go_wp2_with (go_at_call 154; refine (both_calls _ _ _ _ _ xs _ _ _ _ _ ha0).mono ?_; rintro e w1 ⟨rfl, hw1⟩; rw [H0.out]; obtain ⟨f0, f1, f2⟩ := box3 _ _ _ _ hw1 (by simp))
    have hbw1 := hal.trans (hw1.mono hal.size)
    have hs1 : w.heap.size < w1.heap.size := by have := hw1.size; simp at this; omega
    go_loopw [22] (fun i wr => ∃ j : Nat, j ≤ C ∧ i = .int .i64 j ∧ wr.rowIs w1.heap.size 3 C (rowTo (backG xs ys lv C) j) ∧ Below w1.heap.size w1 wr) (fun i _ => C - (intOf i).toNat)
    case atStart => exact ⟨0, Nat.zero_le _, rfl, rowTo_made (World.rowIs_made _ _ _ _), (Below.refl _ _).alloc (Nat.le_refl _) _⟩
    case round =>
      obtain ⟨j, hj, rfl, hrow, hbel⟩ := hrel
      have hbw := hbw1.trans (hbel.mono (by omega))
      have ha' := ha.below hbw (Nat.le_refl _)
      have hv' := hv.below hbw (Nat.le_refl _)
      have g0 := (hbel.cell (p := ⟨w.heap.size, 0, none⟩) hs1).trans f0
      have g1 := (hbel.cell (p := ⟨w.heap.size, 1, none⟩) hs1).trans f1
      have g2 := (hbel.cell (p := ⟨w.heap.size, 2, none⟩) hs1).trans f2
      have hlt1 := hrow.lt
      clear ha hv hal hmk ha0 hw1 f0 f1 f2
      by_cases hlt : j < C
      · go_wp2_with fail
        refine (column_calls lv C j a cap xs _ ha' hR2 hC2 hlt).mono ?_
        rintro e w2 ⟨a2, c2, rfl, hrw, hb2⟩
        have hv2 := hv'.below hb2 (Nat.le_refl _)
        have hrow2 := rowIs_below hrow hb2 hlt1
        go_wp2_with fail
        refine (dot_calls a2 v lv c2 cv _ ys _ hrw hv2 (by omega)).mono ?_
        rintro e w3 ⟨rfl, nd, rfl⟩
        have c3 := rowTo_cell hrow2 hlt
        have f3 := hrow2.frozen j
        go_wp2
        go_roundw
        case rel =>
          have st := rowTo_step (g := backG xs ys lv C) hrow2
          exact ⟨j + 1, by omega, by go_num, rowIs_drewN st _, below_drewN ((hbel.trans (hb2.mono hbel.size)).setCell (Nat.le_refl _) _) _⟩
        case measure => simp [intOf]; omega
      · go_wp2
        go_ret2
        obtain rfl : j = C := by omega
        exact ⟨_, _, by rw [H0.out]; rfl, by omega, rowTo_lst hrow, hbw⟩
  · rw [if_neg h0]
    clear ha hv h0
    go_enter Tryz.func129, Tryz.ntmps129
    go_wp2_with (go_at_call 154; refine (both_calls _ _ _ _ _ xs _ _ _ _ _ ha0).mono ?_; rintro e w1 ⟨rfl, hw1⟩)
    go_ret2
    exact ⟨_, _, rfl, Nat.zero_le _, Lst.nil _ _ _, hal.trans (hw1.mono hal.size)⟩
end Go.Proofs.YtfcnnolpcnacoaaGreatDoor.Fx
