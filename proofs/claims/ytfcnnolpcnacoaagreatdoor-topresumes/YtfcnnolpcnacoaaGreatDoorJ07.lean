/- What vec.Sum and vec.Back return of what fits: a row of their own; and what pupil.less and pupil.layer return. -/
import Derived.Test.YtfcnnolpcnacoaaGreatDoorJ06
import Derived.Test.YtfcnnolpcnacoaaGreatDoorJ00
namespace Go.Proofs.YtfcnnolpcnacoaaGreatDoor.Fx
open Go.RowKit

def plusG (xs ys : List Int) (i : Nat) : Int := addI (xs.getD i 0) (ys.getD i 0)
def lessG (xs ys : List Int) (i : Nat) : Int := subI (xs.getD i 0) (ys.getD i 0)

set_option maxHeartbeats 1600000 in
theorem vSum_row (a b : Option Addr) (la ca cb : Nat) (xs ys : List Int) (w : World) (ha : Lst w a la ca xs) (hb : Lst w b la cb ys) (hl : la ≤ 200) :
    Calls Tryz.prog 96 #[.slice a la ca, .slice b la cb] w fun e w' => ∃ g, e = .returned (.tuple #[.slice (some ⟨g, 0, none⟩) la la, .int .i64 0]) ∧ w.heap.size ≤ g ∧ w'.rowIs g 3 la (rowTo (plusG xs ys) la) ∧ Below w.heap.size w w' := by
  have H0 : Hid (twoI la la = 0) := by
    show twoI la la = 0
    unfold twoI
    rw [if_neg (by omega), if_pos rfl]
  have hmk := run_make_row' (P := Tryz.prog) 26 3 (.int .i64 0) 8 Tryz.underlying26 info3 rfl .i64 .i64 la (by omega) (by omega)
  go_enter Tryz.func96, Tryz.ntmps96
  go_wp2_with (go_at_call 132; refine (two_calls _ _ _ _ _ _ _).mono ?_; rintro e w1 ⟨rfl, hw⟩; rw [H0.out])
  go_loopw [20] (fun i wr => ∃ k : Nat, k ≤ la ∧ i = .int .i64 k ∧ wr.rowIs w1.heap.size 3 la (rowTo (plusG xs ys) k) ∧ Below w.heap.size w wr) (fun i _ => la - (intOf i).toNat)
  case atStart => exact ⟨0, Nat.zero_le _, rfl, rowTo_made (World.rowIs_made _ _ _ _), hw.alloc hw.size _⟩
  case round =>
    obtain ⟨k, hk, rfl, hrow, hbel⟩ := hrel
    have ha' := ha.below hbel (Nat.le_refl _)
    have hb' := hb.below hbel (Nat.le_refl _)
    have hsz := hw.size
    clear ha hb hw hmk
    by_cases hlt : k < la
    · obtain ⟨b1, o1, x, rfl, _, c1, HX⟩ := ha'.at1 hlt
      obtain ⟨b2, o2, y, rfl, _, c2, HY⟩ := hb'.at1 hlt
      have c3 := rowTo_cell hrow hlt
      have f3 := hrow.frozen k
      go_wp2
      go_region_with ((go_at_call 133; refine (add_calls _ _ _).mono ?_; rintro e w' ⟨rfl, rfl⟩))
      all_goals go_wp2
      all_goals
        go_roundw
        case rel =>
          have st := rowTo_step (g := plusG xs ys) hrow
          simp only [plusG, HX.out, HY.out] at st
          exact ⟨k + 1, by omega, by go_num, st, (hbel.setCell (by omega) _).drew⟩
        case measure => simp [intOf]; omega
    · go_wp2
      go_ret2
      obtain rfl : k = la := by omega
      exact ⟨_, rfl, hsz, hrow, hbel⟩

set_option maxHeartbeats 1600000 in
theorem vBack_row (R C : Nat) (a : Option Addr) (cap : Nat) (xs : List Int) (v : Option Addr) (cv : Nat) (ys : List Int) (w : World) (ha : Lst w a (R * C) cap xs) (hv : Lst w v R cv ys) (hR1 : 1 ≤ R) (hR2 : R ≤ 4) (hC1 : 1 ≤ C) (hC2 : C ≤ 4) (hx : rightB xs = true) :
    Calls Tryz.prog 129 #[.agg #[.int .i64 R, .int .i64 C, .slice a (R * C) cap], .slice v R cv] w fun e w' => ∃ g, e = .returned (.tuple #[.slice (some ⟨g, 0, none⟩) C C, .int .i64 0]) ∧ w.heap.size ≤ g ∧ w'.rowIs g 3 C (rowTo (backG xs ys R C) C) ∧ Below w.heap.size w w' := by
  have hal := (Below.refl w.heap.size w).alloc (Nat.le_refl _) (.cells #[.int .i64 R, .int .i64 C, .slice a (R * C) cap] 138)
  have ha0 := ha.below hal (Nat.le_refl _)
  have H0 : Hid (bothI R C (R * C) xs R R = 0) := by
    show bothI R C (R * C) xs R R = 0
    unfold bothI
    rw [if_neg (by omega), if_pos (chkI_mk hR1 hR2 hC1 hC2 hx), if_pos rfl]
  have hmk := run_make_row' (P := Tryz.prog) 26 3 (.int .i64 0) 8 Tryz.underlying26 info3 rfl .i64 .i64 C (by omega) (by omega)
  go_enter Tryz.func129, Tryz.ntmps129
  go_wp2_with (go_at_call 154; refine (both_calls _ _ _ _ _ xs _ _ _ _ _ ha0).mono ?_; rintro e w1 ⟨rfl, hw1⟩; rw [H0.out]; obtain ⟨f0, f1, f2⟩ := box3 _ _ _ _ hw1 (by simp))
  have hbw1 := hal.trans (hw1.mono hal.size)
  have hs1 : w.heap.size < w1.heap.size := by have := hw1.size; simp at this; omega
  go_loopw [22] (fun i wr => ∃ j : Nat, j ≤ C ∧ i = .int .i64 j ∧ wr.rowIs w1.heap.size 3 C (rowTo (backG xs ys R C) j) ∧ Below w1.heap.size w1 wr) (fun i _ => C - (intOf i).toNat)
  case atStart => exact ⟨0, Nat.zero_le _, rfl, rowTo_made (World.rowIs_made _ _ _ _), (Below.refl _ _).alloc (Nat.le_refl _) _⟩
  case round =>
    obtain ⟨j, hj, rfl, hrow, hbel⟩ := hrel
    have hbw := hbw1.trans (hbel.mono (by omega))
    have ha' := ha.below hbw (Nat.le_refl _)
    have hv' := hv.below hbw (Nat.le_refl _)
    have g0 := (hbel.cell (p := ⟨w.heap.size, 0, none⟩) hs1).trans f0
    have g1 := (hbel.cell (p := ⟨w.heap.size, 1, none⟩) hs1).trans f1
    have g2 := (hbel.cell (p := ⟨w.heap.size, 2, none⟩) hs1).trans f2
    have hlt1 := hrow.lt
    clear ha hv hal hmk ha0 hw1 f0 f1 f2
    by_cases hlt : j < C
    · go_wp2_with fail
      refine (column_calls R C j a cap xs _ ha' hR2 hC2 hlt).mono ?_
      rintro e w2 ⟨a2, c2, rfl, hrw, hb2⟩
      have hv2 := hv'.below hb2 (Nat.le_refl _)
      have hrow2 := rowIs_below hrow hb2 hlt1
      go_wp2_with fail
      refine (dot_calls a2 v R c2 cv _ ys _ hrw hv2 (by omega)).mono ?_
      rintro e w3 ⟨rfl, nd, rfl⟩
      have c3 := rowTo_cell hrow2 hlt
      have f3 := hrow2.frozen j
      go_wp2
      go_roundw
      case rel =>
        have st := rowTo_step (g := backG xs ys R C) hrow2
        exact ⟨j + 1, by omega, by go_num, rowIs_drewN st _, below_drewN ((hbel.trans (hb2.mono hbel.size)).setCell (Nat.le_refl _) _) _⟩
      case measure => simp [intOf]; omega
    · go_wp2
      go_ret2
      obtain rfl : j = C := by omega
      exact ⟨_, rfl, by have := hbw1.size; omega, hrow, hbw⟩

set_option maxHeartbeats 1600000 in
theorem less_calls (a b : Option Addr) (la ca cb : Nat) (xs ys : List Int) (w : World) (ha : Lst w a la ca xs) (hb : Lst w b la cb ys) (hl : la ≤ 200) :
    Calls Tryz.prog 128 #[.slice a la ca, .slice b la cb] w fun e w' => ∃ g, e = .returned (.slice (some ⟨g, 0, none⟩) la la) ∧ w.heap.size ≤ g ∧ Lst w' (some ⟨g, 0, none⟩) la la ((List.range la).map (lessG xs ys)) ∧ Below w.heap.size w w' := by
  have hmk := run_make_row' (P := Tryz.prog) 26 3 (.int .i64 0) 8 Tryz.underlying26 info3 rfl .i64 .i64 la (by omega) (by omega)
  go_enter Tryz.func128, Tryz.ntmps128
  go_wp2
  go_loopw [12] (fun i wr => ∃ k : Nat, k ≤ la ∧ i = .int .i64 k ∧ wr.rowIs w.heap.size 3 la (rowTo (lessG xs ys) k) ∧ Below w.heap.size w wr) (fun i _ => la - (intOf i).toNat)
  case atStart => exact ⟨0, Nat.zero_le _, rfl, rowTo_made (World.rowIs_made _ _ _ _), (Below.refl _ _).alloc (Nat.le_refl _) _⟩
  case round =>
    obtain ⟨k, hk, rfl, hrow, hbel⟩ := hrel
    have ha' := ha.below hbel (Nat.le_refl _)
    have hb' := hb.below hbel (Nat.le_refl _)
    clear ha hb hmk
    by_cases hlt : k < la
    · obtain ⟨b1, o1, x, rfl, _, c1, HX⟩ := ha'.at1 hlt
      obtain ⟨b2, o2, y, rfl, _, c2, HY⟩ := hb'.at1 hlt
      have c3 := rowTo_cell hrow hlt
      have f3 := hrow.frozen k
      go_wp2
      go_region_with ((go_at_call 134; refine (sub_calls _ _ _).mono ?_; rintro e w' ⟨rfl, rfl⟩))
      all_goals go_wp2
      all_goals
        go_roundw
        case rel =>
          have st := rowTo_step (g := lessG xs ys) hrow
          simp only [lessG, HX.out, HY.out] at st
          exact ⟨k + 1, by omega, by go_num, st, (hbel.setCell (Nat.le_refl _) _).drew⟩
        case measure => simp [intOf]; omega
    · go_wp2
      go_ret
      obtain rfl : k = la := by omega
      exact ⟨_, rfl, Nat.le_refl _, rowTo_lst hrow, hbel⟩

/-- A layer's numbers. -/
def layG (xs bs ys : List Int) (C i : Nat) : Int := addI (mulG xs ys C i) (bs.getD i 0)
theorem map_range_get (g : Nat → Int) (n i : Nat) (h : i < n) : ((List.range n).map g).getD i 0 = g i := by simp [h]

theorem vMul_good (R C : Nat) (a : Option Addr) (cap : Nat) (xs : List Int) (v : Option Addr) (cv : Nat) (ys : List Int) (w : World) (ha : Lst w a (R * C) cap xs) (hv : Lst w v C cv ys) (hR1 : 1 ≤ R) (hR2 : R ≤ 4) (hC1 : 1 ≤ C) (hC2 : C ≤ 4) (hx : rightB xs = true) :
    Calls Tryz.prog 167 #[.agg #[.int .i64 R, .int .i64 C, .slice a (R * C) cap], .slice v C cv] w fun e w' => ∃ a', e = .returned (.tuple #[.slice a' R R, .int .i64 0]) ∧ Lst w' a' R R ((List.range R).map (mulG xs ys C)) ∧ Below w.heap.size w w' := by
  have H0 : bothI R C (R * C) xs C C = 0 := by
    unfold bothI
    rw [if_neg (by omega), if_pos (chkI_mk hR1 hR2 hC1 hC2 hx), if_pos rfl]
  refine (vMul_calls R C a (R * C) cap xs v C cv ys w ha hv).mono ?_
  rintro e w' ⟨a', n, rfl, _, hl, hb⟩
  unfold mulL at hl
  rw [if_pos H0] at hl
  simp only [Int.toNat_natCast] at hl
  obtain rfl : R = n := by rw [← hl.len]; simp
  exact ⟨a', by rw [H0], hl, hb⟩

set_option maxHeartbeats 800000 in
theorem layer_calls (R C : Nat) (a : Option Addr) (cap : Nat) (xs : List Int) (b : Option Addr) (cb : Nat) (bs : List Int) (v : Option Addr) (cv : Nat) (ys : List Int) (w : World) (ha : Lst w a (R * C) cap xs) (hb : Lst w b R cb bs) (hv : Lst w v C cv ys) (hR1 : 1 ≤ R) (hR2 : R ≤ 4) (hC1 : 1 ≤ C) (hC2 : C ≤ 4) (hx : rightB xs = true) :
    Calls Tryz.prog 153 #[.agg #[.int .i64 R, .int .i64 C, .slice a (R * C) cap], .slice b R cb, .slice v C cv] w fun e w' => ∃ g, e = .returned (.slice (some ⟨g, 0, none⟩) R R) ∧ w.heap.size ≤ g ∧ w'.rowIs g 3 R (rowTo (layG xs bs ys C) R) ∧ Below w.heap.size w w' := by
  have hal := (Below.refl w.heap.size w).alloc (Nat.le_refl _) (.cells #[.int .i64 R, .int .i64 C, .slice a (R * C) cap] 138)
  have hcall := vMul_good R C a cap xs v cv ys _ (ha.below hal (Nat.le_refl _)) (hv.below hal (Nat.le_refl _)) hR1 hR2 hC1 hC2 hx
  go_enter Tryz.func153, Tryz.ntmps153
  go_wp2_with fail
  refine hcall.mono ?_
  rintro e w1 ⟨a1, rfl, hl1, hw1⟩
  have hbw := hal.trans (hw1.mono hal.size)
  have hcall2 := vSum_row a1 b R R cb _ bs w1 hl1 (hb.below hbw (Nat.le_refl _)) (by omega)
  clear hcall hal hw1 hl1
  go_wp2_with fail
  refine hcall2.mono ?_
  rintro e w2 ⟨g, rfl, hg, hrow, hw2⟩
  go_wp2
  go_ret
  refine ⟨g, rfl, Nat.le_trans hbw.size hg, hrow.congr (fun i hi => ?_), hbw.trans (hw2.mono hbw.size)⟩
  unfold rowTo plusG layG
  rw [if_pos hi, if_pos hi, map_range_get _ _ _ hi]
end Go.Proofs.YtfcnnolpcnacoaaGreatDoor.Fx
