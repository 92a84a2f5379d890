/- What vec's isSide, Check, checkBoth, row and column return, whatever matrix and list lie there. -/
import Derived.Test.YtnlcheebdkjpbabGreatJ03
import Derived.Test.YtnlcheebdkjpbabGreatJ00
namespace Go.Proofs.YtnlcheebdkjpbabGreat.Fx
open Go.RowKit

theorem side_calls (n : Int) (w : World) : Calls Tryz.prog 130 #[.int .i64 n] w fun e w' => e = .returned (.bool (sideB n)) ∧ w' = w := by
  by_cases h1 : 1 ≤ n
  · by_cases h2 : n ≤ 4
    · go_enter Tryz.func130, Tryz.ntmps130
      go_wp2
      go_ret
      exact ⟨ret_bool (by rw [sideB_mk h1 h2]), rfl⟩
    · go_enter Tryz.func130, Tryz.ntmps130
      go_wp2
      go_ret
      exact ⟨ret_bool (by rw [sideB_false (by omega)]), rfl⟩
  · go_enter Tryz.func130, Tryz.ntmps130
    go_wp2
    go_ret
    exact ⟨ret_bool (by rw [sideB_false (by omega)]), rfl⟩

set_option maxHeartbeats 800000 in
theorem check_calls (r c : Int) (a : Option Addr) (len cap : Nat) (xs : List Int) (w : World) (ha : Lst w a len cap xs) :
    Calls Tryz.prog 131 #[.agg #[.int .i64 r, .int .i64 c, .slice a len cap]] w fun e w' => e = .returned (.int .i64 (chkI r c len xs)) ∧ Below w.heap.size w w' := by
  have hal := (Below.refl w.heap.size w).alloc (Nat.le_refl _) (.cells #[.int .i64 r, .int .i64 c, .slice a len cap] 73)
  cases hr : sideB r with
  | false =>
    go_enter Tryz.func131, Tryz.ntmps131
    go_wp2_with (go_at_call 130; refine (side_calls _ _).mono ?_; rintro e w' ⟨rfl, rfl⟩)
    go_ret
    exact ⟨ret_int (by simp [chkI, hr]), hal⟩
  | true =>
    cases hc : sideB c with
    | false =>
      go_enter Tryz.func131, Tryz.ntmps131
      go_wp2_with (go_at_call 130; refine (side_calls _ _).mono ?_; rintro e w' ⟨rfl, rfl⟩)
      go_ret
      exact ⟨ret_int (by simp [chkI, hc]), hal⟩
    | true =>
      have br := sideB_true hr
      have bc := sideB_true hc
      have bp := prod_side br.1 br.2 bc.1 bc.2
      by_cases hl : (len : Int) = r * c
      · have ht : ((len : Int) != r * c) = false := by rw [bne_eq_false_iff_eq]; exact hl
        have HL : Hid ((len : Int) = r * c) := hl
        have hlen : len ≤ 16 := by omega
        clear hl
        have ha' := ha.below hal (Nat.le_refl _)
        clear ha
        go_enter Tryz.func131, Tryz.ntmps131
        go_wp2_with (go_at_call 130; refine (side_calls _ _).mono ?_; rintro e w' ⟨rfl, rfl⟩)
        go_loopw [27] (fun i wr => ∃ k : Nat, k ≤ len ∧ i = .int .i64 k ∧ Hid (∀ j, j < k → xs.getD j 0 = clampI (xs.getD j 0)) ∧ wr = w.alloc (.cells #[.int .i64 r, .int .i64 c, .slice a len cap] 73)) (fun i _ => len - (intOf i).toNat)
        case atStart => exact ⟨0, Nat.zero_le _, rfl, fun j hj => by omega, rfl⟩
        case round =>
          obtain ⟨k, hk, rfl, hg, rfl⟩ := hrel
          by_cases hlt : k < len
          · obtain ⟨b1, o1, x, rfl, s1, c1, HX⟩ := ha'.at1 hlt
            by_cases hx : x = clampI x
            · have hx' : (x != clampI x) = false := by rw [bne_eq_false_iff_eq]; exact hx
              have HC : Hid (x = clampI x) := hx
              clear hx
              go_wp2_with (go_at_call 66; refine (clamp_calls _ _).mono ?_; rintro e w' ⟨rfl, rfl⟩)
              go_roundw
              case rel => exact ⟨k + 1, by omega, by go_num, fun j hj => by
                by_cases e : j = k
                · subst e; rw [HX.out]; exact HC.out
                · exact hg.out j (by omega), by trivial⟩
              case measure => simp [intOf]; omega
            · have hx' : (x != clampI x) = true := by rw [bne_iff_ne]; exact hx
              go_wp2_with (go_at_call 66; refine (clamp_calls _ _).mono ?_; rintro e w' ⟨rfl, rfl⟩)
              go_ret
              exact ⟨ret_int (by simp only [chkI, hr, hc, and_self, if_true, rightB_false (k := k) (by rw [HX.out]; exact hx), Bool.false_eq_true, and_false, if_false]), hal⟩
          · go_wp2
            go_ret
            exact ⟨ret_int (by simp only [chkI, hr, hc, and_self, if_true, HL.out, rightB_true (fun j hj => hg.out j (by have := ha'.len; omega))]), hal⟩
      · have ht : ((len : Int) != r * c) = true := by rw [bne_iff_ne]; exact hl
        go_enter Tryz.func131, Tryz.ntmps131
        go_wp2_with (go_at_call 130; refine (side_calls _ _).mono ?_; rintro e w' ⟨rfl, rfl⟩)
        go_ret
        exact ⟨ret_int (by simp only [chkI, hr, hc, and_self, if_true, hl, false_and, if_false]), hal⟩

set_option maxHeartbeats 800000 in
theorem both_calls (r c : Int) (a : Option Addr) (len cap : Nat) (xs : List Int) (v : Option Addr) (lv cv : Nat) (side : Int) (w : World) (ha : Lst w a len cap xs) :
    Calls Tryz.prog 127 #[.agg #[.int .i64 r, .int .i64 c, .slice a len cap], .slice v lv cv, .int .i64 side] w fun e w' => e = .returned (.int .i64 (bothI r c len xs lv side)) ∧ Below w.heap.size w w' := by
  have hal := (Below.refl w.heap.size w).alloc (Nat.le_refl _) (.cells #[.int .i64 r, .int .i64 c, .slice a len cap] 73)
  have hal2 := hal.alloc hal.size (.cells #[.slice v lv cv] 26)
  have ha' := ha.below hal2 (Nat.le_refl _)
  clear hal ha
  by_cases hl : 200 < lv
  · have hd : decide (200 < lv) = true := decide_eq_true hl
    go_enter Tryz.func127, Tryz.ntmps127
    go_wp2_with (go_at_call 108; refine (long1 _ _ _ _ _ (by simp)).mono ?_; rintro e w' ⟨rfl, rfl⟩; rw [hd])
    go_ret
    exact ⟨ret_int (by simp only [bothI, if_pos hl]), hal2⟩
  · have hd : decide (200 < lv) = false := decide_eq_false hl
    rcases chkI_cases r c len xs with h0 | ⟨h0, h1, h2⟩
    · have H0 : Hid (chkI r c len xs = 0) := h0
      clear h0
      by_cases hs : (lv : Int) = side
      · have ht : ((lv : Int) != side) = false := by rw [bne_eq_false_iff_eq]; exact hs
        have HS : Hid ((lv : Int) = side) := hs
        clear hs
        go_enter Tryz.func127, Tryz.ntmps127
        go_wp2_with (first | (go_at_call 108; refine (long1 _ _ _ _ _ (by simp)).mono ?_; rintro e w' ⟨rfl, rfl⟩; rw [hd]) | (go_at_call 131; refine (check_calls _ _ _ _ _ xs _ ha').mono ?_; rintro e w' ⟨rfl, hw⟩; rw [H0.out]))
        go_ret
        exact ⟨ret_int (by simp only [bothI, if_neg hl, if_pos H0.out, if_pos HS.out]), hal2.trans (hw.mono hal2.size)⟩
      · have ht : ((lv : Int) != side) = true := by rw [bne_iff_ne]; exact hs
        go_enter Tryz.func127, Tryz.ntmps127
        go_wp2_with (first | (go_at_call 108; refine (long1 _ _ _ _ _ (by simp)).mono ?_; rintro e w' ⟨rfl, rfl⟩; rw [hd]) | (go_at_call 131; refine (check_calls _ _ _ _ _ xs _ ha').mono ?_; rintro e w' ⟨rfl, hw⟩; rw [H0.out]))
        go_ret
        exact ⟨ret_int (by simp only [bothI, if_neg hl, if_pos H0.out, if_neg hs]), hal2.trans (hw.mono hal2.size)⟩
    · go_enter Tryz.func127, Tryz.ntmps127
      go_wp2_with (first | (go_at_call 108; refine (long1 _ _ _ _ _ (by simp)).mono ?_; rintro e w' ⟨rfl, rfl⟩; rw [hd]) | (go_at_call 131; refine (check_calls _ _ _ _ _ xs _ ha').mono ?_; rintro e w' ⟨rfl, hw⟩))
      go_ret
      exact ⟨ret_int (by simp only [bothI, if_neg hl, if_neg h0]), hal2.trans (hw.mono hal2.size)⟩

set_option maxHeartbeats 800000 in
theorem row_calls (R C k : Nat) (a : Option Addr) (cap : Nat) (xs : List Int) (w : World) (ha : Lst w a (R * C) cap xs) (hR : R ≤ 4) (hC0 : 1 ≤ C) (hC : C ≤ 4) (hk : k < R) :
    Calls Tryz.prog 139 #[.agg #[.int .i64 R, .int .i64 C, .slice a (R * C) cap], .int .i64 k] w fun e w' => ∃ a' c', e = .returned (.slice a' C c') ∧ Lst w' a' C c' (rowL xs C k) ∧ Below w.heap.size w w' := by
  have hal := (Below.refl w.heap.size w).alloc (Nat.le_refl _) (.cells #[.int .i64 R, .int .i64 C, .slice a (R * C) cap] 73)
  have h1 : (k + 1) * C ≤ R * C := Nat.mul_le_mul_right _ hk
  have h2 := prod_sideN hR hC
  have h3 : (k + 1) * C = k * C + C := Nat.succ_mul _ _
  have h4 := ha.cap
  have e1 : ((k : Int) + 1) * (C : Int) = ((k * C + C : Nat) : Int) := by rw [← h3]; push_cast; rfl
  have i1 : 0 ≤ ((k : Int) + 1) * (C : Int) := by omega
  have i2 : ((k : Int) + 1) * (C : Int) ≤ (cap : Int) := by omega
  have i3 : (k : Int) * (C : Int) ≤ ((k : Int) + 1) * (C : Int) := by rw [e1]; push_cast; omega
  have i4 : ((k : Int) + 1) * (C : Int) ≤ 16 := by omega
  have e2 : (((k : Int) + 1) * (C : Int)).toNat = k * C + C := by omega
  clear e1
  have hs := (ha.below hal (Nat.le_refl _))
  obtain ⟨b, off, rfl, _, _⟩ := ha.at (by omega)
  have hs := hs.sub (by omega) (k * C) (k * C + C) (by omega) (by omega)
  rw [Nat.add_sub_cancel_left, sub_range _ _ _ (by rw [ha.len]; omega)] at hs
  have hne : ¬ cap = k * C := by omega
  clear h3 ha
  go_enter Tryz.func139, Tryz.ntmps139
  go_wp2
  go_ret
  refine ⟨some ⟨b, off + k * C, none⟩, cap - k * C, ?_, hs, hal⟩
  show Ending.returned (.slice _ (k * C + C - k * C) _) = _
  rw [Nat.add_sub_cancel_left]

set_option maxHeartbeats 800000 in
theorem column_calls (R C k : Nat) (a : Option Addr) (cap : Nat) (xs : List Int) (w : World) (ha : Lst w a (R * C) cap xs) (hR : R ≤ 4) (hC : C ≤ 4) (hk : k < C) :
    Calls Tryz.prog 129 #[.agg #[.int .i64 R, .int .i64 C, .slice a (R * C) cap], .int .i64 k] w fun e w' => ∃ a' c', e = .returned (.slice a' R c') ∧ Lst w' a' R c' (colL xs R C k) ∧ Below w.heap.size w w' := by
  have hal := (Below.refl w.heap.size w).alloc (Nat.le_refl _) (.cells #[.int .i64 R, .int .i64 C, .slice a (R * C) cap] 73)
  have h2 := prod_sideN hR hC
  have hmk := run_make_row' (P := Tryz.prog) 26 3 (.int .i64 0) 8 Tryz.underlying26 info3 rfl .i64 .i64 R (by omega) (by omega)
  go_enter Tryz.func129, Tryz.ntmps129
  go_wp2
  go_loopw [12] (fun i wr => ∃ j : Nat, j ≤ R ∧ i = .int .i64 j ∧ wr.rowIs (w.heap.size + 1) 3 R (rowTo (fun i => xs.getD (i * C + k) 0) j) ∧ Below (w.heap.size + 1) (w.alloc (.cells #[.int .i64 R, .int .i64 C, .slice a (R * C) cap] 73)) wr) (fun i _ => R - (intOf i).toNat)
  case atStart => exact ⟨0, Nat.zero_le _, rfl, rowTo_made (by have h := World.rowIs_made (w.alloc (.cells #[.int .i64 R, .int .i64 C, .slice a (R * C) cap] 73)) (.int .i64 0) R 3; simpa using h), (Below.refl _ _).alloc (by simp) _⟩
  case round =>
    obtain ⟨j, hj, rfl, hrow, hbel⟩ := hrel
    have hbw := hal.trans (hbel.mono (by omega))
    have ha' := ha.below hbw (Nat.le_refl _)
    clear ha hal hmk
    by_cases hlt : j < R
    · have m1 : (j + 1) * C ≤ R * C := Nat.mul_le_mul_right _ hlt
      have m2 : (j + 1) * C = j * C + C := Nat.succ_mul _ _
      obtain ⟨b1, o1, x, rfl, _, c1, HX⟩ := ha'.at1 (k := j * C + k) (by omega)
      obtain ⟨_, f1, f2⟩ := box3 _ _ _ _ hbel (Nat.lt_succ_self _)
      have c3 := rowTo_cell hrow hlt
      have f3 := hrow.frozen j
      have i0 : (0 : Int) ≤ (j : Int) * (C : Int) := by exact_mod_cast Nat.zero_le (j * C)
      have i2 : (j : Int) * (C : Int) + (k : Int) < (R : Int) * (C : Int) := by exact_mod_cast (by omega : j * C + k < R * C)
      have i3 : (R : Int) * (C : Int) ≤ 16 := by exact_mod_cast h2
      clear m2
      go_wp2
      go_roundw
      case rel =>
        have st := rowTo_step (g := fun i => xs.getD (i * C + k) 0) hrow
        simp only [HX.out] at st
        exact ⟨j + 1, by omega, by go_num, st, hbel.setCell (by simp) _⟩
      case measure => simp [intOf]; omega
    · go_wp2
      go_ret
      obtain rfl : j = R := by omega
      exact ⟨_, _, rfl, rowTo_lst hrow, hbw⟩
end Go.Proofs.YtnlcheebdkjpbabGreat.Fx

/- What vec.Mul and vec.Back return, whatever matrix and list lie there. -/
namespace Go.Proofs.YtnlcheebdkjpbabGreat.Fx
open Go.RowKit

theorem rowIs_below {w w' : World} {b t n : Nat} {f : Nat → Value} {B : Nat} (h : w.rowIs b t n f) (hb : Below B w w') (hB : b < B) : w'.rowIs b t n f := h.of_block (hb.block b hB)

set_option maxHeartbeats 1600000 in
theorem vMul_calls (r c : Int) (a : Option Addr) (len cap : Nat) (xs : List Int) (v : Option Addr) (lv cv : Nat) (ys : List Int) (w : World) (ha : Lst w a len cap xs) (hv : Lst w v lv cv ys) :
    Calls Tryz.prog 135 #[.agg #[.int .i64 r, .int .i64 c, .slice a len cap], .slice v lv cv] w fun e w' => ∃ a' n, e = .returned (.tuple #[.slice a' n n, .int .i64 (bothI r c len xs lv c)]) ∧ n ≤ 200 ∧ Lst w' a' n n (mulL r c len xs lv ys) ∧ Below w.heap.size w w' := by
  unfold mulL
  have hal := (Below.refl w.heap.size w).alloc (Nat.le_refl _) (.cells #[.int .i64 r, .int .i64 c, .slice a len cap] 73)
  have ha0 := ha.below hal (Nat.le_refl _)
  rcases bothI_cases r c len xs lv c with ⟨h0, hl, hz, hc⟩ | ⟨h0, h1⟩
  · rw [if_pos h0]
    have H0 : Hid (bothI r c len xs lv c = 0) := h0
    clear h0
    obtain ⟨R, C, rfl, rfl, hR1, hR2, hC1, hC2, rfl, _⟩ := chkI_zero hz
    obtain rfl : lv = C := by omega
    clear hz hc
    have hmk := run_make_row' (P := Tryz.prog) 26 3 (.int .i64 0) 8 Tryz.underlying26 info3 rfl .i64 .i64 R (by omega) (by omega)
    simp only [Int.toNat_natCast]
    go_enter Tryz.func135, Tryz.ntmps135
    go_wp2_with (go_at_call 127; refine (both_calls _ _ _ _ _ xs _ _ _ _ _ ha0).mono ?_; rintro e w1 ⟨rfl, hw1⟩; rw [H0.out]; obtain ⟨f0, f1, f2⟩ := box3 _ _ _ _ hw1 (by simp))
    have hbw1 := hal.trans (hw1.mono hal.size)
    have hs1 : w.heap.size < w1.heap.size := by have := hw1.size; simp at this; omega
    go_loopw [22] (fun i wr => ∃ j : Nat, j ≤ R ∧ i = .int .i64 j ∧ wr.rowIs w1.heap.size 3 R (rowTo (mulG xs ys lv) j) ∧ Below w1.heap.size w1 wr) (fun i _ => R - (intOf i).toNat)
    case atStart => exact ⟨0, Nat.zero_le _, rfl, rowTo_made (World.rowIs_made _ _ _ _), (Below.refl _ _).alloc (Nat.le_refl _) _⟩
    case round =>
      obtain ⟨j, hj, rfl, hrow, hbel⟩ := hrel
      have hbw := hbw1.trans (hbel.mono (by omega))
      have ha' := ha.below hbw (Nat.le_refl _)
      have hv' := hv.below hbw (Nat.le_refl _)
      have g0 := (hbel.cell (p := ⟨w.heap.size, 0, none⟩) hs1).trans f0
      have g1 := (hbel.cell (p := ⟨w.heap.size, 1, none⟩) hs1).trans f1
      have g2 := (hbel.cell (p := ⟨w.heap.size, 2, none⟩) hs1).trans f2
      have hlt1 := hrow.lt
      clear ha hv hal hmk ha0 hw1 f0 f1 f2
      by_cases hlt : j < R
      · go_wp2_with fail
        refine (row_calls R lv j a cap xs _ ha' hR2 hC1 hC2 hlt).mono ?_
        rintro e w2 ⟨a2, c2, rfl, hrw, hb2⟩
        have hv2 := hv'.below hb2 (Nat.le_refl _)
        have hrow2 := rowIs_below hrow hb2 hlt1
        go_wp2_with fail
        refine (dot_calls a2 v lv c2 cv _ ys _ hrw hv2 (by omega)).mono ?_
        rintro e w3 ⟨rfl, nd, rfl⟩
        have c3 := rowTo_cell hrow2 hlt
        have f3 := hrow2.frozen j
        go_wp2
        go_roundw
        case rel =>
          have st := rowTo_step (g := mulG xs ys lv) hrow2
          exact ⟨j + 1, by omega, by go_num, rowIs_drewN st _, below_drewN ((hbel.trans (hb2.mono hbel.size)).setCell (Nat.le_refl _) _) _⟩
        case measure => simp [intOf]; omega
      · go_wp2
        go_ret2
        obtain rfl : j = R := by omega
        exact ⟨_, _, by rw [H0.out]; rfl, by omega, rowTo_lst hrow, hbw⟩
  · rw [if_neg h0]
    clear ha hv h0
    go_enter Tryz.func135, Tryz.ntmps135
    go_wp2_with (go_at_call 127; refine (both_calls _ _ _ _ _ xs _ _ _ _ _ ha0).mono ?_; rintro e w1 ⟨rfl, hw1⟩)
    go_ret2
    exact ⟨_, _, rfl, Nat.zero_le _, Lst.nil _ _ _, hal.trans (hw1.mono hal.size)⟩

set_option maxHeartbeats 1600000 in
theorem vBack_calls (r c : Int) (a : Option Addr) (len cap : Nat) (xs : List Int) (v : Option Addr) (lv cv : Nat) (ys : List Int) (w : World) (ha : Lst w a len cap xs) (hv : Lst w v lv cv ys) :
    Calls Tryz.prog 115 #[.agg #[.int .i64 r, .int .i64 c, .slice a len cap], .slice v lv cv] w fun e w' => ∃ a' n, e = .returned (.tuple #[.slice a' n n, .int .i64 (bothI r c len xs lv r)]) ∧ n ≤ 200 ∧ Lst w' a' n n (backL r c len xs lv ys) ∧ Below w.heap.size w w' := by
  unfold backL
  have hal := (Below.refl w.heap.size w).alloc (Nat.le_refl _) (.cells #[.int .i64 r, .int .i64 c, .slice a len cap] 73)
  have ha0 := ha.below hal (Nat.le_refl _)
  rcases bothI_cases r c len xs lv r with ⟨h0, hl, hz, hc⟩ | ⟨h0, h1⟩
  · rw [if_pos h0]
    have H0 : Hid (bothI r c len xs lv r = 0) := h0
    clear h0
    obtain ⟨R, C, rfl, rfl, hR1, hR2, hC1, hC2, rfl, _⟩ := chkI_zero hz
    obtain rfl : lv = R := by omega
    clear hz hc
    have hmk := run_make_row' (P := Tryz.prog) 26 3 (.int .i64 0) 8 Tryz.underlying26 info3 rfl .i64 .i64 C (by omega) (by omega)
    simp only [Int.toNat_natCast]
    go_enter Tryz.func115, Tryz.ntmps115
    go_wp2_with (go_at_call 127; refine (both_calls _ _ _ _ _ xs _ _ _ _ _ ha0).mono ?_; rintro e w1 ⟨rfl, hw1⟩; rw [H0.out]; obtain ⟨f0, f1, f2⟩ := box3 _ _ _ _ hw1 (by simp))
    have hbw1 := hal.trans (hw1.mono hal.size)
    have hs1 : w.heap.size < w1.heap.size := by have := hw1.size; simp at this; omega
    go_loopw [22] (fun i wr => ∃ j : Nat, j ≤ C ∧ i = .int .i64 j ∧ wr.rowIs w1.heap.size 3 C (rowTo (backG xs ys lv C) j) ∧ Below w1.heap.size w1 wr) (fun i _ => C - (intOf i).toNat)
    case atStart => exact ⟨0, Nat.zero_le _, rfl, rowTo_made (World.rowIs_made _ _ _ _), (Below.refl _ _).alloc (Nat.le_refl _) _⟩
    case round =>
      obtain ⟨j, hj, rfl, hrow, hbel⟩ := hrel
      have hbw := hbw1.trans (hbel.mono (by omega))
      have ha' := ha.below hbw (Nat.le_refl _)
      have hv' := hv.below hbw (Nat.le_refl _)
      have g0 := (hbel.cell (p := ⟨w.heap.size, 0, none⟩) hs1).trans f0
      have g1 := (hbel.cell (p := ⟨w.heap.size, 1, none⟩) hs1).trans f1
      have g2 := (hbel.cell (p := ⟨w.heap.size, 2, none⟩) hs1).trans f2
      have hlt1 := hrow.lt
      clear ha hv hal hmk ha0 hw1 f0 f1 f2
      by_cases hlt : j < C
      · go_wp2_with fail
        refine (column_calls lv C j a cap xs _ ha' hR2 hC2 hlt).mono ?_
        rintro e w2 ⟨a2, c2, rfl, hrw, hb2⟩
        have hv2 := hv'.below hb2 (Nat.le_refl _)
        have hrow2 := rowIs_below hrow hb2 hlt1
        go_wp2_with fail
        refine (dot_calls a2 v lv c2 cv _ ys _ hrw hv2 (by omega)).mono ?_
        rintro e w3 ⟨rfl, nd, rfl⟩
        have c3 := rowTo_cell hrow2 hlt
        have f3 := hrow2.frozen j
        go_wp2
        go_roundw
        case rel =>
          have st := rowTo_step (g := backG xs ys lv C) hrow2
          exact ⟨j + 1, by omega, by go_num, rowIs_drewN st _, below_drewN ((hbel.trans (hb2.mono hbel.size)).setCell (Nat.le_refl _) _) _⟩
        case measure => simp [intOf]; omega
      · go_wp2
        go_ret2
        obtain rfl : j = C := by omega
        exact ⟨_, _, by rw [H0.out]; rfl, by omega, rowTo_lst hrow, hbw⟩
  · rw [if_neg h0]
    clear ha hv h0
    go_enter Tryz.func115, Tryz.ntmps115
    go_wp2_with (go_at_call 127; refine (both_calls _ _ _ _ _ xs _ _ _ _ _ ha0).mono ?_; rintro e w1 ⟨rfl, hw1⟩)
    go_ret2
    exact ⟨_, _, rfl, Nat.zero_le _, Lst.nil _ _ _, hal.trans (hw1.mono hal.size)⟩
end Go.Proofs.YtnlcheebdkjpbabGreat.Fx
