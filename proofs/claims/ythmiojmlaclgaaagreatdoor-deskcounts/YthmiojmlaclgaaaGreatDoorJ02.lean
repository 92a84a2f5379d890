/- What draw.isCount, Shuffle and Batch return, whatever is handed in. -/
import Derived.Test.YthmiojmlaclgaaaGreatDoorJ01
import Derived.Test.YthmiojmlaclgaaaGreatDoorJ00
namespace Go.Proofs.YthmiojmlaclgaaaGreatDoor.Fx
open Go.RowKit

def cntB (n : Int) : Bool := decide (1 ≤ n) && decide (n ≤ 16)
theorem count_calls (n : Int) (w : World) : Calls Tryz.prog 181 #[.int .i64 n] w fun e w' => e = .returned (.bool (cntB n)) ∧ w' = w := by
  unfold cntB
  by_cases h1 : 1 ≤ n
  · by_cases h2 : n ≤ 16
    · go_enter Tryz.func181, Tryz.ntmps181
      go_wp2
      go_ret
      exact ⟨ret_bool (by simp [h1, h2]), rfl⟩
    · go_enter Tryz.func181, Tryz.ntmps181
      go_wp2
      go_ret
      exact ⟨ret_bool (by simp; omega), rfl⟩
  · go_enter Tryz.func181, Tryz.ntmps181
    go_wp2
    go_ret
    exact ⟨ret_bool (by simp; omega), rfl⟩
theorem cnt_yes {n : Int} (h : 1 ≤ n ∧ n ≤ 16) : cntB n = true := by unfold cntB; simp; omega
def okS (epoch n : Int) : Prop := (1 ≤ n ∧ n ≤ 16) ∧ 0 ≤ epoch ∧ epoch ≤ 1000
instance (epoch n : Int) : Decidable (okS epoch n) := by unfold okS; infer_instance
/-- The order that serves ahead of number k of a batch from s on. -/
def NowIs (seed : Int) (n s k base : Nat) (v : Value) (w : World) : Prop := k = 0 ∨ ∃ b c, v = .slice (some ⟨b, 0, none⟩) n c ∧ base < b ∧ Arr w b c n (shufF seed ((s + (k - 1)) / n) n)

theorem NowIs.next {seed : Int} {n s k base b c d : Nat} {w : World} (hA : Arr w b c n (shufF seed d n)) (hb : base < b) (hd : (s + k) / n = d) : NowIs seed n s (k + 1) base (.slice (some ⟨b, 0, none⟩) n c) w := by
  subst hd
  exact .inr ⟨b, c, rfl, hb, hA⟩
theorem NowIs.before {seed : Int} {n s k base : Nat} {v : Value} {w : World} (h : NowIs seed n s k base v w) (hk : k ≠ 0) : ∃ b c, v = .slice (some ⟨b, 0, none⟩) n c ∧ base < b ∧ Arr w b c n (shufF seed ((s + (k - 1)) / n) n) := by
  rcases h with h | h
  · exact absurd h hk
  · exact h

set_option maxRecDepth 100000 in
set_option maxHeartbeats 1600000 in
theorem batch_good (seed : Int) (hs : okW seed) (size n step : Nat) (z1 : 1 ≤ size) (z2 : size ≤ 8) (h1 : 1 ≤ n) (h2 : n ≤ 16) (hp : step ≤ 39) (w : World) :
    Calls Tryz.prog 132 #[.int .u64 seed, .int .i64 size, .int .i64 n, .int .i64 step] w fun e w' => ∃ b, e = .returned (.tuple #[.slice (some ⟨b, 0, none⟩) size size, .int .i64 0]) ∧ w.heap.size ≤ b ∧ Arr w' b size size (batchG seed n (step * size)) ∧ Below w.heap.size w w' := by
  have HC : Hid (cntB (n : Int) = true) := cnt_yes ⟨by omega, by omega⟩
  have hmul : step * size ≤ 39 * 8 := Nat.mul_le_mul hp z2
  obtain ⟨s, hsz⟩ : ∃ s, step * size = s := ⟨_, rfl⟩
  have e1 : (step : Int) * (size : Int) = (s : Int) := by rw [← hsz]; simp
  rw [hsz] at hmul ⊢
  have hmk := run_make_row' (P := Tryz.prog) 66 3 (.int .i64 0) 8 Tryz.underlying66 info3 rfl .i64 .i64 size (by omega) (by omega)
  clear hsz
  go_enter Tryz.func132, Tryz.ntmps132
  go_wp2_with (go_at_call 181; refine (count_calls _ _).mono ?_; rintro e w' ⟨rfl, hw'⟩; replace hw' := hw'.symm; subst hw'; rw [HC.out])
  go_loopw [11, 37] (fun v i wr => ∃ k : Nat, k ≤ size ∧ i = .int .i64 k ∧ NowIs seed n s k w.heap.size v wr ∧ wr.rowIs w.heap.size 3 size (rowTo (batchG seed n s) k) ∧ Below w.heap.size w wr) (fun _ i _ => size - (intOf i).toNat)
  case atStart => exact ⟨0, Nat.zero_le _, rfl, .inl rfl, rowTo_made (World.rowIs_made _ _ _ _), (Below.refl _ _).alloc (Nat.le_refl _) _⟩
  case round =>
    obtain ⟨k, hk, rfl, hnow, hrow, hbel⟩ := hrel
    clear hmk
    by_cases hlt : k < size
    · obtain ⟨t, ht⟩ : ∃ t, s + k = t := ⟨_, rfl⟩
      obtain ⟨d, hd⟩ : ∃ d, t / n = d := ⟨_, rfl⟩
      obtain ⟨r, hr⟩ : ∃ r, t % n = r := ⟨_, rfl⟩
      have hrn : r < n := by rw [← hr]; exact Nat.mod_lt _ (by omega)
      have hdm : n * d + r = t := by rw [← hd, ← hr]; exact Nat.div_add_mod t n
      have hdt : d ≤ t := by rw [← hd]; exact Nat.div_le_self _ _
      have HG : Hid (batchG seed n s k = shufF seed d n r) := by show batchG seed n s k = _; unfold batchG; rw [ht, hd, hr]
      have e2 : (s : Int) + (k : Int) = (t : Int) := by omega
      have e3 : (t : Int).tdiv (n : Int) = (d : Int) := by rw [← hd]; exact Int.ofNat_tdiv t n
      have e4 : (t : Int).tmod (n : Int) = (r : Int) := by rw [← hr]; exact Int.ofNat_tmod t n
      have hn0 : ((n : Int) == 0) = false := by rw [beq_eq_false_iff_ne]; omega
      have hlr := hrow.lt
      by_cases hk0 : k = 0
      · have b0 : ((k : Int) == 0) = true := by rw [beq_iff_eq]; omega
        clear hnow hk0
        go_wp2_with fail
        refine (order_calls _ hs d n (by omega) h1 h2 _).mono ?_
        rintro e w2 ⟨b, rfl, hb, hA, hw2⟩
        replace hrow := hrow.of_block (hw2.block _ hlr)
        have c3 := rowTo_cell hrow hlt
        have f3 := hrow.frozen k
        have hbl := hbel.trans (hw2.mono hbel.size)
        have c4 := hA.cell hrn
        obtain ⟨x, hx⟩ : ∃ x, shufF seed d n r = x := ⟨_, rfl⟩
        rw [hx] at c4 HG
        have st := rowTo_step (g := batchG seed n s) hrow
        rw [HG.out] at st
        clear hx
        go_wp2
        go_roundw
        case rel => exact ⟨k + 1, by omega, by go_num, NowIs.next (hA.setOther (show b ≠ w.heap.size by omega) _) (by omega) (by rw [ht, hd]), st, hbl.setCell (Nat.le_refl _) _⟩
        case measure => simp [intOf]; omega
      · have b0 : ((k : Int) == 0) = false := by rw [beq_eq_false_iff_ne]; omega
        by_cases hr0 : r = 0
        · have b1 : ((r : Int) == 0) = true := by rw [beq_iff_eq]; omega
          clear hnow hr0
          go_wp2_with fail
          refine (order_calls _ hs d n (by omega) h1 h2 _).mono ?_
          rintro e w2 ⟨b, rfl, hb, hA, hw2⟩
          replace hrow := hrow.of_block (hw2.block _ hlr)
          have c3 := rowTo_cell hrow hlt
          have f3 := hrow.frozen k
          have hbl := hbel.trans (hw2.mono hbel.size)
          have c4 := hA.cell hrn
          obtain ⟨x, hx⟩ : ∃ x, shufF seed d n r = x := ⟨_, rfl⟩
          rw [hx] at c4 HG
          have st := rowTo_step (g := batchG seed n s) hrow
          rw [HG.out] at st
          clear hx
          go_wp2
          go_roundw
          case rel => exact ⟨k + 1, by omega, by go_num, NowIs.next (hA.setOther (show b ≠ w.heap.size by omega) _) (by omega) (by rw [ht, hd]), st, hbl.setCell (Nat.le_refl _) _⟩
          case measure => simp [intOf]; omega
        · have b1 : ((r : Int) == 0) = false := by rw [beq_eq_false_iff_ne]; omega
          obtain ⟨b, c, rfl, hb, hA⟩ := hnow.before hk0
          rw [day_goes ht hdm hrn hk0 hr0] at hA
          have c3 := rowTo_cell hrow hlt
          have f3 := hrow.frozen k
          have c4 := hA.cell hrn
          obtain ⟨x, hx⟩ : ∃ x, shufF seed d n r = x := ⟨_, rfl⟩
          rw [hx] at c4 HG
          have st := rowTo_step (g := batchG seed n s) hrow
          rw [HG.out] at st
          clear hx
          go_wp2
          go_roundw
          case rel => exact ⟨k + 1, by omega, by go_num, NowIs.next (hA.setOther (show b ≠ w.heap.size by omega) _) (by omega) (by rw [ht, hd]), st, hbel.setCell (Nat.le_refl _) _⟩
          case measure => simp [intOf]; omega
    · obtain rfl : k = size := by omega
      go_wp2
      go_ret2
      exact ⟨_, rfl, Nat.le_refl _, Arr.row hrow, hbel⟩

/-- Whether a size, a count and a step are such as may be. -/
def okB (size n step : Int) : Prop := (1 ≤ size ∧ size ≤ 8) ∧ (1 ≤ n ∧ n ≤ 16) ∧ 0 ≤ step ∧ step ≤ 39
instance (size n step : Int) : Decidable (okB size n step) := by unfold okB; infer_instance
def batchL (seed size n step : Int) : List Int := if okB size n step then batchP seed size.toNat n.toNat (step.toNat * size.toNat) else []

end Go.Proofs.YthmiojmlaclgaaaGreatDoor.Fx

/- What vec's isSide, Check, checkBoth, row and column return, whatever matrix and list lie there. -/
namespace Go.Proofs.YthmiojmlaclgaaaGreatDoor.Fx
open Go.RowKit

theorem side_calls (n : Int) (w : World) : Calls Tryz.prog 222 #[.int .i64 n] w fun e w' => e = .returned (.bool (sideB n)) ∧ w' = w := by
  by_cases h1 : 1 ≤ n
  · by_cases h2 : n ≤ 4
    · go_enter Tryz.func222, Tryz.ntmps222
      go_wp2
      go_ret
      exact ⟨ret_bool (by rw [sideB_mk h1 h2]), rfl⟩
    · go_enter Tryz.func222, Tryz.ntmps222
      go_wp2
      go_ret
      exact ⟨ret_bool (by rw [sideB_false (by omega)]), rfl⟩
  · go_enter Tryz.func222, Tryz.ntmps222
    go_wp2
    go_ret
    exact ⟨ret_bool (by rw [sideB_false (by omega)]), rfl⟩

set_option maxHeartbeats 800000 in
theorem check_calls (r c : Int) (a : Option Addr) (len cap : Nat) (xs : List Int) (w : World) (ha : Lst w a len cap xs) :
    Calls Tryz.prog 196 #[.agg #[.int .i64 r, .int .i64 c, .slice a len cap]] w fun e w' => e = .returned (.int .i64 (chkI r c len xs)) ∧ Below w.heap.size w w' := by
  have hal := (Below.refl w.heap.size w).alloc (Nat.le_refl _) (.cells #[.int .i64 r, .int .i64 c, .slice a len cap] 100)
  cases hr : sideB r with
  | false =>
    go_enter Tryz.func196, Tryz.ntmps196
    go_wp2_with (go_at_call 222; refine (side_calls _ _).mono ?_; rintro e w' ⟨rfl, rfl⟩)
    go_ret
    exact ⟨ret_int (by simp [chkI, hr]), hal⟩
  | true =>
    cases hc : sideB c with
    | false =>
      go_enter Tryz.func196, Tryz.ntmps196
      go_wp2_with (go_at_call 222; refine (side_calls _ _).mono ?_; rintro e w' ⟨rfl, rfl⟩)
      go_ret
      exact ⟨ret_int (by simp [chkI, hc]), hal⟩
    | true =>
      have br := sideB_true hr
      have bc := sideB_true hc
      have bp := prod_side br.1 br.2 bc.1 bc.2
      by_cases hl : (len : Int) = r * c
      · have ht : ((len : Int) != r * c) = false := by rw [bne_eq_false_iff_eq]; exact hl
        have HL : Hid ((len : Int) = r * c) := hl
        have hlen : len ≤ 16 := by omega
        clear hl
        have ha' := ha.below hal (Nat.le_refl _)
        clear ha
        go_enter Tryz.func196, Tryz.ntmps196
        go_wp2_with (go_at_call 222; refine (side_calls _ _).mono ?_; rintro e w' ⟨rfl, rfl⟩)
        go_loopw [27] (fun i wr => ∃ k : Nat, k ≤ len ∧ i = .int .i64 k ∧ Hid (∀ j, j < k → xs.getD j 0 = clampI (xs.getD j 0)) ∧ wr = w.alloc (.cells #[.int .i64 r, .int .i64 c, .slice a len cap] 100)) (fun i _ => len - (intOf i).toNat)
        case atStart => exact ⟨0, Nat.zero_le _, rfl, fun j hj => by omega, rfl⟩
        case round =>
          obtain ⟨k, hk, rfl, hg, rfl⟩ := hrel
          by_cases hlt : k < len
          · obtain ⟨b1, o1, x, rfl, s1, c1, HX⟩ := ha'.at1 hlt
            by_cases hx : x = clampI x
            · have hx' : (x != clampI x) = false := by rw [bne_eq_false_iff_eq]; exact hx
              have HC : Hid (x = clampI x) := hx
              clear hx
              go_wp2_with (go_at_call 137; refine (clamp_calls _ _).mono ?_; rintro e w' ⟨rfl, rfl⟩)
              go_roundw
              case rel => exact ⟨k + 1, by omega, by go_num, fun j hj => by
                by_cases e : j = k
                · subst e; rw [HX.out]; exact HC.out
                · exact hg.out j (by omega), by trivial⟩
              case measure => simp [intOf]; omega
            · have hx' : (x != clampI x) = true := by rw [bne_iff_ne]; exact hx
              go_wp2_with (go_at_call 137; refine (clamp_calls _ _).mono ?_; rintro e w' ⟨rfl, rfl⟩)
              go_ret
              exact ⟨ret_int (by simp only [chkI, hr, hc, and_self, if_true, rightB_false (k := k) (by rw [HX.out]; exact hx), Bool.false_eq_true, and_false, if_false]), hal⟩
          · go_wp2
            go_ret
            exact ⟨ret_int (by simp only [chkI, hr, hc, and_self, if_true, HL.out, rightB_true (fun j hj => hg.out j (by have := ha'.len; omega))]), hal⟩
      · have ht : ((len : Int) != r * c) = true := by rw [bne_iff_ne]; exact hl
        go_enter Tryz.func196, Tryz.ntmps196
        go_wp2_with (go_at_call 222; refine (side_calls _ _).mono ?_; rintro e w' ⟨rfl, rfl⟩)
        go_ret
        exact ⟨ret_int (by simp only [chkI, hr, hc, and_self, if_true, hl, false_and, if_false]), hal⟩

set_option maxHeartbeats 800000 in
theorem both_calls (r c : Int) (a : Option Addr) (len cap : Nat) (xs : List Int) (v : Option Addr) (lv cv : Nat) (side : Int) (w : World) (ha : Lst w a len cap xs) :
    Calls Tryz.prog 223 #[.agg #[.int .i64 r, .int .i64 c, .slice a len cap], .slice v lv cv, .int .i64 side] w fun e w' => e = .returned (.int .i64 (bothI r c len xs lv side)) ∧ Below w.heap.size w w' := by
  have hal := (Below.refl w.heap.size w).alloc (Nat.le_refl _) (.cells #[.int .i64 r, .int .i64 c, .slice a len cap] 100)
  have hal2 := hal.alloc hal.size (.cells #[.slice v lv cv] 66)
  have ha' := ha.below hal2 (Nat.le_refl _)
  clear hal ha
  by_cases hl : 200 < lv
  · have hd : decide (200 < lv) = true := decide_eq_true hl
    go_enter Tryz.func223, Tryz.ntmps223
    go_wp2_with (go_at_call 199; refine (long1 _ _ _ _ _ (by simp)).mono ?_; rintro e w' ⟨rfl, rfl⟩; rw [hd])
    go_ret
    exact ⟨ret_int (by simp only [bothI, if_pos hl]), hal2⟩
  · have hd : decide (200 < lv) = false := decide_eq_false hl
    rcases chkI_cases r c len xs with h0 | ⟨h0, h1, h2⟩
    · have H0 : Hid (chkI r c len xs = 0) := h0
      clear h0
      by_cases hs : (lv : Int) = side
      · have ht : ((lv : Int) != side) = false := by rw [bne_eq_false_iff_eq]; exact hs
        have HS : Hid ((lv : Int) = side) := hs
        clear hs
        go_enter Tryz.func223, Tryz.ntmps223
        go_wp2_with (first | (go_at_call 199; refine (long1 _ _ _ _ _ (by simp)).mono ?_; rintro e w' ⟨rfl, rfl⟩; rw [hd]) | (go_at_call 196; refine (check_calls _ _ _ _ _ xs _ ha').mono ?_; rintro e w' ⟨rfl, hw⟩; rw [H0.out]))
        go_ret
        exact ⟨ret_int (by simp only [bothI, if_neg hl, if_pos H0.out, if_pos HS.out]), hal2.trans (hw.mono hal2.size)⟩
      · have ht : ((lv : Int) != side) = true := by rw [bne_iff_ne]; exact hs
        go_enter Tryz.func223, Tryz.ntmps223
        go_wp2_with (first | (go_at_call 199; refine (long1 _ _ _ _ _ (by simp)).mono ?_; rintro e w' ⟨rfl, rfl⟩; rw [hd]) | (go_at_call 196; refine (check_calls _ _ _ _ _ xs _ ha').mono ?_; rintro e w' ⟨rfl, hw⟩; rw [H0.out]))
        go_ret
        exact ⟨ret_int (by simp only [bothI, if_neg hl, if_pos H0.out, if_neg hs]), hal2.trans (hw.mono hal2.size)⟩
    · go_enter Tryz.func223, Tryz.ntmps223
      go_wp2_with (first | (go_at_call 199; refine (long1 _ _ _ _ _ (by simp)).mono ?_; rintro e w' ⟨rfl, rfl⟩; rw [hd]) | (go_at_call 196; refine (check_calls _ _ _ _ _ xs _ ha').mono ?_; rintro e w' ⟨rfl, hw⟩))
      go_ret
      exact ⟨ret_int (by simp only [bothI, if_neg hl, if_neg h0]), hal2.trans (hw.mono hal2.size)⟩

set_option maxHeartbeats 800000 in
theorem row_calls (R C k : Nat) (a : Option Addr) (cap : Nat) (xs : List Int) (w : World) (ha : Lst w a (R * C) cap xs) (hR : R ≤ 4) (hC0 : 1 ≤ C) (hC : C ≤ 4) (hk : k < R) :
    Calls Tryz.prog 224 #[.agg #[.int .i64 R, .int .i64 C, .slice a (R * C) cap], .int .i64 k] w fun e w' => ∃ a' c', e = .returned (.slice a' C c') ∧ Lst w' a' C c' (rowL xs C k) ∧ Below w.heap.size w w' := by
  have hal := (Below.refl w.heap.size w).alloc (Nat.le_refl _) (.cells #[.int .i64 R, .int .i64 C, .slice a (R * C) cap] 100)
  have h1 : (k + 1) * C ≤ R * C := Nat.mul_le_mul_right _ hk
  have h2 := prod_sideN hR hC
  have h3 : (k + 1) * C = k * C + C := Nat.succ_mul _ _
  have h4 := ha.cap
  have e1 : ((k : Int) + 1) * (C : Int) = ((k * C + C : Nat) : Int) := by rw [← h3]; push_cast; rfl
  have i1 : 0 ≤ ((k : Int) + 1) * (C : Int) := by omega
  have i2 : ((k : Int) + 1) * (C : Int) ≤ (cap : Int) := by omega
  have i3 : (k : Int) * (C : Int) ≤ ((k : Int) + 1) * (C : Int) := by rw [e1]; push_cast; omega
  have i4 : ((k : Int) + 1) * (C : Int) ≤ 16 := by omega
  have e2 : (((k : Int) + 1) * (C : Int)).toNat = k * C + C := by omega
  clear e1
  have hs := (ha.below hal (Nat.le_refl _))
  obtain ⟨b, off, rfl, _, _⟩ := ha.at (by omega)
  have hs := hs.sub (by omega) (k * C) (k * C + C) (by omega) (by omega)
  rw [Nat.add_sub_cancel_left, sub_range _ _ _ (by rw [ha.len]; omega)] at hs
  have hne : ¬ cap = k * C := by omega
  clear h3 ha
  go_enter Tryz.func224, Tryz.ntmps224
  go_wp2
  go_ret
  refine ⟨some ⟨b, off + k * C, none⟩, cap - k * C, ?_, hs, hal⟩
  show Ending.returned (.slice _ (k * C + C - k * C) _) = _
  rw [Nat.add_sub_cancel_left]

set_option maxHeartbeats 800000 in
theorem column_calls (R C k : Nat) (a : Option Addr) (cap : Nat) (xs : List Int) (w : World) (ha : Lst w a (R * C) cap xs) (hR : R ≤ 4) (hC : C ≤ 4) (hk : k < C) :
    Calls Tryz.prog 234 #[.agg #[.int .i64 R, .int .i64 C, .slice a (R * C) cap], .int .i64 k] w fun e w' => ∃ a' c', e = .returned (.slice a' R c') ∧ Lst w' a' R c' (colL xs R C k) ∧ Below w.heap.size w w' := by
  have hal := (Below.refl w.heap.size w).alloc (Nat.le_refl _) (.cells #[.int .i64 R, .int .i64 C, .slice a (R * C) cap] 100)
  have h2 := prod_sideN hR hC
  have hmk := run_make_row' (P := Tryz.prog) 66 3 (.int .i64 0) 8 Tryz.underlying66 info3 rfl .i64 .i64 R (by omega) (by omega)
  go_enter Tryz.func234, Tryz.ntmps234
  go_wp2
  go_loopw [12] (fun i wr => ∃ j : Nat, j ≤ R ∧ i = .int .i64 j ∧ wr.rowIs (w.heap.size + 1) 3 R (rowTo (fun i => xs.getD (i * C + k) 0) j) ∧ Below (w.heap.size + 1) (w.alloc (.cells #[.int .i64 R, .int .i64 C, .slice a (R * C) cap] 100)) wr) (fun i _ => R - (intOf i).toNat)
  case atStart => exact ⟨0, Nat.zero_le _, rfl, rowTo_made (by have h := World.rowIs_made (w.alloc (.cells #[.int .i64 R, .int .i64 C, .slice a (R * C) cap] 100)) (.int .i64 0) R 3; simpa using h), (Below.refl _ _).alloc (by simp) _⟩
  case round =>
    obtain ⟨j, hj, rfl, hrow, hbel⟩ := hrel
    have hbw := hal.trans (hbel.mono (by omega))
    have ha' := ha.below hbw (Nat.le_refl _)
    clear ha hal hmk
    by_cases hlt : j < R
    · have m1 : (j + 1) * C ≤ R * C := Nat.mul_le_mul_right _ hlt
      have m2 : (j + 1) * C = j * C + C := Nat.succ_mul _ _
      obtain ⟨b1, o1, x, rfl, _, c1, HX⟩ := ha'.at1 (k := j * C + k) (by omega)
      obtain ⟨_, f1, f2⟩ := box3 _ _ _ _ hbel (Nat.lt_succ_self _)
      have c3 := rowTo_cell hrow hlt
      have f3 := hrow.frozen j
      have i0 : (0 : Int) ≤ (j : Int) * (C : Int) := by exact_mod_cast Nat.zero_le (j * C)
      have i2 : (j : Int) * (C : Int) + (k : Int) < (R : Int) * (C : Int) := by exact_mod_cast (by omega : j * C + k < R * C)
      have i3 : (R : Int) * (C : Int) ≤ 16 := by exact_mod_cast h2
      clear m2
      go_wp2
      go_roundw
      case rel =>
        have st := rowTo_step (g := fun i => xs.getD (i * C + k) 0) hrow
        simp only [HX.out] at st
        exact ⟨j + 1, by omega, by go_num, st, hbel.setCell (by simp) _⟩
      case measure => simp [intOf]; omega
    · go_wp2
      go_ret
      obtain rfl : j = R := by omega
      exact ⟨_, _, rfl, rowTo_lst hrow, hbw⟩
end Go.Proofs.YthmiojmlaclgaaaGreatDoor.Fx

/- What vec.Mul and vec.Back return, whatever matrix and list lie there. -/
namespace Go.Proofs.YthmiojmlaclgaaaGreatDoor.Fx
open Go.RowKit

theorem rowIs_below {w w' : World} {b t n : Nat} {f : Nat → Value} {B : Nat} (h : w.rowIs b t n f) (hb : Below B w w') (hB : b < B) : w'.rowIs b t n f := h.of_block (hb.block b hB)

set_option maxHeartbeats 1600000 in
theorem vMul_calls (r c : Int) (a : Option Addr) (len cap : Nat) (xs : List Int) (v : Option Addr) (lv cv : Nat) (ys : List Int) (w : World) (ha : Lst w a len cap xs) (hv : Lst w v lv cv ys) :
    Calls Tryz.prog 197 #[.agg #[.int .i64 r, .int .i64 c, .slice a len cap], .slice v lv cv] w fun e w' => ∃ a' n, e = .returned (.tuple #[.slice a' n n, .int .i64 (bothI r c len xs lv c)]) ∧ n ≤ 200 ∧ Lst w' a' n n (mulL r c len xs lv ys) ∧ Below w.heap.size w w' := by
  unfold mulL
  have hal := (Below.refl w.heap.size w).alloc (Nat.le_refl _) (.cells #[.int .i64 r, .int .i64 c, .slice a len cap] 100)
  have ha0 := ha.below hal (Nat.le_refl _)
  rcases bothI_cases r c len xs lv c with ⟨h0, hl, hz, hc⟩ | ⟨h0, h1⟩
  · rw [if_pos h0]
    have H0 : Hid (bothI r c len xs lv c = 0) := h0
    clear h0
    obtain ⟨R, C, rfl, rfl, hR1, hR2, hC1, hC2, rfl, _⟩ := chkI_zero hz
    obtain rfl : lv = C := by omega
    clear hz hc
    have hmk := run_make_row' (P := Tryz.prog) 66 3 (.int .i64 0) 8 Tryz.underlying66 info3 rfl .i64 .i64 R (by omega) (by omega)
    simp only [Int.toNat_natCast]
    go_enter Tryz.func197, Tryz.ntmps197
    go_wp2_with (go_at_call 223; refine (both_calls _ _ _ _ _ xs _ _ _ _ _ ha0).mono ?_; rintro e w1 ⟨rfl, hw1⟩; rw [H0.out]; obtain ⟨f0, f1, f2⟩ := box3 _ _ _ _ hw1 (by simp))
    have hbw1 := hal.trans (hw1.mono hal.size)
    have hs1 : w.heap.size < w1.heap.size := by have := hw1.size; simp at this; omega
    go_loopw [22] (fun i wr => ∃ j : Nat, j ≤ R ∧ i = .int .i64 j ∧ wr.rowIs w1.heap.size 3 R (rowTo (mulG xs ys lv) j) ∧ Below w1.heap.size w1 wr) (fun i _ => R - (intOf i).toNat)
    case atStart => exact ⟨0, Nat.zero_le _, rfl, rowTo_made (World.rowIs_made _ _ _ _), (Below.refl _ _).alloc (Nat.le_refl _) _⟩
    case round =>
      obtain ⟨j, hj, rfl, hrow, hbel⟩ := hrel
      have hbw := hbw1.trans (hbel.mono (by omega))
      have ha' := ha.below hbw (Nat.le_refl _)
      have hv' := hv.below hbw (Nat.le_refl _)
      have g0 := (hbel.cell (p := ⟨w.heap.size, 0, none⟩) hs1).trans f0
      have g1 := (hbel.cell (p := ⟨w.heap.size, 1, none⟩) hs1).trans f1
      have g2 := (hbel.cell (p := ⟨w.heap.size, 2, none⟩) hs1).trans f2
      have hlt1 := hrow.lt
      clear ha hv hal hmk ha0 hw1 f0 f1 f2
      by_cases hlt : j < R
      · go_wp2_with fail
        refine (row_calls R lv j a cap xs _ ha' hR2 hC1 hC2 hlt).mono ?_
        rintro e w2 ⟨a2, c2, rfl, hrw, hb2⟩
        have hv2 := hv'.below hb2 (Nat.le_refl _)
        have hrow2 := rowIs_below hrow hb2 hlt1
        go_wp2_with fail
        refine (dot_calls a2 v lv c2 cv _ ys _ hrw hv2 (by omega)).mono ?_
        rintro e w3 ⟨rfl, nd, rfl⟩
        have c3 := rowTo_cell hrow2 hlt
        have f3 := hrow2.frozen j
        go_wp2
        go_roundw
        case rel =>
          have st := rowTo_step (g := mulG xs ys lv) hrow2
          exact ⟨j + 1, by omega, by go_num, rowIs_drewN st _, below_drewN ((hbel.trans (hb2.mono hbel.size)).setCell (Nat.le_refl _) _) _⟩
        case measure => simp [intOf]; omega
      · go_wp2
        go_ret2
        obtain rfl : j = R := by omega
        exact ⟨_, _, by rw [H0.out]; rfl, by omega, rowTo_lst hrow, hbw⟩
  · rw [if_neg h0]
    clear ha hv h0
    go_enter Tryz.func197, Tryz.ntmps197
    go_wp2_with (go_at_call 223; refine (both_calls _ _ _ _ _ xs _ _ _ _ _ ha0).mono ?_; rintro e w1 ⟨rfl, hw1⟩)
    go_ret2
    exact ⟨_, _, rfl, Nat.zero_le _, Lst.nil _ _ _, hal.trans (hw1.mono hal.size)⟩

end Go.Proofs.YthmiojmlaclgaaaGreatDoor.Fx
