/- What draw.isCount, Shuffle and Batch return, whatever is handed in. -/
import Derived.Test.YtnlniiocoamllaeDrawA
namespace Go.Proofs.Ytnlniiocoamllae.Fx
open Go.RowKit

def cntB (n : Int) : Bool := decide (1 ≤ n) && decide (n ≤ 16)
theorem count_calls (n : Int) (w : World) : Calls Try.prog 30 #[.int .i64 n] w fun e w' => e = .returned (.bool (cntB n)) ∧ w' = w := by
  unfold cntB
  by_cases h1 : 1 ≤ n
  · by_cases h2 : n ≤ 16
    · go_enter Try.func30, Try.ntmps30
      go_wp2
      go_ret
      exact ⟨ret_bool (by simp [h1, h2]), rfl⟩
    · go_enter Try.func30, Try.ntmps30
      go_wp2
      go_ret
      exact ⟨ret_bool (by simp; omega), rfl⟩
  · go_enter Try.func30, Try.ntmps30
    go_wp2
    go_ret
    exact ⟨ret_bool (by simp; omega), rfl⟩
theorem cnt_yes {n : Int} (h : 1 ≤ n ∧ n ≤ 16) : cntB n = true := by unfold cntB; simp; omega
theorem cnt_no {n : Int} (h : ¬ (1 ≤ n ∧ n ≤ 16)) : cntB n = false := by unfold cntB; simp; omega

def okS (epoch n : Int) : Prop := (1 ≤ n ∧ n ≤ 16) ∧ 0 ≤ epoch ∧ epoch ≤ 1000
instance (epoch n : Int) : Decidable (okS epoch n) := by unfold okS; infer_instance
def errS (epoch n : Int) : Int := if okS epoch n then 0 else 1
def shufL (seed epoch n : Int) : List Int := if okS epoch n then shufP seed epoch.toNat n.toNat else []

theorem shuffle_good (seed : Int) (hs : okW seed) (epoch n : Nat) (he : epoch ≤ 1000) (h1 : 1 ≤ n) (h2 : n ≤ 16) (w : World) :
    Calls Try.prog 17 #[.int .u64 seed, .int .i64 epoch, .int .i64 n] w fun e w' => ∃ b, e = .returned (.tuple #[.slice (some ⟨b, 0, none⟩) n n, .int .i64 0]) ∧ w.heap.size ≤ b ∧ Arr w' b n n (shufF seed epoch n) ∧ Below w.heap.size w w' := by
  have HC : Hid (cntB (n : Int) = true) := cnt_yes ⟨by omega, by omega⟩
  go_enter Try.func17, Try.ntmps17
  go_wp2_with (first | (go_at_call 30; refine (count_calls _ _).mono ?_; rintro e w' ⟨rfl, hw'⟩; replace hw' := hw'.symm; subst hw'; rw [HC.out]) | (go_at_call 31; refine (order_calls _ hs _ _ he h1 h2 _).mono ?_; rintro e w1 ⟨b, rfl, hb, hA, hw1⟩))
  go_ret2
  exact ⟨b, rfl, hb, hA, hw1⟩

theorem shuffle_bad (seed epoch n : Int) (h : ¬ okS epoch n) (w : World) :
    Calls Try.prog 17 #[.int .u64 seed, .int .i64 epoch, .int .i64 n] w fun e w' => e = .returned (.tuple #[.slice none 0 0, .int .i64 1]) ∧ w' = w := by
  by_cases hc : 1 ≤ n ∧ n ≤ 16
  · have HC : Hid (cntB n = true) := cnt_yes hc
    have hx : ¬ (0 ≤ epoch ∧ epoch ≤ 1000) := fun x => h ⟨hc, x⟩
    clear h hc
    by_cases h0 : epoch < 0
    · go_enter Try.func17, Try.ntmps17
      go_wp2_with (go_at_call 30; refine (count_calls _ _).mono ?_; rintro e w' ⟨rfl, hw'⟩; replace hw' := hw'.symm; subst hw'; rw [HC.out])
      go_ret2
      exact ⟨rfl, rfl⟩
    · have h9 : 1000 < epoch := by omega
      clear hx
      go_enter Try.func17, Try.ntmps17
      go_wp2_with (go_at_call 30; refine (count_calls _ _).mono ?_; rintro e w' ⟨rfl, hw'⟩; replace hw' := hw'.symm; subst hw'; rw [HC.out])
      go_ret2
      exact ⟨rfl, rfl⟩
  · have HC : Hid (cntB n = false) := cnt_no hc
    clear h hc
    go_enter Try.func17, Try.ntmps17
    go_wp2_with (go_at_call 30; refine (count_calls _ _).mono ?_; rintro e w' ⟨rfl, hw'⟩; replace hw' := hw'.symm; subst hw'; rw [HC.out])
    go_ret2
    exact ⟨rfl, rfl⟩

theorem Shuffle_calls (seed : Int) (hs : okW seed) (epoch n : Int) (w : World) :
    Calls Try.prog 17 #[.int .u64 seed, .int .i64 epoch, .int .i64 n] w fun e w' => ∃ a m, e = .returned (.tuple #[.slice a m m, .int .i64 (errS epoch n)]) ∧ m ≤ 16 ∧ Lst w' a m m (shufL seed epoch n) ∧ Below w.heap.size w w' := by
  unfold errS shufL
  by_cases h : okS epoch n
  · rw [if_pos h, if_pos h]
    obtain ⟨⟨h1, h2⟩, h3, h4⟩ := h
    obtain ⟨E, rfl⟩ := Int.eq_ofNat_of_zero_le h3
    obtain ⟨N, rfl⟩ := Int.eq_ofNat_of_zero_le (show 0 ≤ n by omega)
    refine (shuffle_good seed hs E N (by omega) (by omega) (by omega) w).mono ?_
    rintro e w1 ⟨b, rfl, hb, hA, hw1⟩
    exact ⟨_, N, rfl, by omega, hA.lst, hw1⟩
  · rw [if_neg h, if_neg h]
    refine (shuffle_bad seed epoch n h w).mono ?_
    rintro e w1 ⟨rfl, rfl⟩
    exact ⟨none, 0, rfl, by omega, Lst.nil _ _ _, Below.refl _ _⟩

/-- The order that serves ahead of number k of a batch from s on. -/
def NowIs (seed : Int) (n s k base : Nat) (v : Value) (w : World) : Prop := k = 0 ∨ ∃ b c, v = .slice (some ⟨b, 0, none⟩) n c ∧ base < b ∧ Arr w b c n (shufF seed ((s + (k - 1)) / n) n)

theorem NowIs.next {seed : Int} {n s k base b c d : Nat} {w : World} (hA : Arr w b c n (shufF seed d n)) (hb : base < b) (hd : (s + k) / n = d) : NowIs seed n s (k + 1) base (.slice (some ⟨b, 0, none⟩) n c) w := by
  subst hd
  exact .inr ⟨b, c, rfl, hb, hA⟩
theorem NowIs.before {seed : Int} {n s k base : Nat} {v : Value} {w : World} (h : NowIs seed n s k base v w) (hk : k ≠ 0) : ∃ b c, v = .slice (some ⟨b, 0, none⟩) n c ∧ base < b ∧ Arr w b c n (shufF seed ((s + (k - 1)) / n) n) := by
  rcases h with h | h
  · exact absurd h hk
  · exact h

set_option maxRecDepth 100000 in
set_option maxHeartbeats 1600000 in
theorem batch_good (seed : Int) (hs : okW seed) (size n step : Nat) (z1 : 1 ≤ size) (z2 : size ≤ 8) (h1 : 1 ≤ n) (h2 : n ≤ 16) (hp : step ≤ 39) (w : World) :
    Calls Try.prog 19 #[.int .u64 seed, .int .i64 size, .int .i64 n, .int .i64 step] w fun e w' => ∃ b, e = .returned (.tuple #[.slice (some ⟨b, 0, none⟩) size size, .int .i64 0]) ∧ w.heap.size ≤ b ∧ Arr w' b size size (batchG seed n (step * size)) ∧ Below w.heap.size w w' := by
  have HC : Hid (cntB (n : Int) = true) := cnt_yes ⟨by omega, by omega⟩
  have hmul : step * size ≤ 39 * 8 := Nat.mul_le_mul hp z2
  obtain ⟨s, hsz⟩ : ∃ s, step * size = s := ⟨_, rfl⟩
  have e1 : (step : Int) * (size : Int) = (s : Int) := by rw [← hsz]; simp
  rw [hsz] at hmul ⊢
  have hmk := run_make_row' (P := Try.prog) 22 3 (.int .i64 0) 8 Try.underlying22 info3 rfl .i64 .i64 size (by omega) (by omega)
  clear hsz
  go_enter Try.func19, Try.ntmps19
  go_wp2_with (go_at_call 30; refine (count_calls _ _).mono ?_; rintro e w' ⟨rfl, hw'⟩; replace hw' := hw'.symm; subst hw'; rw [HC.out])
  go_loopw [11, 37] (fun v i wr => ∃ k : Nat, k ≤ size ∧ i = .int .i64 k ∧ NowIs seed n s k w.heap.size v wr ∧ wr.rowIs w.heap.size 3 size (rowTo (batchG seed n s) k) ∧ Below w.heap.size w wr) (fun _ i _ => size - (intOf i).toNat)
  case atStart => exact ⟨0, Nat.zero_le _, rfl, .inl rfl, rowTo_made (World.rowIs_made _ _ _ _), (Below.refl _ _).alloc (Nat.le_refl _) _⟩
  case round =>
    obtain ⟨k, hk, rfl, hnow, hrow, hbel⟩ := hrel
    clear hmk
    by_cases hlt : k < size
    · obtain ⟨t, ht⟩ : ∃ t, s + k = t := ⟨_, rfl⟩
      obtain ⟨d, hd⟩ : ∃ d, t / n = d := ⟨_, rfl⟩
      obtain ⟨r, hr⟩ : ∃ r, t % n = r := ⟨_, rfl⟩
      have hrn : r < n := by rw [← hr]; exact Nat.mod_lt _ (by omega)
      have hdm : n * d + r = t := by rw [← hd, ← hr]; exact Nat.div_add_mod t n
      have hdt : d ≤ t := by rw [← hd]; exact Nat.div_le_self _ _
      have HG : Hid (batchG seed n s k = shufF seed d n r) := by show batchG seed n s k = _; unfold batchG; rw [ht, hd, hr]
      have e2 : (s : Int) + (k : Int) = (t : Int) := by omega
      have e3 : (t : Int).tdiv (n : Int) = (d : Int) := by rw [← hd]; exact Int.ofNat_tdiv t n
      have e4 : (t : Int).tmod (n : Int) = (r : Int) := by rw [← hr]; exact Int.ofNat_tmod t n
      have hn0 : ((n : Int) == 0) = false := by rw [beq_eq_false_iff_ne]; omega
      have hlr := hrow.lt
      by_cases hk0 : k = 0
      · have b0 : ((k : Int) == 0) = true := by rw [beq_iff_eq]; omega
        clear hnow hk0
        go_wp2_with fail
        refine (order_calls _ hs d n (by omega) h1 h2 _).mono ?_
        rintro e w2 ⟨b, rfl, hb, hA, hw2⟩
        replace hrow := hrow.of_block (hw2.block _ hlr)
        have c3 := rowTo_cell hrow hlt
        have f3 := hrow.frozen k
        have hbl := hbel.trans (hw2.mono hbel.size)
        have c4 := hA.cell hrn
        obtain ⟨x, hx⟩ : ∃ x, shufF seed d n r = x := ⟨_, rfl⟩
        rw [hx] at c4 HG
        have st := rowTo_step (g := batchG seed n s) hrow
        rw [HG.out] at st
        clear hx
        go_wp2
        go_roundw
        case rel => exact ⟨k + 1, by omega, by go_num, NowIs.next (hA.setOther (show b ≠ w.heap.size by omega) _) (by omega) (by rw [ht, hd]), st, hbl.setCell (Nat.le_refl _) _⟩
        case measure => simp [intOf]; omega
      · have b0 : ((k : Int) == 0) = false := by rw [beq_eq_false_iff_ne]; omega
        by_cases hr0 : r = 0
        · have b1 : ((r : Int) == 0) = true := by rw [beq_iff_eq]; omega
          clear hnow hr0
          go_wp2_with fail
          refine (order_calls _ hs d n (by omega) h1 h2 _).mono ?_
          rintro e w2 ⟨b, rfl, hb, hA, hw2⟩
          replace hrow := hrow.of_block (hw2.block _ hlr)
          have c3 := rowTo_cell hrow hlt
          have f3 := hrow.frozen k
          have hbl := hbel.trans (hw2.mono hbel.size)
          have c4 := hA.cell hrn
          obtain ⟨x, hx⟩ : ∃ x, shufF seed d n r = x := ⟨_, rfl⟩
          rw [hx] at c4 HG
          have st := rowTo_step (g := batchG seed n s) hrow
          rw [HG.out] at st
          clear hx
          go_wp2
          go_roundw
          case rel => exact ⟨k + 1, by omega, by go_num, NowIs.next (hA.setOther (show b ≠ w.heap.size by omega) _) (by omega) (by rw [ht, hd]), st, hbl.setCell (Nat.le_refl _) _⟩
          case measure => simp [intOf]; omega
        · have b1 : ((r : Int) == 0) = false := by rw [beq_eq_false_iff_ne]; omega
          obtain ⟨b, c, rfl, hb, hA⟩ := hnow.before hk0
          rw [day_goes ht hdm hrn hk0 hr0] at hA
          have c3 := rowTo_cell hrow hlt
          have f3 := hrow.frozen k
          have c4 := hA.cell hrn
          obtain ⟨x, hx⟩ : ∃ x, shufF seed d n r = x := ⟨_, rfl⟩
          rw [hx] at c4 HG
          have st := rowTo_step (g := batchG seed n s) hrow
          rw [HG.out] at st
          clear hx
          go_wp2
          go_roundw
          case rel => exact ⟨k + 1, by omega, by go_num, NowIs.next (hA.setOther (show b ≠ w.heap.size by omega) _) (by omega) (by rw [ht, hd]), st, hbel.setCell (Nat.le_refl _) _⟩
          case measure => simp [intOf]; omega
    · obtain rfl : k = size := by omega
      go_wp2
      go_ret2
      exact ⟨_, rfl, Nat.le_refl _, Arr.row hrow, hbel⟩

/-- Whether a size, a count and a step are such as may be. -/
def okB (size n step : Int) : Prop := (1 ≤ size ∧ size ≤ 8) ∧ (1 ≤ n ∧ n ≤ 16) ∧ 0 ≤ step ∧ step ≤ 39
instance (size n step : Int) : Decidable (okB size n step) := by unfold okB; infer_instance
def errB (size n step : Int) : Int := if okB size n step then 0 else 1
def batchL (seed size n step : Int) : List Int := if okB size n step then batchP seed size.toNat n.toNat (step.toNat * size.toNat) else []

theorem batch_bad (seed size n step : Int) (h : ¬ okB size n step) (w : World) :
    Calls Try.prog 19 #[.int .u64 seed, .int .i64 size, .int .i64 n, .int .i64 step] w fun e w' => e = .returned (.tuple #[.slice none 0 0, .int .i64 1]) ∧ w' = w := by
  by_cases z1 : size < 1
  · clear h
    go_enter Try.func19, Try.ntmps19
    go_wp2
    go_ret2
    exact ⟨rfl, rfl⟩
  · by_cases z2 : 8 < size
    · clear h
      go_enter Try.func19, Try.ntmps19
      go_wp2
      go_ret2
      exact ⟨rfl, rfl⟩
    · by_cases hc : 1 ≤ n ∧ n ≤ 16
      · have HC : Hid (cntB n = true) := cnt_yes hc
        have hx : ¬ (0 ≤ step ∧ step ≤ 39) := fun x => h ⟨⟨by omega, by omega⟩, hc, x⟩
        clear h hc
        by_cases h0 : step < 0
        · go_enter Try.func19, Try.ntmps19
          go_wp2_with (go_at_call 30; refine (count_calls _ _).mono ?_; rintro e w' ⟨rfl, hw'⟩; replace hw' := hw'.symm; subst hw'; rw [HC.out])
          go_ret2
          exact ⟨rfl, rfl⟩
        · have h9 : 40 ≤ step := by omega
          clear hx
          go_enter Try.func19, Try.ntmps19
          go_wp2_with (go_at_call 30; refine (count_calls _ _).mono ?_; rintro e w' ⟨rfl, hw'⟩; replace hw' := hw'.symm; subst hw'; rw [HC.out])
          go_ret2
          exact ⟨rfl, rfl⟩
      · have HC : Hid (cntB n = false) := cnt_no hc
        clear h hc
        go_enter Try.func19, Try.ntmps19
        go_wp2_with (go_at_call 30; refine (count_calls _ _).mono ?_; rintro e w' ⟨rfl, hw'⟩; replace hw' := hw'.symm; subst hw'; rw [HC.out])
        go_ret2
        exact ⟨rfl, rfl⟩

theorem Batch_calls (seed : Int) (hs : okW seed) (size n step : Int) (w : World) :
    Calls Try.prog 19 #[.int .u64 seed, .int .i64 size, .int .i64 n, .int .i64 step] w fun e w' => ∃ a m, e = .returned (.tuple #[.slice a m m, .int .i64 (errB size n step)]) ∧ m ≤ 16 ∧ Lst w' a m m (batchL seed size n step) ∧ Below w.heap.size w w' := by
  unfold errB batchL
  by_cases h : okB size n step
  · rw [if_pos h, if_pos h]
    obtain ⟨⟨z1, z2⟩, ⟨h1, h2⟩, h3, h4⟩ := h
    obtain ⟨S, rfl⟩ := Int.eq_ofNat_of_zero_le (show 0 ≤ size by omega)
    obtain ⟨T, rfl⟩ := Int.eq_ofNat_of_zero_le h3
    obtain ⟨N, rfl⟩ := Int.eq_ofNat_of_zero_le (show 0 ≤ n by omega)
    refine (batch_good seed hs S N T (by omega) (by omega) (by omega) (by omega) (by omega) w).mono ?_
    rintro e w1 ⟨b, rfl, hb, hA, hw1⟩
    exact ⟨_, S, rfl, by omega, hA.lst, hw1⟩
  · rw [if_neg h, if_neg h]
    refine (batch_bad seed size n step h w).mono ?_
    rintro e w1 ⟨rfl, rfl⟩
    exact ⟨none, 0, rfl, by omega, Lst.nil _ _ _, Below.refl _ _⟩

end Go.Proofs.Ytnlniiocoamllae.Fx
