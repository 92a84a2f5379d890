/- What train's isList, count, first return, and vec.Sum of two lists as long. -/
import Derived.Test.YthmiojmlaclgaaaGreatDoorJ06
import Derived.Test.YthmiojmlaclgaaaGreatDoorJ09
import Derived.Test.YthmiojmlaclgaaaGreatDoorJ11
import Derived.Test.YthmiojmlaclgaaaGreatDoorJ01
namespace Go.Proofs.YthmiojmlaclgaaaGreatDoor.Fx
open Go.RowKit

theorem isList_calls (a : Option Addr) (la ca : Nat) (xs : List Int) (n : Int) (w : World) (ha : Lst w a la ca xs) (hn : n ≤ 1000) :
    Calls Tryz.prog 124 #[.slice a la ca, .int .i64 n] w fun e w' => e = .returned (.bool (decide ((la : Int) = n) && rightB xs)) ∧ w' = w := by
  by_cases hl : (la : Int) = n
  · have hne : ((la : Int) != n) = false := by rw [bne_eq_false_iff_eq]; exact hl
    have h1000 : la ≤ 1000 := by omega
    rw [decide_eq_true hl, Bool.true_and]
    clear hl
    go_enter Tryz.func124, Tryz.ntmps124
    go_wp2
    go_loopw [13] (fun i wr => ∃ k : Nat, k ≤ la ∧ i = .int .i64 k ∧ Hid (∀ j, j < k → xs.getD j 0 = clampI (xs.getD j 0)) ∧ wr = w) (fun i _ => la - (intOf i).toNat)
    case atStart => exact ⟨0, Nat.zero_le _, rfl, fun j hj => by omega, rfl⟩
    case round =>
      obtain ⟨k, hk, rfl, hg, hw⟩ := hrel
      replace hw := hw.symm
      subst hw
      by_cases hlt : k < la
      · obtain ⟨b1, o1, x, rfl, s1, c1, HX⟩ := ha.at1 hlt
        by_cases hx : x = clampI x
        · have hx' : (x != clampI x) = false := by rw [bne_eq_false_iff_eq]; exact hx
          have HC : Hid (x = clampI x) := hx
          clear hx
          go_wp2_with (go_at_call 137; refine (clamp_calls _ _).mono ?_; rintro e w' ⟨rfl, hw'⟩; replace hw' := hw'.symm; subst hw')
          go_roundw
          case rel => exact ⟨k + 1, by omega, by go_num, fun j hj => by
            by_cases e : j = k
            · subst e; rw [HX.out]; exact HC.out
            · exact hg.out j (by omega), by trivial⟩
          case measure => simp [intOf]; omega
        · have hx' : (x != clampI x) = true := by rw [bne_iff_ne]; exact hx
          go_wp2_with (go_at_call 137; refine (clamp_calls _ _).mono ?_; rintro e w' ⟨rfl, hw'⟩; replace hw' := hw'.symm; subst hw')
          go_ret
          exact ⟨ret_bool (rightB_false (k := k) (by rw [HX.out]; exact hx)).symm, rfl⟩
      · go_wp2
        go_ret
        exact ⟨ret_bool (rightB_true (fun j hj => hg.out j (by have := ha.len; omega))).symm, rfl⟩
  · have hne : ((la : Int) != n) = true := by rw [bne_iff_ne]; exact hl
    rw [decide_eq_false hl, Bool.false_and]
    clear hl
    go_enter Tryz.func124, Tryz.ntmps124
    go_wp2
    go_ret
    exact ⟨rfl, rfl⟩

set_option maxHeartbeats 800000 in
theorem tcount_calls (c : Cfg) (hc : cfgB c = true) (w : World) :
    Calls Tryz.prog 130 #[c.val] w fun e w' => e = .returned (.int .i64 (sizeN c)) ∧ w' = w.alloc (.cells c.cells 50) := by
  obtain ⟨⟨i1, i2⟩, ⟨h1, h2⟩, ⟨o1, o2⟩, _⟩ := cfgB_is hc
  clear hc
  obtain ⟨i, h, o, seed, batch, steps, rate, decay, how, keep, clip⟩ := c
  unfold sizeN
  dsimp only at i1 i2 h1 h2 o1 o2 ⊢
  have s1 : h * (i + 1) = h * i + h := by rw [Int.mul_add, Int.mul_one]
  have s2 : o * (h + 1) = o * h + o := by rw [Int.mul_add, Int.mul_one]
  have a1 := Int.mul_le_mul_of_nonneg_right (c := i) h2 (by omega)
  have a2 := Int.mul_le_mul_of_nonneg_right (c := i) h1 (by omega)
  have b1 := Int.mul_le_mul_of_nonneg_right (c := h) o2 (by omega)
  have b2 := Int.mul_le_mul_of_nonneg_right (c := h) o1 (by omega)
  have c1 : 0 ≤ h * i := by omega
  have c2 : h * i ≤ 16 := by omega
  have c3 : 0 ≤ o * h := by omega
  have c4 : o * h ≤ 16 := by omega
  clear a1 a2 b1 b2
  simp only [Cfg.val, Cfg.cells] at *
  go_enter Tryz.func130, Tryz.ntmps130
  go_wp2
  go_ret
  exact ⟨ret_int (by omega), rfl⟩

theorem tfirst_calls (seed : Int) (hs : okW seed) (k : Nat) (hk : k ≤ 100) (w : World) :
    Calls Tryz.prog 131 #[.int .u64 seed, .int .i64 k] w fun e w' => e = .returned (.int .i64 (startG seed k)) ∧ Below w.heap.size w w' := by
  obtain ⟨T, HT⟩ : ∃ T, Hid (ofP 2 [seed, 1000 + (k : Int)] = T) := ⟨_, rfl⟩
  have hT0 : 0 ≤ T := by rw [← HT.out]; exact (ofP_ok 2 _).1
  have HS : Hid (startG seed k = T % 131073 - 65536) := by
    show startG seed k = _
    unfold startG
    rw [HT.out]
  have r0 : 0 ≤ T % 131073 := Int.emod_nonneg _ (by omega)
  have r1 : T % 131073 < 131073 := Int.emod_lt_of_pos _ (by omega)
  have hw2 : okW (1000 + (k : Int)) := ⟨by omega, by omega⟩
  go_enter Tryz.func131, Tryz.ntmps131
  go_wp2_with (go_at_call 180; refine (dWord_calls _ _ hs hw2 _).mono ?_; rintro e w1 ⟨rfl, hw1⟩; rw [HT.out])
  go_ret
  exact ⟨ret_int (by rw [HS.out]), hw1⟩

set_option maxHeartbeats 1600000 in
theorem vSum_at (a b : Option Addr) (la ca cb : Nat) (xs ys : List Int) (w : World) (ha : Lst w a la ca xs) (hb : Lst w b la cb ys) (hl : la ≤ 200) :
    Calls Tryz.prog 189 #[.slice a la ca, .slice b la cb] w fun e w' => ∃ g, e = .returned (.tuple #[.slice (some ⟨g, 0, none⟩) la la, .int .i64 0]) ∧ w.heap.size ≤ g ∧ w'.rowIs g 3 la (rowTo (sumG xs ys) la) ∧ Below w.heap.size w w' := by
  have H0 : Hid (twoI la la = 0) := by
    rcases twoI_cases la la with ⟨h0, _, _⟩ | ⟨h0, h1⟩
    · exact h0
    · exfalso; apply h0; unfold twoI; rw [if_neg (by omega), if_pos rfl]
  have hmk := run_make_row' (P := Tryz.prog) 66 3 (.int .i64 0) 8 Tryz.underlying66 info3 rfl .i64 .i64 la (by omega) (by omega)
  go_enter Tryz.func189, Tryz.ntmps189
  go_wp2_with (go_at_call 141; refine (two_calls _ _ _ _ _ _ _).mono ?_; rintro e w1 ⟨rfl, hw⟩; rw [H0.out])
  go_loopw [20] (fun i wr => ∃ k : Nat, k ≤ la ∧ i = .int .i64 k ∧ wr.rowIs w1.heap.size 3 la (rowTo (sumG xs ys) k) ∧ Below w.heap.size w wr) (fun i _ => la - (intOf i).toNat)
  case atStart => exact ⟨0, Nat.zero_le _, rfl, rowTo_made (World.rowIs_made _ _ _ _), hw.alloc hw.size _⟩
  case round =>
    obtain ⟨k, hk, rfl, hrow, hbel⟩ := hrel
    have ha' := ha.below hbel (Nat.le_refl _)
    have hb' := hb.below hbel (Nat.le_refl _)
    have hsz := hw.size
    clear ha hb hw hmk
    by_cases hlt : k < la
    · obtain ⟨b1, o1, x, rfl, _, c1, HX⟩ := ha'.at1 hlt
      obtain ⟨b2, o2, y, rfl, _, c2, HY⟩ := hb'.at1 hlt
      have c3 := rowTo_cell hrow hlt
      have f3 := hrow.frozen k
      go_wp2
      go_region_with ((go_at_call 200; refine (add_calls _ _ _).mono ?_; rintro e w' ⟨rfl, rfl⟩))
      all_goals go_wp2
      all_goals
        go_roundw
        case rel =>
          have st := rowTo_step (g := sumG xs ys) hrow
          simp only [sumG, HX.out, HY.out] at st
          exact ⟨k + 1, by omega, by go_num, st, (hbel.setCell (by omega) _).drew⟩
        case measure => simp [intOf]; omega
    · go_wp2
      go_ret2
      obtain rfl : k = la := by omega
      exact ⟨_, rfl, hsz, hrow, hbel⟩

/-- A list of integers stands where a cell that is no integer is written. -/
theorem Lst.setOff {w : World} {a : Option Addr} {n c : Nat} {xs : List Int} (h : Lst w a n c xs) {p : Addr} {x : Option Addr} {y z : Nat} (hp : w.cell? p = some (.slice x y z)) (v : Value) : Lst (w.setCell p v) a n c xs := by
  refine ⟨h.1, h.2.1, ?_⟩
  rcases h.2.2 with h0 | ⟨b, off, e, hs, hc⟩
  · exact .inl h0
  · refine .inr ⟨b, off, e, by simpa using hs, fun i hi => ?_⟩
    have hne : p ≠ ⟨b, off + i, none⟩ := fun g => by
      have h1 := hc i hi
      rw [← g, hp] at h1
      simp at h1
    rw [World.cell?_setCell_other w _ _ _ hne]
    exact hc i hi
end Go.Proofs.YthmiojmlaclgaaaGreatDoor.Fx
