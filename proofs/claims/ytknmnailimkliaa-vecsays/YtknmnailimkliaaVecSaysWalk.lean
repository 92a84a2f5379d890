/- The walk of VecSays: it returns true, whatever lists lie there, and nothing that was there is written. -/
import Derived.Test.YtknmnailimkliaaRefVec
namespace Go.Proofs.Ytknmnailimkliaa.Fx
open Go.RowKit

theorem sumL_good (xs ys : List Int) (la : Nat) (h : la ≤ 200) : sumL xs ys la la = (List.range la).map (sumG xs ys) := by
  unfold sumL twoI; rw [if_neg (by omega : ¬ (200 < la ∨ 200 < la)), if_pos rfl, if_pos rfl]
theorem timesL_good (xs : List Int) (m : Int) (la : Nat) (h : la ≤ 200) : timesL xs m la = (List.range la).map (timesG xs m) := by
  unfold timesL; rw [if_neg (by omega)]
theorem twoI_good (la : Nat) (h : la ≤ 200) : twoI la la = 0 := by
  unfold twoI; rw [if_neg (by omega : ¬ (200 < la ∨ 200 < la)), if_pos rfl]
theorem oneI_good (la : Nat) (h : la ≤ 200) : oneI la = 0 := by unfold oneI; rw [if_neg (by omega)]

set_option maxHeartbeats 1600000 in
theorem vecSays_good (a b : Option Addr) (la ca cb : Nat) (xs ys : List Int) (m : Int) (w : World) (ha : Lst w a la ca xs) (hb : Lst w b la cb ys) (hl : la ≤ 200) :
    Calls Try.prog 4 #[.slice a la ca, .slice b la cb, .int .i64 m] w fun e w' => e = .returned (.bool true) ∧ Below w.heap.size w w' := by
  have hne : ((la : Int) != (la : Int)) = false := by simp
  have HE2 : Hid (twoI la la = 0) := twoI_good la hl
  have HED : Hid ((if twoI la la = 0 then dotTo xs ys la else 0) = dotTo xs ys la) := if_pos HE2
  have HF1 : Hid (oneI la = 0) := oneI_good la hl
  have HES : Hid (sumL xs ys la la = (List.range la).map (sumG xs ys)) := sumL_good xs ys la hl
  have HET : Hid (timesL xs m la = (List.range la).map (timesG xs m)) := timesL_good xs m la hl
  go_enter Try.func4, Try.ntmps4
  go_wp2_with (go_at_call 16; refine (rdot_calls _ _ _ _ _ xs ys _ ha hb (by omega)).mono ?_; rintro e w' ⟨rfl, nd, rfl⟩)
  have ha1 := ha.drewN nd
  have hb1 := hb.drewN nd
  have hb0 : Below w.heap.size w (w.drewN nd) := below_drewN (Below.refl _ _) _
  generalize hw1 : w.drewN nd = w1 at *
  have hs1 : w.heap.size = w1.heap.size := by rw [← hw1]; rfl
  clear hw1 ha hb
  go_loopw [10, 26] (fun v i wr => ∃ k : Nat, k ≤ la ∧ i = .int .i64 k ∧ OwnI w1.heap.size wr v ((List.range k).map (sumG xs ys)) ∧ Below w1.heap.size w1 wr) (fun _ i _ => la - (intOf i).toNat)
  case atStart => exact ⟨0, Nat.zero_le _, rfl, OwnI.nil _ _, Below.refl _ _⟩
  case round =>
    obtain ⟨k, hk, rfl, hown, hbel⟩ := hrel
    have hsz := hbel.size
    by_cases hlt : k < la
    · obtain ⟨b1, o1, x, rfl, s1, c1, HX⟩ := ha1.at1b hbel (Nat.le_refl _) hlt
      obtain ⟨b2, o2, y, rfl, s2, c2, HY⟩ := hb1.at1b hbel (Nat.le_refl _) hlt
      clear ha1 hb1
      go_wp2
      go_region_held3 (fun w' => w'.cell? ⟨b1, o1 + k, none⟩ = some (.int .i64 x) ∧ w'.cell? ⟨b2, o2 + k, none⟩ = some (.int .i64 y)) (first | go_keep | exact ⟨(hbel1.cell (p := ⟨b1, o1 + k, none⟩) s1).trans c1, (hbel1.cell (p := ⟨b2, o2 + k, none⟩) s2).trans c2⟩)
        (first | (refine step_append_int (by rfl) _ _ (by rfl) w1.heap.size _ ((List.range k).map (sumG xs ys)) (addI x y) wr.heap.size wr (by rfl) (by rfl) (by exact hown.drew.alloc _) (by exact cell_new _ _ _) (by simp; omega) (by simp; omega) (by exact (Below.refl _ _).drew.alloc (by simp; omega) _) ?_; intro v1 w2 hown1 hbel1) | (go_at_call 11; refine (radd_calls _ _ _).mono ?_; rintro e w' ⟨rfl, rfl⟩))
      all_goals
        go_wp2
        go_roundw
        case rel => exact ⟨k + 1, by omega, by go_num, hown1.congr (range_snoc _ _ _ (by simp only [sumG, HX.out, HY.out])), hbel.trans hbel1⟩
        case measure => simp [intOf]; omega
    · obtain rfl : k = la := by omega
      obtain ⟨a1, c1, rfl, hsum⟩ := hown.lst' (n := k) (by simp)
      have ha2 := ha1.below hbel (Nat.le_refl _)
      have hb2 := hb1.below hbel (Nat.le_refl _)
      have hbw : Below w.heap.size w wr := hb0.trans (hbel.mono (by omega))
      clear hown hbel ha1 hb1 hb0 hs1
      generalize hwr : wr = w2 at *
      clear hwr
      go_wp2
      go_loopw [11, 62] (fun v i wq => ∃ j : Nat, j ≤ k ∧ i = .int .i64 j ∧ OwnI w2.heap.size wq v ((List.range j).map (timesG xs m)) ∧ Below w2.heap.size w2 wq) (fun _ i _ => k - (intOf i).toNat)
      case atStart => exact ⟨0, Nat.zero_le _, rfl, OwnI.nil _ _, Below.refl _ _⟩
      case round =>
        obtain ⟨j, hj, rfl, hown, hbel⟩ := hrel
        have hsz := hbel.size
        by_cases hlt : j < k
        · obtain ⟨b1, o1, x, rfl, s1, c1, HX⟩ := ha2.at1b hbel (Nat.le_refl _) hlt
          clear ha2 hb2 hsum hbw
          go_wp2_with (first | (at_builtin; refine wpList_append_int (by rfl) _ _ (by rfl) w2.heap.size _ ((List.range j).map (timesG xs m)) (mulI x m) wr.heap.size wr (by rfl) (by rfl) (by exact hown.alloc _) (by exact cell_new _ _ _) (by simp; omega) (by simp; omega) (by exact (Below.refl _ _).alloc (by omega) _) ?_; intro v1 w3 hown1 hbel1) | (go_at_call 15; refine (rmul_calls _ _ _).mono ?_; rintro e w' ⟨rfl, hw'⟩; replace hw' := hw'.symm; subst hw'))
          go_roundw
          case rel => exact ⟨j + 1, by omega, by go_num, hown1.congr (range_snoc _ _ _ (by simp only [timesG, HX.out])), hbel.trans hbel1⟩
          case measure => simp [intOf]; omega
        · obtain rfl : j = k := by omega
          obtain ⟨a2, c2, rfl, htim⟩ := hown.lst' (n := j) (by simp)
          have haT := ha2.below hbel (Nat.le_refl _)
          have hbT := hb2.below hbel (Nat.le_refl _)
          have hsum := hsum.below hbel (Nat.le_refl _)
          have hbw := hbw.trans (hbel.mono hbw.size)
          clear ha2 hb2 hown hbel hsz
          go_wp2_with fail
          refine (vDot_calls _ _ _ _ _ _ xs ys _ haT hbT).mono ?_
          rintro e q1 ⟨rfl, hq1⟩
          rw [HED.out, HE2.out]
          have hbw1 := hbw.trans (hq1.mono hbw.size)
          have hsum1 := hsum.below hq1 (Nat.le_refl _)
          have htim1 := htim.below hq1 (Nat.le_refl _)
          have haT1 := haT.below hq1 (Nat.le_refl _)
          have hbT1 := hbT.below hq1 (Nat.le_refl _)
          clear hbw hsum htim haT hbT hq1
          go_wp2_with fail
          refine (vSum_calls _ _ _ _ _ _ xs ys _ haT1 hbT1).mono ?_
          rintro e q2 ⟨sa, ns, rfl, hns, hS, hq2⟩
          rw [HE2.out]
          have hbw2 := hbw1.trans (hq2.mono hbw1.size)
          have hsum2 := hsum1.below hq2 (Nat.le_refl _)
          have htim2 := htim1.below hq2 (Nat.le_refl _)
          have haT2 := haT1.below hq2 (Nat.le_refl _)
          clear hbw1 hsum1 htim1 haT1 hbT1 hq2
          go_wp2_with fail
          refine (vTimes_calls _ _ _ xs m _ haT2).mono ?_
          rintro e q3 ⟨ta, nt, rfl, hnt, hT, hq3⟩
          rw [HF1.out]
          have hbw3 := hbw2.trans (hq3.mono hbw2.size)
          have hsum3 := hsum2.below hq3 (Nat.le_refl _)
          have htim3 := htim2.below hq3 (Nat.le_refl _)
          have hS3 := hS.below hq3 (Nat.le_refl _)
          clear hbw2 hsum2 htim2 haT2 hS hq3
          go_wp2_with fail
          refine (eq_calls _ _ _ _ _ _ _ _ _ hS3 hsum3 (by omega)).mono ?_
          rintro e q4 ⟨rfl, n4, rfl⟩
          rw [HES.out, decide_eq_true rfl]
          have hT3 := hT.drewN n4
          have htim4 := htim3.drewN n4
          clear hsum3 hS3 hT htim3
          go_wp2_with fail
          refine (eq_calls _ _ _ _ _ _ _ _ _ hT3 htim4 (by omega)).mono ?_
          rintro e q5 ⟨rfl, n5, rfl⟩
          rw [HET.out, decide_eq_true rfl]
          go_wp2
          go_ret
          exact ⟨rfl, below_drewN hbw3 _⟩

set_option maxHeartbeats 1600000 in
theorem vecSays_longA (a b : Option Addr) (la ca lb cb : Nat) (xs ys : List Int) (m : Int) (w : World) (ha : Lst w a la ca xs) (hb : Lst w b lb cb ys) (hl : 200 < la) :
    Calls Try.prog 4 #[.slice a la ca, .slice b lb cb, .int .i64 m] w fun e w' => e = .returned (.bool true) ∧ Below w.heap.size w w' := by
  have he2 : twoI la lb = 2 := if_pos (.inl hl)
  have HE2 : Hid (twoI la lb = 2) := he2
  have HED : Hid ((if twoI la lb = 0 then dotTo xs ys la else 0) = 0) := if_neg (by rw [he2]; decide)
  have HES : Hid (sumL xs ys la lb = []) := if_neg (by rw [he2]; decide)
  clear he2
  have HF1 : Hid (oneI la = 2) := if_pos hl
  have HET : Hid (timesL xs m la = []) := if_pos hl
  have hsum := Lst.nil w none 0
  have hbw := Below.refl w.heap.size w
  go_enter Try.func4, Try.ntmps4
  have haT := ha
  have hbT := hb
  have htim := Lst.nil w none 0
  clear ha hb
  go_wp2_with fail
  refine (vDot_calls _ _ _ _ _ _ xs ys _ haT hbT).mono ?_
  rintro e q1 ⟨rfl, hq1⟩
  rw [HED.out, HE2.out]
  have hbw1 := hbw.trans (hq1.mono hbw.size)
  have hsum1 := hsum.below hq1 (Nat.le_refl _)
  have htim1 := htim.below hq1 (Nat.le_refl _)
  have haT1 := haT.below hq1 (Nat.le_refl _)
  have hbT1 := hbT.below hq1 (Nat.le_refl _)
  clear hbw hsum htim haT hbT hq1
  go_wp2_with fail
  refine (vSum_calls _ _ _ _ _ _ xs ys _ haT1 hbT1).mono ?_
  rintro e q2 ⟨sa, ns, rfl, hns, hS, hq2⟩
  rw [HE2.out]
  have hbw2 := hbw1.trans (hq2.mono hbw1.size)
  have hsum2 := hsum1.below hq2 (Nat.le_refl _)
  have htim2 := htim1.below hq2 (Nat.le_refl _)
  have haT2 := haT1.below hq2 (Nat.le_refl _)
  clear hbw1 hsum1 htim1 haT1 hbT1 hq2
  go_wp2_with fail
  refine (vTimes_calls _ _ _ xs m _ haT2).mono ?_
  rintro e q3 ⟨ta, nt, rfl, hnt, hT, hq3⟩
  rw [HF1.out]
  have hbw3 := hbw2.trans (hq3.mono hbw2.size)
  have hsum3 := hsum2.below hq3 (Nat.le_refl _)
  have htim3 := htim2.below hq3 (Nat.le_refl _)
  have hS3 := hS.below hq3 (Nat.le_refl _)
  clear hbw2 hsum2 htim2 haT2 hS hq3
  go_wp2_with fail
  refine (eq_calls _ _ _ _ _ _ _ _ _ hS3 hsum3 (by omega)).mono ?_
  rintro e q4 ⟨rfl, n4, rfl⟩
  rw [HES.out, decide_eq_true rfl]
  have hT3 := hT.drewN n4
  have htim4 := htim3.drewN n4
  clear hsum3 hS3 hT htim3
  go_wp2_with fail
  refine (eq_calls _ _ _ _ _ _ _ _ _ hT3 htim4 (by omega)).mono ?_
  rintro e q5 ⟨rfl, n5, rfl⟩
  rw [HET.out, decide_eq_true rfl]
  go_wp2
  go_ret
  exact ⟨rfl, below_drewN hbw3 _⟩

set_option maxHeartbeats 1600000 in
theorem vecSays_longB (a b : Option Addr) (la ca lb cb : Nat) (xs ys : List Int) (m : Int) (w : World) (ha : Lst w a la ca xs) (hb : Lst w b lb cb ys) (hl : la ≤ 200) (hlb : 200 < lb) :
    Calls Try.prog 4 #[.slice a la ca, .slice b lb cb, .int .i64 m] w fun e w' => e = .returned (.bool true) ∧ Below w.heap.size w w' := by
  have he2 : twoI la lb = 2 := if_pos (.inr hlb)
  have HE2 : Hid (twoI la lb = 2) := he2
  have HED : Hid ((if twoI la lb = 0 then dotTo xs ys la else 0) = 0) := if_neg (by rw [he2]; decide)
  have HES : Hid (sumL xs ys la lb = []) := if_neg (by rw [he2]; decide)
  clear he2
  have HF1 : Hid (oneI la = 0) := oneI_good la hl
  have HET : Hid (timesL xs m la = (List.range la).map (timesG xs m)) := timesL_good xs m la hl
  have hsum := Lst.nil w none 0
  have hbw := Below.refl w.heap.size w
  go_enter Try.func4, Try.ntmps4
  have ha2 := ha
  have hb2 := hb
  clear ha hb
  go_wp2
  go_loopw [11, 62] (fun v i wq => ∃ j : Nat, j ≤ la ∧ i = .int .i64 j ∧ OwnI w.heap.size wq v ((List.range j).map (timesG xs m)) ∧ Below w.heap.size w wq) (fun _ i _ => la - (intOf i).toNat)
  case atStart => exact ⟨0, Nat.zero_le _, rfl, OwnI.nil _ _, Below.refl _ _⟩
  case round =>
    obtain ⟨j, hj, rfl, hown, hbel⟩ := hrel
    have hsz := hbel.size
    by_cases hlt : j < la
    · obtain ⟨b1, o1, x, rfl, s1, c1, HX⟩ := ha2.at1b hbel (Nat.le_refl _) hlt
      clear ha2 hb2 hsum hbw
      go_wp2_with (first | (at_builtin; refine wpList_append_int (by rfl) _ _ (by rfl) w.heap.size _ ((List.range j).map (timesG xs m)) (mulI x m) wr.heap.size wr (by rfl) (by rfl) (by exact hown.alloc _) (by exact cell_new _ _ _) (by simp; omega) (by simp; omega) (by exact (Below.refl _ _).alloc (by omega) _) ?_; intro v1 w3 hown1 hbel1) | (go_at_call 15; refine (rmul_calls _ _ _).mono ?_; rintro e w' ⟨rfl, hw'⟩; replace hw' := hw'.symm; subst hw'))
      go_roundw
      case rel => exact ⟨j + 1, by omega, by go_num, hown1.congr (range_snoc _ _ _ (by simp only [timesG, HX.out])), hbel.trans hbel1⟩
      case measure => simp [intOf]; omega
    · obtain rfl : j = la := by omega
      obtain ⟨a2, c2, rfl, htim⟩ := hown.lst' (n := j) (by simp)
      have haT := ha2.below hbel (Nat.le_refl _)
      have hbT := hb2.below hbel (Nat.le_refl _)
      have hsum := hsum.below hbel (Nat.le_refl _)
      have hbw := hbw.trans (hbel.mono hbw.size)
      clear ha2 hb2 hown hbel hsz
      go_wp2_with fail
      refine (vDot_calls _ _ _ _ _ _ xs ys _ haT hbT).mono ?_
      rintro e q1 ⟨rfl, hq1⟩
      rw [HED.out, HE2.out]
      have hbw1 := hbw.trans (hq1.mono hbw.size)
      have hsum1 := hsum.below hq1 (Nat.le_refl _)
      have htim1 := htim.below hq1 (Nat.le_refl _)
      have haT1 := haT.below hq1 (Nat.le_refl _)
      have hbT1 := hbT.below hq1 (Nat.le_refl _)
      clear hbw hsum htim haT hbT hq1
      go_wp2_with fail
      refine (vSum_calls _ _ _ _ _ _ xs ys _ haT1 hbT1).mono ?_
      rintro e q2 ⟨sa, ns, rfl, hns, hS, hq2⟩
      rw [HE2.out]
      have hbw2 := hbw1.trans (hq2.mono hbw1.size)
      have hsum2 := hsum1.below hq2 (Nat.le_refl _)
      have htim2 := htim1.below hq2 (Nat.le_refl _)
      have haT2 := haT1.below hq2 (Nat.le_refl _)
      clear hbw1 hsum1 htim1 haT1 hbT1 hq2
      go_wp2_with fail
      refine (vTimes_calls _ _ _ xs m _ haT2).mono ?_
      rintro e q3 ⟨ta, nt, rfl, hnt, hT, hq3⟩
      rw [HF1.out]
      have hbw3 := hbw2.trans (hq3.mono hbw2.size)
      have hsum3 := hsum2.below hq3 (Nat.le_refl _)
      have htim3 := htim2.below hq3 (Nat.le_refl _)
      have hS3 := hS.below hq3 (Nat.le_refl _)
      clear hbw2 hsum2 htim2 haT2 hS hq3
      go_wp2_with fail
      refine (eq_calls _ _ _ _ _ _ _ _ _ hS3 hsum3 (by omega)).mono ?_
      rintro e q4 ⟨rfl, n4, rfl⟩
      rw [HES.out, decide_eq_true rfl]
      have hT3 := hT.drewN n4
      have htim4 := htim3.drewN n4
      clear hsum3 hS3 hT htim3
      go_wp2_with fail
      refine (eq_calls _ _ _ _ _ _ _ _ _ hT3 htim4 (by omega)).mono ?_
      rintro e q5 ⟨rfl, n5, rfl⟩
      rw [HET.out, decide_eq_true rfl]
      go_wp2
      go_ret
      exact ⟨rfl, below_drewN hbw3 _⟩

set_option maxHeartbeats 1600000 in
theorem vecSays_form (a b : Option Addr) (la ca lb cb : Nat) (xs ys : List Int) (m : Int) (w : World) (ha : Lst w a la ca xs) (hb : Lst w b lb cb ys) (hl : la ≤ 200) (hlb : lb ≤ 200) (hne : la ≠ lb) :
    Calls Try.prog 4 #[.slice a la ca, .slice b lb cb, .int .i64 m] w fun e w' => e = .returned (.bool true) ∧ Below w.heap.size w w' := by
  have he2 : twoI la lb = 5 := by unfold twoI; rw [if_neg (by omega), if_neg hne]
  have hne' : ((la : Int) != (lb : Int)) = true := by rw [bne_iff_ne]; omega
  have HE2 : Hid (twoI la lb = 5) := he2
  have HED : Hid ((if twoI la lb = 0 then dotTo xs ys la else 0) = 0) := if_neg (by rw [he2]; decide)
  have HES : Hid (sumL xs ys la lb = []) := if_neg (by rw [he2]; decide)
  clear he2
  have HF1 : Hid (oneI la = 0) := oneI_good la hl
  have HET : Hid (timesL xs m la = (List.range la).map (timesG xs m)) := timesL_good xs m la hl
  have hsum := Lst.nil w none 0
  have hbw := Below.refl w.heap.size w
  go_enter Try.func4, Try.ntmps4
  have ha2 := ha
  have hb2 := hb
  clear ha hb
  go_wp2
  go_loopw [11, 62] (fun v i wq => ∃ j : Nat, j ≤ la ∧ i = .int .i64 j ∧ OwnI w.heap.size wq v ((List.range j).map (timesG xs m)) ∧ Below w.heap.size w wq) (fun _ i _ => la - (intOf i).toNat)
  case atStart => exact ⟨0, Nat.zero_le _, rfl, OwnI.nil _ _, Below.refl _ _⟩
  case round =>
    obtain ⟨j, hj, rfl, hown, hbel⟩ := hrel
    have hsz := hbel.size
    by_cases hlt : j < la
    · obtain ⟨b1, o1, x, rfl, s1, c1, HX⟩ := ha2.at1b hbel (Nat.le_refl _) hlt
      clear ha2 hb2 hsum hbw
      go_wp2_with (first | (at_builtin; refine wpList_append_int (by rfl) _ _ (by rfl) w.heap.size _ ((List.range j).map (timesG xs m)) (mulI x m) wr.heap.size wr (by rfl) (by rfl) (by exact hown.alloc _) (by exact cell_new _ _ _) (by simp; omega) (by simp; omega) (by exact (Below.refl _ _).alloc (by omega) _) ?_; intro v1 w3 hown1 hbel1) | (go_at_call 15; refine (rmul_calls _ _ _).mono ?_; rintro e w' ⟨rfl, hw'⟩; replace hw' := hw'.symm; subst hw'))
      go_roundw
      case rel => exact ⟨j + 1, by omega, by go_num, hown1.congr (range_snoc _ _ _ (by simp only [timesG, HX.out])), hbel.trans hbel1⟩
      case measure => simp [intOf]; omega
    · obtain rfl : j = la := by omega
      obtain ⟨a2, c2, rfl, htim⟩ := hown.lst' (n := j) (by simp)
      have haT := ha2.below hbel (Nat.le_refl _)
      have hbT := hb2.below hbel (Nat.le_refl _)
      have hsum := hsum.below hbel (Nat.le_refl _)
      have hbw := hbw.trans (hbel.mono hbw.size)
      clear ha2 hb2 hown hbel hsz
      go_wp2_with fail
      refine (vDot_calls _ _ _ _ _ _ xs ys _ haT hbT).mono ?_
      rintro e q1 ⟨rfl, hq1⟩
      rw [HED.out, HE2.out]
      have hbw1 := hbw.trans (hq1.mono hbw.size)
      have hsum1 := hsum.below hq1 (Nat.le_refl _)
      have htim1 := htim.below hq1 (Nat.le_refl _)
      have haT1 := haT.below hq1 (Nat.le_refl _)
      have hbT1 := hbT.below hq1 (Nat.le_refl _)
      clear hbw hsum htim haT hbT hq1
      go_wp2_with fail
      refine (vSum_calls _ _ _ _ _ _ xs ys _ haT1 hbT1).mono ?_
      rintro e q2 ⟨sa, ns, rfl, hns, hS, hq2⟩
      rw [HE2.out]
      have hbw2 := hbw1.trans (hq2.mono hbw1.size)
      have hsum2 := hsum1.below hq2 (Nat.le_refl _)
      have htim2 := htim1.below hq2 (Nat.le_refl _)
      have haT2 := haT1.below hq2 (Nat.le_refl _)
      clear hbw1 hsum1 htim1 haT1 hbT1 hq2
      go_wp2_with fail
      refine (vTimes_calls _ _ _ xs m _ haT2).mono ?_
      rintro e q3 ⟨ta, nt, rfl, hnt, hT, hq3⟩
      rw [HF1.out]
      have hbw3 := hbw2.trans (hq3.mono hbw2.size)
      have hsum3 := hsum2.below hq3 (Nat.le_refl _)
      have htim3 := htim2.below hq3 (Nat.le_refl _)
      have hS3 := hS.below hq3 (Nat.le_refl _)
      clear hbw2 hsum2 htim2 haT2 hS hq3
      go_wp2_with fail
      refine (eq_calls _ _ _ _ _ _ _ _ _ hS3 hsum3 (by omega)).mono ?_
      rintro e q4 ⟨rfl, n4, rfl⟩
      rw [HES.out, decide_eq_true rfl]
      have hT3 := hT.drewN n4
      have htim4 := htim3.drewN n4
      clear hsum3 hS3 hT htim3
      go_wp2_with fail
      refine (eq_calls _ _ _ _ _ _ _ _ _ hT3 htim4 (by omega)).mono ?_
      rintro e q5 ⟨rfl, n5, rfl⟩
      rw [HET.out, decide_eq_true rfl]
      go_wp2
      go_ret
      exact ⟨rfl, below_drewN hbw3 _⟩

theorem vecSays_any (a b : Option Addr) (la ca lb cb : Nat) (xs ys : List Int) (m : Int) (w : World) (ha : Lst w a la ca xs) (hb : Lst w b lb cb ys) :
    Calls Try.prog 4 #[.slice a la ca, .slice b lb cb, .int .i64 m] w fun e w' => e = .returned (.bool true) ∧ Below w.heap.size w w' := by
  by_cases h1 : 200 < la
  · exact vecSays_longA a b la ca lb cb xs ys m w ha hb h1
  · by_cases h2 : 200 < lb
    · exact vecSays_longB a b la ca lb cb xs ys m w ha hb (by omega) h2
    · by_cases h3 : la = lb
      · subst h3
        exact vecSays_good a b la ca cb xs ys m w ha hb (by omega)
      · exact vecSays_form a b la ca lb cb xs ys m w ha hb (by omega) (by omega) h3
end Go.Proofs.Ytknmnailimkliaa.Fx
