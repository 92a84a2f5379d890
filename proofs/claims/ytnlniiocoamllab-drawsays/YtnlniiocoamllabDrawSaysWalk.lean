/- The walk of DrawSays: it returns true, whatever is handed in, and nothing that was there is written. -/
import Derived.Test.YtnlniiocoamllabRefDrawB
namespace Go.Proofs.Ytnlniiocoamllab.Fx
open Go.RowKit

set_option maxRecDepth 100000 in
set_option maxHeartbeats 1600000 in
theorem way_ns (seed epoch n size step : Int) (XS YS : List Int) (w : World) (I1 : Hid (inB n 1 16 = false)) (I3 : Hid (inB size 1 8 = false))
    (HS : Hid (∀ q, Calls Try.prog 19 #[.int .u64 seed, .int .i64 epoch, .int .i64 n] q fun e w' => ∃ a m, e = .returned (.tuple #[.slice a m m, .int .i64 1]) ∧ m ≤ 16 ∧ Lst w' a m m XS ∧ Below q.heap.size q w')) (HB : Hid (∀ q, Calls Try.prog 20 #[.int .u64 seed, .int .i64 size, .int .i64 n, .int .i64 step] q fun e w' => ∃ a m, e = .returned (.tuple #[.slice a m m, .int .i64 1]) ∧ m ≤ 16 ∧ Lst w' a m m YS ∧ Below q.heap.size q w'))
    (HXN : Hid (XS = [])) (HYN : Hid (YS = [])) :
    Calls Try.prog 4 #[.int .u64 seed, .int .i64 epoch, .int .i64 n, .int .i64 size, .int .i64 step] w fun e w' => e = .returned (.bool true) ∧ Below w.heap.size w w' := by
  go_enter Try.func4, Try.ntmps4
  have T := Below.refl w.heap.size w
  go_wp2_with (go_at_call 7; refine (rin_calls _ _ _ _).mono ?_; rintro e w' ⟨rfl, hw'⟩; replace hw' := hw'.symm; subst hw'; first | rw [I1.out] | rw [I3.out])
  refine (HS.out _).mono ?_
  rintro e w3 ⟨a3, m3, rfl, hm3, lx, hw3⟩
  replace T := T.trans (hw3.mono T.size)
  clear hw3
  go_wp2_with fail
  refine (HB.out _).mono ?_
  rintro e w4 ⟨a4, m4, rfl, hm4, ly, hw4⟩
  replace lx := lx.below hw4 (Nat.le_refl _)
  replace T := T.trans (hw4.mono T.size)
  clear hw4
  have lo : Lst w4 none 0 0 XS := by rw [HXN.out]; exact Lst.nil _ _ _
  have lb : Lst w4 none 0 0 YS := by rw [HYN.out]; exact Lst.nil _ _ _
  go_wp2_with fail
  refine (eq_calls _ _ _ _ _ _ XS XS _ lx lo (by omega)).mono ?_
  rintro e w5 ⟨rfl, k5, hw5⟩
  rw [decide_eq_true (Eq.refl XS)]
  replace ly : Lst w5 _ _ _ _ := hw5 ▸ ly.drewN k5
  replace lb : Lst w5 _ _ _ _ := hw5 ▸ lb.drewN k5
  replace T : Below w.heap.size w w5 := hw5 ▸ below_drewN T k5
  clear hw5 lx lo
  go_wp2_with fail
  refine (eq_calls _ _ _ _ _ _ YS YS _ ly lb (by omega)).mono ?_
  rintro e w6 ⟨rfl, k6, hw6⟩
  rw [decide_eq_true (Eq.refl YS)]
  replace T : Below w.heap.size w w6 := hw6 ▸ below_drewN T k6
  clear hw6 ly lb
  go_wp2
  go_ret
  exact ⟨rfl, T⟩

set_option maxRecDepth 100000 in
set_option maxHeartbeats 1600000 in
theorem way_n (seed epoch n size step : Int) (XS YS : List Int) (w : World) (I1 : Hid (inB n 1 16 = false)) (I3 : Hid (inB size 1 8 = true))
    (HS : Hid (∀ q, Calls Try.prog 19 #[.int .u64 seed, .int .i64 epoch, .int .i64 n] q fun e w' => ∃ a m, e = .returned (.tuple #[.slice a m m, .int .i64 1]) ∧ m ≤ 16 ∧ Lst w' a m m XS ∧ Below q.heap.size q w')) (HB : Hid (∀ q, Calls Try.prog 20 #[.int .u64 seed, .int .i64 size, .int .i64 n, .int .i64 step] q fun e w' => ∃ a m, e = .returned (.tuple #[.slice a m m, .int .i64 1]) ∧ m ≤ 16 ∧ Lst w' a m m YS ∧ Below q.heap.size q w'))
    (HXN : Hid (XS = [])) (HYN : Hid (YS = [])) :
    Calls Try.prog 4 #[.int .u64 seed, .int .i64 epoch, .int .i64 n, .int .i64 size, .int .i64 step] w fun e w' => e = .returned (.bool true) ∧ Below w.heap.size w w' := by
  go_enter Try.func4, Try.ntmps4
  have T := Below.refl w.heap.size w
  go_wp2_with (go_at_call 7; refine (rin_calls _ _ _ _).mono ?_; rintro e w' ⟨rfl, hw'⟩; replace hw' := hw'.symm; subst hw'; first | rw [I1.out] | rw [I3.out])
  refine (HS.out _).mono ?_
  rintro e w3 ⟨a3, m3, rfl, hm3, lx, hw3⟩
  replace T := T.trans (hw3.mono T.size)
  clear hw3
  go_wp2_with fail
  refine (HB.out _).mono ?_
  rintro e w4 ⟨a4, m4, rfl, hm4, ly, hw4⟩
  replace lx := lx.below hw4 (Nat.le_refl _)
  replace T := T.trans (hw4.mono T.size)
  clear hw4
  have lo : Lst w4 none 0 0 XS := by rw [HXN.out]; exact Lst.nil _ _ _
  have lb : Lst w4 none 0 0 YS := by rw [HYN.out]; exact Lst.nil _ _ _
  go_wp2_with fail
  refine (eq_calls _ _ _ _ _ _ XS XS _ lx lo (by omega)).mono ?_
  rintro e w5 ⟨rfl, k5, hw5⟩
  rw [decide_eq_true (Eq.refl XS)]
  replace ly : Lst w5 _ _ _ _ := hw5 ▸ ly.drewN k5
  replace lb : Lst w5 _ _ _ _ := hw5 ▸ lb.drewN k5
  replace T : Below w.heap.size w w5 := hw5 ▸ below_drewN T k5
  clear hw5 lx lo
  go_wp2_with fail
  refine (eq_calls _ _ _ _ _ _ YS YS _ ly lb (by omega)).mono ?_
  rintro e w6 ⟨rfl, k6, hw6⟩
  rw [decide_eq_true (Eq.refl YS)]
  replace T : Below w.heap.size w w6 := hw6 ▸ below_drewN T k6
  clear hw6 ly lb
  go_wp2
  go_ret
  exact ⟨rfl, T⟩

set_option maxRecDepth 100000 in
set_option maxHeartbeats 1600000 in
theorem way_es (seed epoch n size step : Int) (XS YS : List Int) (w : World) (I1 : Hid (inB n 1 16 = true)) (I2 : Hid (inB epoch 0 1000 = false)) (I3 : Hid (inB size 1 8 = false))
    (HS : Hid (∀ q, Calls Try.prog 19 #[.int .u64 seed, .int .i64 epoch, .int .i64 n] q fun e w' => ∃ a m, e = .returned (.tuple #[.slice a m m, .int .i64 1]) ∧ m ≤ 16 ∧ Lst w' a m m XS ∧ Below q.heap.size q w')) (HB : Hid (∀ q, Calls Try.prog 20 #[.int .u64 seed, .int .i64 size, .int .i64 n, .int .i64 step] q fun e w' => ∃ a m, e = .returned (.tuple #[.slice a m m, .int .i64 1]) ∧ m ≤ 16 ∧ Lst w' a m m YS ∧ Below q.heap.size q w'))
    (HXN : Hid (XS = [])) (HYN : Hid (YS = [])) :
    Calls Try.prog 4 #[.int .u64 seed, .int .i64 epoch, .int .i64 n, .int .i64 size, .int .i64 step] w fun e w' => e = .returned (.bool true) ∧ Below w.heap.size w w' := by
  go_enter Try.func4, Try.ntmps4
  have T := Below.refl w.heap.size w
  go_wp2_with (go_at_call 7; refine (rin_calls _ _ _ _).mono ?_; rintro e w' ⟨rfl, hw'⟩; replace hw' := hw'.symm; subst hw'; first | rw [I1.out] | rw [I2.out] | rw [I3.out])
  refine (HS.out _).mono ?_
  rintro e w3 ⟨a3, m3, rfl, hm3, lx, hw3⟩
  replace T := T.trans (hw3.mono T.size)
  clear hw3
  go_wp2_with fail
  refine (HB.out _).mono ?_
  rintro e w4 ⟨a4, m4, rfl, hm4, ly, hw4⟩
  replace lx := lx.below hw4 (Nat.le_refl _)
  replace T := T.trans (hw4.mono T.size)
  clear hw4
  have lo : Lst w4 none 0 0 XS := by rw [HXN.out]; exact Lst.nil _ _ _
  have lb : Lst w4 none 0 0 YS := by rw [HYN.out]; exact Lst.nil _ _ _
  go_wp2_with fail
  refine (eq_calls _ _ _ _ _ _ XS XS _ lx lo (by omega)).mono ?_
  rintro e w5 ⟨rfl, k5, hw5⟩
  rw [decide_eq_true (Eq.refl XS)]
  replace ly : Lst w5 _ _ _ _ := hw5 ▸ ly.drewN k5
  replace lb : Lst w5 _ _ _ _ := hw5 ▸ lb.drewN k5
  replace T : Below w.heap.size w w5 := hw5 ▸ below_drewN T k5
  clear hw5 lx lo
  go_wp2_with fail
  refine (eq_calls _ _ _ _ _ _ YS YS _ ly lb (by omega)).mono ?_
  rintro e w6 ⟨rfl, k6, hw6⟩
  rw [decide_eq_true (Eq.refl YS)]
  replace T : Below w.heap.size w w6 := hw6 ▸ below_drewN T k6
  clear hw6 ly lb
  go_wp2
  go_ret
  exact ⟨rfl, T⟩

set_option maxRecDepth 100000 in
set_option maxHeartbeats 1600000 in
theorem way_ep (seed epoch n size step : Int) (XS YS : List Int) (w : World) (I1 : Hid (inB n 1 16 = true)) (I2 : Hid (inB epoch 0 1000 = false)) (I3 : Hid (inB size 1 8 = true)) (I4 : Hid (inB step 0 39 = false))
    (HS : Hid (∀ q, Calls Try.prog 19 #[.int .u64 seed, .int .i64 epoch, .int .i64 n] q fun e w' => ∃ a m, e = .returned (.tuple #[.slice a m m, .int .i64 1]) ∧ m ≤ 16 ∧ Lst w' a m m XS ∧ Below q.heap.size q w')) (HB : Hid (∀ q, Calls Try.prog 20 #[.int .u64 seed, .int .i64 size, .int .i64 n, .int .i64 step] q fun e w' => ∃ a m, e = .returned (.tuple #[.slice a m m, .int .i64 1]) ∧ m ≤ 16 ∧ Lst w' a m m YS ∧ Below q.heap.size q w'))
    (HXN : Hid (XS = [])) (HYN : Hid (YS = [])) :
    Calls Try.prog 4 #[.int .u64 seed, .int .i64 epoch, .int .i64 n, .int .i64 size, .int .i64 step] w fun e w' => e = .returned (.bool true) ∧ Below w.heap.size w w' := by
  go_enter Try.func4, Try.ntmps4
  have T := Below.refl w.heap.size w
  go_wp2_with (go_at_call 7; refine (rin_calls _ _ _ _).mono ?_; rintro e w' ⟨rfl, hw'⟩; replace hw' := hw'.symm; subst hw'; first | rw [I1.out] | rw [I2.out] | rw [I3.out] | rw [I4.out])
  refine (HS.out _).mono ?_
  rintro e w3 ⟨a3, m3, rfl, hm3, lx, hw3⟩
  replace T := T.trans (hw3.mono T.size)
  clear hw3
  go_wp2_with fail
  refine (HB.out _).mono ?_
  rintro e w4 ⟨a4, m4, rfl, hm4, ly, hw4⟩
  replace lx := lx.below hw4 (Nat.le_refl _)
  replace T := T.trans (hw4.mono T.size)
  clear hw4
  have lo : Lst w4 none 0 0 XS := by rw [HXN.out]; exact Lst.nil _ _ _
  have lb : Lst w4 none 0 0 YS := by rw [HYN.out]; exact Lst.nil _ _ _
  go_wp2_with fail
  refine (eq_calls _ _ _ _ _ _ XS XS _ lx lo (by omega)).mono ?_
  rintro e w5 ⟨rfl, k5, hw5⟩
  rw [decide_eq_true (Eq.refl XS)]
  replace ly : Lst w5 _ _ _ _ := hw5 ▸ ly.drewN k5
  replace lb : Lst w5 _ _ _ _ := hw5 ▸ lb.drewN k5
  replace T : Below w.heap.size w w5 := hw5 ▸ below_drewN T k5
  clear hw5 lx lo
  go_wp2_with fail
  refine (eq_calls _ _ _ _ _ _ YS YS _ ly lb (by omega)).mono ?_
  rintro e w6 ⟨rfl, k6, hw6⟩
  rw [decide_eq_true (Eq.refl YS)]
  replace T : Below w.heap.size w w6 := hw6 ▸ below_drewN T k6
  clear hw6 ly lb
  go_wp2
  go_ret
  exact ⟨rfl, T⟩

set_option maxRecDepth 100000 in
set_option maxHeartbeats 1600000 in
theorem way_e (seed epoch n size step : Int) (XS YS : List Int) (M : Nat) (w : World) (I1 : Hid (inB n 1 16 = true)) (I2 : Hid (inB epoch 0 1000 = false)) (I3 : Hid (inB size 1 8 = true)) (I4 : Hid (inB step 0 39 = true))
    (HS : Hid (∀ q, Calls Try.prog 19 #[.int .u64 seed, .int .i64 epoch, .int .i64 n] q fun e w' => ∃ a m, e = .returned (.tuple #[.slice a m m, .int .i64 1]) ∧ m ≤ 16 ∧ Lst w' a m m XS ∧ Below q.heap.size q w')) (HB : Hid (∀ q, Calls Try.prog 20 #[.int .u64 seed, .int .i64 size, .int .i64 n, .int .i64 step] q fun e w' => ∃ a m, e = .returned (.tuple #[.slice a m m, .int .i64 0]) ∧ m ≤ 16 ∧ Lst w' a m m YS ∧ Below q.heap.size q w'))
    (HXN : Hid (XS = [])) (HRB : Hid (∀ q, Calls Try.prog 18 #[.int .u64 seed, .int .i64 size, .int .i64 n, .int .i64 step] q fun e w' => ∃ a c, e = .returned (.slice a M c) ∧ Lst w' a M c YS ∧ Below q.heap.size q w')) :
    Calls Try.prog 4 #[.int .u64 seed, .int .i64 epoch, .int .i64 n, .int .i64 size, .int .i64 step] w fun e w' => e = .returned (.bool true) ∧ Below w.heap.size w w' := by
  go_enter Try.func4, Try.ntmps4
  have T := Below.refl w.heap.size w
  go_wp2_with (go_at_call 7; refine (rin_calls _ _ _ _).mono ?_; rintro e w' ⟨rfl, hw'⟩; replace hw' := hw'.symm; subst hw'; first | rw [I1.out] | rw [I2.out] | rw [I3.out] | rw [I4.out])
  refine (HRB.out _).mono ?_
  rintro e w2 ⟨a2, c2, rfl, lb, hw2⟩
  replace T := T.trans (hw2.mono T.size)
  clear hw2
  go_wp2_with (go_at_call 7; refine (rin_calls _ _ _ _).mono ?_; rintro e w' ⟨rfl, hw'⟩; replace hw' := hw'.symm; subst hw'; first | rw [I1.out] | rw [I2.out] | rw [I3.out] | rw [I4.out])
  refine (HS.out _).mono ?_
  rintro e w3 ⟨a3, m3, rfl, hm3, lx, hw3⟩
  replace lb := lb.below hw3 (Nat.le_refl _)
  replace T := T.trans (hw3.mono T.size)
  clear hw3
  go_wp2_with fail
  refine (HB.out _).mono ?_
  rintro e w4 ⟨a4, m4, rfl, hm4, ly, hw4⟩
  replace lb := lb.below hw4 (Nat.le_refl _)
  replace lx := lx.below hw4 (Nat.le_refl _)
  replace T := T.trans (hw4.mono T.size)
  clear hw4
  have lo : Lst w4 none 0 0 XS := by rw [HXN.out]; exact Lst.nil _ _ _
  go_wp2_with fail
  refine (eq_calls _ _ _ _ _ _ XS XS _ lx lo (by omega)).mono ?_
  rintro e w5 ⟨rfl, k5, hw5⟩
  rw [decide_eq_true (Eq.refl XS)]
  replace ly : Lst w5 _ _ _ _ := hw5 ▸ ly.drewN k5
  replace lb : Lst w5 _ _ _ _ := hw5 ▸ lb.drewN k5
  replace T : Below w.heap.size w w5 := hw5 ▸ below_drewN T k5
  clear hw5 lx lo
  go_wp2_with fail
  refine (eq_calls _ _ _ _ _ _ YS YS _ ly lb (by omega)).mono ?_
  rintro e w6 ⟨rfl, k6, hw6⟩
  rw [decide_eq_true (Eq.refl YS)]
  replace T : Below w.heap.size w w6 := hw6 ▸ below_drewN T k6
  clear hw6 ly lb
  go_wp2
  go_ret
  exact ⟨rfl, T⟩

set_option maxRecDepth 100000 in
set_option maxHeartbeats 1600000 in
theorem way_s (seed epoch n size step : Int) (XS YS : List Int) (N : Nat) (w : World) (I1 : Hid (inB n 1 16 = true)) (I2 : Hid (inB epoch 0 1000 = true)) (I3 : Hid (inB size 1 8 = false))
    (HS : Hid (∀ q, Calls Try.prog 19 #[.int .u64 seed, .int .i64 epoch, .int .i64 n] q fun e w' => ∃ a m, e = .returned (.tuple #[.slice a m m, .int .i64 0]) ∧ m ≤ 16 ∧ Lst w' a m m XS ∧ Below q.heap.size q w')) (HB : Hid (∀ q, Calls Try.prog 20 #[.int .u64 seed, .int .i64 size, .int .i64 n, .int .i64 step] q fun e w' => ∃ a m, e = .returned (.tuple #[.slice a m m, .int .i64 1]) ∧ m ≤ 16 ∧ Lst w' a m m YS ∧ Below q.heap.size q w'))
    (HRS : Hid (∀ q, Calls Try.prog 17 #[.int .u64 seed, .int .i64 epoch, .int .i64 n] q fun e w' => ∃ a c, e = .returned (.slice a N c) ∧ Lst w' a N c XS ∧ Below q.heap.size q w')) (HYN : Hid (YS = [])) :
    Calls Try.prog 4 #[.int .u64 seed, .int .i64 epoch, .int .i64 n, .int .i64 size, .int .i64 step] w fun e w' => e = .returned (.bool true) ∧ Below w.heap.size w w' := by
  go_enter Try.func4, Try.ntmps4
  have T := Below.refl w.heap.size w
  go_wp2_with (go_at_call 7; refine (rin_calls _ _ _ _).mono ?_; rintro e w' ⟨rfl, hw'⟩; replace hw' := hw'.symm; subst hw'; first | rw [I1.out] | rw [I2.out] | rw [I3.out])
  refine (HRS.out _).mono ?_
  rintro e w1 ⟨a1, c1, rfl, lo, hw1⟩
  replace T := T.trans (hw1.mono T.size)
  clear hw1
  go_wp2_with (go_at_call 7; refine (rin_calls _ _ _ _).mono ?_; rintro e w' ⟨rfl, hw'⟩; replace hw' := hw'.symm; subst hw'; first | rw [I1.out] | rw [I2.out] | rw [I3.out])
  refine (HS.out _).mono ?_
  rintro e w3 ⟨a3, m3, rfl, hm3, lx, hw3⟩
  replace lo := lo.below hw3 (Nat.le_refl _)
  replace T := T.trans (hw3.mono T.size)
  clear hw3
  go_wp2_with fail
  refine (HB.out _).mono ?_
  rintro e w4 ⟨a4, m4, rfl, hm4, ly, hw4⟩
  replace lo := lo.below hw4 (Nat.le_refl _)
  replace lx := lx.below hw4 (Nat.le_refl _)
  replace T := T.trans (hw4.mono T.size)
  clear hw4
  have lb : Lst w4 none 0 0 YS := by rw [HYN.out]; exact Lst.nil _ _ _
  go_wp2_with fail
  refine (eq_calls _ _ _ _ _ _ XS XS _ lx lo (by omega)).mono ?_
  rintro e w5 ⟨rfl, k5, hw5⟩
  rw [decide_eq_true (Eq.refl XS)]
  replace ly : Lst w5 _ _ _ _ := hw5 ▸ ly.drewN k5
  replace lb : Lst w5 _ _ _ _ := hw5 ▸ lb.drewN k5
  replace T : Below w.heap.size w w5 := hw5 ▸ below_drewN T k5
  clear hw5 lx lo
  go_wp2_with fail
  refine (eq_calls _ _ _ _ _ _ YS YS _ ly lb (by omega)).mono ?_
  rintro e w6 ⟨rfl, k6, hw6⟩
  rw [decide_eq_true (Eq.refl YS)]
  replace T : Below w.heap.size w w6 := hw6 ▸ below_drewN T k6
  clear hw6 ly lb
  go_wp2
  go_ret
  exact ⟨rfl, T⟩

set_option maxRecDepth 100000 in
set_option maxHeartbeats 1600000 in
theorem way_p (seed epoch n size step : Int) (XS YS : List Int) (N : Nat) (w : World) (I1 : Hid (inB n 1 16 = true)) (I2 : Hid (inB epoch 0 1000 = true)) (I3 : Hid (inB size 1 8 = true)) (I4 : Hid (inB step 0 39 = false))
    (HS : Hid (∀ q, Calls Try.prog 19 #[.int .u64 seed, .int .i64 epoch, .int .i64 n] q fun e w' => ∃ a m, e = .returned (.tuple #[.slice a m m, .int .i64 0]) ∧ m ≤ 16 ∧ Lst w' a m m XS ∧ Below q.heap.size q w')) (HB : Hid (∀ q, Calls Try.prog 20 #[.int .u64 seed, .int .i64 size, .int .i64 n, .int .i64 step] q fun e w' => ∃ a m, e = .returned (.tuple #[.slice a m m, .int .i64 1]) ∧ m ≤ 16 ∧ Lst w' a m m YS ∧ Below q.heap.size q w'))
    (HRS : Hid (∀ q, Calls Try.prog 17 #[.int .u64 seed, .int .i64 epoch, .int .i64 n] q fun e w' => ∃ a c, e = .returned (.slice a N c) ∧ Lst w' a N c XS ∧ Below q.heap.size q w')) (HYN : Hid (YS = [])) :
    Calls Try.prog 4 #[.int .u64 seed, .int .i64 epoch, .int .i64 n, .int .i64 size, .int .i64 step] w fun e w' => e = .returned (.bool true) ∧ Below w.heap.size w w' := by
  go_enter Try.func4, Try.ntmps4
  have T := Below.refl w.heap.size w
  go_wp2_with (go_at_call 7; refine (rin_calls _ _ _ _).mono ?_; rintro e w' ⟨rfl, hw'⟩; replace hw' := hw'.symm; subst hw'; first | rw [I1.out] | rw [I2.out] | rw [I3.out] | rw [I4.out])
  refine (HRS.out _).mono ?_
  rintro e w1 ⟨a1, c1, rfl, lo, hw1⟩
  replace T := T.trans (hw1.mono T.size)
  clear hw1
  go_wp2_with (go_at_call 7; refine (rin_calls _ _ _ _).mono ?_; rintro e w' ⟨rfl, hw'⟩; replace hw' := hw'.symm; subst hw'; first | rw [I1.out] | rw [I2.out] | rw [I3.out] | rw [I4.out])
  refine (HS.out _).mono ?_
  rintro e w3 ⟨a3, m3, rfl, hm3, lx, hw3⟩
  replace lo := lo.below hw3 (Nat.le_refl _)
  replace T := T.trans (hw3.mono T.size)
  clear hw3
  go_wp2_with fail
  refine (HB.out _).mono ?_
  rintro e w4 ⟨a4, m4, rfl, hm4, ly, hw4⟩
  replace lo := lo.below hw4 (Nat.le_refl _)
  replace lx := lx.below hw4 (Nat.le_refl _)
  replace T := T.trans (hw4.mono T.size)
  clear hw4
  have lb : Lst w4 none 0 0 YS := by rw [HYN.out]; exact Lst.nil _ _ _
  go_wp2_with fail
  refine (eq_calls _ _ _ _ _ _ XS XS _ lx lo (by omega)).mono ?_
  rintro e w5 ⟨rfl, k5, hw5⟩
  rw [decide_eq_true (Eq.refl XS)]
  replace ly : Lst w5 _ _ _ _ := hw5 ▸ ly.drewN k5
  replace lb : Lst w5 _ _ _ _ := hw5 ▸ lb.drewN k5
  replace T : Below w.heap.size w w5 := hw5 ▸ below_drewN T k5
  clear hw5 lx lo
  go_wp2_with fail
  refine (eq_calls _ _ _ _ _ _ YS YS _ ly lb (by omega)).mono ?_
  rintro e w6 ⟨rfl, k6, hw6⟩
  rw [decide_eq_true (Eq.refl YS)]
  replace T : Below w.heap.size w w6 := hw6 ▸ below_drewN T k6
  clear hw6 ly lb
  go_wp2
  go_ret
  exact ⟨rfl, T⟩

set_option maxRecDepth 100000 in
set_option maxHeartbeats 1600000 in
theorem way (seed epoch n size step : Int) (XS YS : List Int) (N : Nat) (M : Nat) (w : World) (I1 : Hid (inB n 1 16 = true)) (I2 : Hid (inB epoch 0 1000 = true)) (I3 : Hid (inB size 1 8 = true)) (I4 : Hid (inB step 0 39 = true))
    (HS : Hid (∀ q, Calls Try.prog 19 #[.int .u64 seed, .int .i64 epoch, .int .i64 n] q fun e w' => ∃ a m, e = .returned (.tuple #[.slice a m m, .int .i64 0]) ∧ m ≤ 16 ∧ Lst w' a m m XS ∧ Below q.heap.size q w')) (HB : Hid (∀ q, Calls Try.prog 20 #[.int .u64 seed, .int .i64 size, .int .i64 n, .int .i64 step] q fun e w' => ∃ a m, e = .returned (.tuple #[.slice a m m, .int .i64 0]) ∧ m ≤ 16 ∧ Lst w' a m m YS ∧ Below q.heap.size q w'))
    (HRS : Hid (∀ q, Calls Try.prog 17 #[.int .u64 seed, .int .i64 epoch, .int .i64 n] q fun e w' => ∃ a c, e = .returned (.slice a N c) ∧ Lst w' a N c XS ∧ Below q.heap.size q w')) (HRB : Hid (∀ q, Calls Try.prog 18 #[.int .u64 seed, .int .i64 size, .int .i64 n, .int .i64 step] q fun e w' => ∃ a c, e = .returned (.slice a M c) ∧ Lst w' a M c YS ∧ Below q.heap.size q w')) :
    Calls Try.prog 4 #[.int .u64 seed, .int .i64 epoch, .int .i64 n, .int .i64 size, .int .i64 step] w fun e w' => e = .returned (.bool true) ∧ Below w.heap.size w w' := by
  go_enter Try.func4, Try.ntmps4
  have T := Below.refl w.heap.size w
  go_wp2_with (go_at_call 7; refine (rin_calls _ _ _ _).mono ?_; rintro e w' ⟨rfl, hw'⟩; replace hw' := hw'.symm; subst hw'; first | rw [I1.out] | rw [I2.out] | rw [I3.out] | rw [I4.out])
  refine (HRS.out _).mono ?_
  rintro e w1 ⟨a1, c1, rfl, lo, hw1⟩
  replace T := T.trans (hw1.mono T.size)
  clear hw1
  go_wp2_with (go_at_call 7; refine (rin_calls _ _ _ _).mono ?_; rintro e w' ⟨rfl, hw'⟩; replace hw' := hw'.symm; subst hw'; first | rw [I1.out] | rw [I2.out] | rw [I3.out] | rw [I4.out])
  refine (HRB.out _).mono ?_
  rintro e w2 ⟨a2, c2, rfl, lb, hw2⟩
  replace lo := lo.below hw2 (Nat.le_refl _)
  replace T := T.trans (hw2.mono T.size)
  clear hw2
  go_wp2_with (go_at_call 7; refine (rin_calls _ _ _ _).mono ?_; rintro e w' ⟨rfl, hw'⟩; replace hw' := hw'.symm; subst hw'; first | rw [I1.out] | rw [I2.out] | rw [I3.out] | rw [I4.out])
  refine (HS.out _).mono ?_
  rintro e w3 ⟨a3, m3, rfl, hm3, lx, hw3⟩
  replace lo := lo.below hw3 (Nat.le_refl _)
  replace lb := lb.below hw3 (Nat.le_refl _)
  replace T := T.trans (hw3.mono T.size)
  clear hw3
  go_wp2_with fail
  refine (HB.out _).mono ?_
  rintro e w4 ⟨a4, m4, rfl, hm4, ly, hw4⟩
  replace lo := lo.below hw4 (Nat.le_refl _)
  replace lb := lb.below hw4 (Nat.le_refl _)
  replace lx := lx.below hw4 (Nat.le_refl _)
  replace T := T.trans (hw4.mono T.size)
  clear hw4
  go_wp2_with fail
  refine (eq_calls _ _ _ _ _ _ XS XS _ lx lo (by omega)).mono ?_
  rintro e w5 ⟨rfl, k5, hw5⟩
  rw [decide_eq_true (Eq.refl XS)]
  replace ly : Lst w5 _ _ _ _ := hw5 ▸ ly.drewN k5
  replace lb : Lst w5 _ _ _ _ := hw5 ▸ lb.drewN k5
  replace T : Below w.heap.size w w5 := hw5 ▸ below_drewN T k5
  clear hw5 lx lo
  go_wp2_with fail
  refine (eq_calls _ _ _ _ _ _ YS YS _ ly lb (by omega)).mono ?_
  rintro e w6 ⟨rfl, k6, hw6⟩
  rw [decide_eq_true (Eq.refl YS)]
  replace T : Below w.heap.size w w6 := hw6 ▸ below_drewN T k6
  clear hw6 ly lb
  go_wp2
  go_ret
  exact ⟨rfl, T⟩

theorem errS_yes {epoch n : Int} (h : okS epoch n) : errS epoch n = 0 := by unfold errS; rw [if_pos h]
theorem errS_no {epoch n : Int} (h : ¬ okS epoch n) : errS epoch n = 1 := by unfold errS; rw [if_neg h]
theorem errB_yes {size n step : Int} (h : okB size n step) : errB size n step = 0 := by unfold errB; rw [if_pos h]
theorem errB_no {size n step : Int} (h : ¬ okB size n step) : errB size n step = 1 := by unfold errB; rw [if_neg h]
theorem shufL_no {seed epoch n : Int} (h : ¬ okS epoch n) : shufL seed epoch n = [] := by unfold shufL; rw [if_neg h]
theorem batchL_no {seed size n step : Int} (h : ¬ okB size n step) : batchL seed size n step = [] := by unfold batchL; rw [if_neg h]

theorem rShuffle_told (seed : Int) (hs : okW seed) (epoch n : Int) (h : okS epoch n) (q : World) :
    Calls Try.prog 17 #[.int .u64 seed, .int .i64 epoch, .int .i64 n] q fun e w' => ∃ a c, e = .returned (.slice a n.toNat c) ∧ Lst w' a n.toNat c (shufL seed epoch n) ∧ Below q.heap.size q w' := by
  unfold shufL
  rw [if_pos h]
  obtain ⟨⟨h1, h2⟩, h3, h4⟩ := h
  obtain ⟨E, rfl⟩ := Int.eq_ofNat_of_zero_le h3
  obtain ⟨N, rfl⟩ := Int.eq_ofNat_of_zero_le (show 0 ≤ n by omega)
  refine (rShuffle_calls seed hs E N (by omega) (by omega) (by omega) q).mono ?_
  rintro e w1 ⟨b, c, rfl, hb, hA, hw1⟩
  exact ⟨_, c, rfl, hA.lst, hw1⟩

theorem rBatch_told (seed : Int) (hs : okW seed) (size n step : Int) (h : okB size n step) (q : World) :
    Calls Try.prog 18 #[.int .u64 seed, .int .i64 size, .int .i64 n, .int .i64 step] q fun e w' => ∃ a c, e = .returned (.slice a size.toNat c) ∧ Lst w' a size.toNat c (batchL seed size n step) ∧ Below q.heap.size q w' := by
  unfold batchL
  rw [if_pos h]
  obtain ⟨⟨z1, z2⟩, ⟨h1, h2⟩, h3, h4⟩ := h
  obtain ⟨S, rfl⟩ := Int.eq_ofNat_of_zero_le (show 0 ≤ size by omega)
  obtain ⟨T, rfl⟩ := Int.eq_ofNat_of_zero_le h3
  obtain ⟨N, rfl⟩ := Int.eq_ofNat_of_zero_le (show 0 ≤ n by omega)
  exact rBatch_calls seed hs S N T (by omega) (by omega) (by omega) (by omega) q

theorem drawSays_any (seed epoch n size step : Int) (w : World) (hs : okW seed) (_ : (Lit.int .i64 epoch).wf = true) (_ : (Lit.int .i64 n).wf = true) (_ : (Lit.int .i64 size).wf = true) (_ : (Lit.int .i64 step).wf = true) :
    Calls Try.prog 4 #[.int .u64 seed, .int .i64 epoch, .int .i64 n, .int .i64 size, .int .i64 step] w fun e w' => e = .returned (.bool true) ∧ Below w.heap.size w w' := by
  have HS := Shuffle_calls seed hs epoch n
  have HB := Batch_calls seed hs size n step
  by_cases hn : 1 ≤ n ∧ n ≤ 16
  · by_cases he : 0 ≤ epoch ∧ epoch ≤ 1000
    · have k1 : okS epoch n := ⟨hn, he⟩
      rw [errS_yes k1] at HS
      by_cases hz : 1 ≤ size ∧ size ≤ 8
      · by_cases hp : 0 ≤ step ∧ step ≤ 39
        · have k2 : okB size n step := ⟨hz, hn, hp⟩
          rw [errB_yes k2] at HB
          exact way seed epoch n size step _ _ _ _ w (in_yes hn) (in_yes he) (in_yes hz) (in_yes hp) HS HB (rShuffle_told seed hs epoch n k1) (rBatch_told seed hs size n step k2)
        · have k2 : ¬ okB size n step := fun h => hp h.2.2
          rw [errB_no k2] at HB
          exact way_p seed epoch n size step _ _ _ w (in_yes hn) (in_yes he) (in_yes hz) (in_no hp) HS HB (rShuffle_told seed hs epoch n k1) (batchL_no k2)
      · have k2 : ¬ okB size n step := fun h => hz h.1
        rw [errB_no k2] at HB
        exact way_s seed epoch n size step _ _ _ w (in_yes hn) (in_yes he) (in_no hz) HS HB (rShuffle_told seed hs epoch n k1) (batchL_no k2)
    · have k1 : ¬ okS epoch n := fun h => he h.2
      rw [errS_no k1] at HS
      by_cases hz : 1 ≤ size ∧ size ≤ 8
      · by_cases hp : 0 ≤ step ∧ step ≤ 39
        · have k2 : okB size n step := ⟨hz, hn, hp⟩
          rw [errB_yes k2] at HB
          exact way_e seed epoch n size step _ _ _ w (in_yes hn) (in_no he) (in_yes hz) (in_yes hp) HS HB (shufL_no k1) (rBatch_told seed hs size n step k2)
        · have k2 : ¬ okB size n step := fun h => hp h.2.2
          rw [errB_no k2] at HB
          exact way_ep seed epoch n size step _ _ w (in_yes hn) (in_no he) (in_yes hz) (in_no hp) HS HB (shufL_no k1) (batchL_no k2)
      · have k2 : ¬ okB size n step := fun h => hz h.1
        rw [errB_no k2] at HB
        exact way_es seed epoch n size step _ _ w (in_yes hn) (in_no he) (in_no hz) HS HB (shufL_no k1) (batchL_no k2)
  · have k1 : ¬ okS epoch n := fun h => hn h.1
    have k2 : ¬ okB size n step := fun h => hn h.2.1
    rw [errS_no k1] at HS
    rw [errB_no k2] at HB
    by_cases hz : 1 ≤ size ∧ size ≤ 8
    · exact way_n seed epoch n size step _ _ w (in_no hn) (in_yes hz) HS HB (shufL_no k1) (batchL_no k2)
    · exact way_ns seed epoch n size step _ _ w (in_no hn) (in_no hz) HS HB (shufL_no k1) (batchL_no k2)

end Go.Proofs.Ytnlniiocoamllab.Fx
