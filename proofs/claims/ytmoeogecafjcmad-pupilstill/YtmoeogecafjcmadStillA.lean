/- What slices.IndexFunc and slices.ContainsFunc return with PupilStill's two functions where none strikes; what coachkeep.one returns. -/
import Derived.Test.YtmoeogecafjcmadPupH
import Derived.Test.YtmoeogecafjcmadPupC
namespace Go.Proofs.Ytmoeogecafjcmad.Fx
open Go.RowKit

theorem still1_calls (x : Int) (w : World) (h : x = 0) : Calls Try.prog 27 #[.int .i64 x] w fun e w' => e = .returned (.bool false) ∧ w' = w := by
  have h' : (x != 0) = false := by rw [bne_eq_false_iff_eq]; exact h
  clear h
  go_enter Try.func27, Try.ntmps27
  go_wp2
  go_ret
  exact ⟨ret_bool (by simp), rfl⟩

set_option maxHeartbeats 800000 in
theorem idx1_calls (a : Option Addr) (la ca : Nat) (xs : List Int) (w : World) (ha : Lst w a la ca xs) (h63 : la ≤ 1000) (hall : ∀ j, j < la → (xs.getD j 0) = 0) :
    Calls Try.prog 47 #[.slice a la ca, .func (.func 27) #[] #[]] w fun e w' => e = .returned (.int .i64 (-1)) ∧ w' = w := by
  have HA : Hid (∀ j, j < la → (xs.getD j 0) = 0) := hall
  clear hall
  go_enter Try.func47, Try.ntmps47
  go_wp2
  go_loopw [8] (fun i wr => ∃ k : Nat, k ≤ la ∧ i = .int .i64 k ∧ wr = w) (fun i _ => la - (intOf i).toNat)
  case atStart => exact ⟨0, Nat.zero_le _, rfl, rfl⟩
  case round =>
    obtain ⟨k, hk, rfl, hw⟩ := hrel
    replace hw := hw.symm
    subst hw
    by_cases hlt : k < la
    · have hx := HA.out k hlt
      obtain ⟨b1, o1, x, rfl, s1, c1, HX⟩ := ha.at1 hlt
      rw [HX.out] at hx
      have HZ : Hid (x = 0) := hx
      clear hx
      go_wp2_with fail
      refine (still1_calls _ _ HZ.out).mono ?_
      rintro e w' ⟨rfl, hw'⟩
      replace hw' := hw'.symm
      subst hw'
      go_wp2
      go_roundw
      case rel => exact ⟨k + 1, by omega, by go_num, by trivial⟩
      case measure => simp [intOf]; omega
    · go_wp2
      go_ret
      exact ⟨rfl, rfl⟩

theorem has1_calls (a : Option Addr) (la ca : Nat) (xs : List Int) (w : World) (ha : Lst w a la ca xs) (h63 : la ≤ 1000) (hall : ∀ j, j < la → (xs.getD j 0) = 0) :
    Calls Try.prog 26 #[.slice a la ca, .func (.func 27) #[] #[]] w fun e w' => e = .returned (.bool false) ∧ w' = w := by
  have hc := idx1_calls a la ca xs w ha h63 hall
  clear hall
  go_enter Try.func26, Try.ntmps26
  go_wp2_with fail
  refine hc.mono ?_
  rintro e w' ⟨rfl, rfl⟩
  go_wp2
  go_ret
  exact ⟨ret_bool (by decide), rfl⟩

theorem still2_calls (x : Int) (w : World) (h : 0 ≤ x) : Calls Try.prog 28 #[.int .i64 x] w fun e w' => e = .returned (.bool false) ∧ w' = w := by
  have h' : ¬ x < 0 := by omega
  clear h
  go_enter Try.func28, Try.ntmps28
  go_wp2
  go_ret
  exact ⟨ret_bool (by simp), rfl⟩

set_option maxHeartbeats 800000 in
theorem idx2_calls (a : Option Addr) (la ca : Nat) (xs : List Int) (w : World) (ha : Lst w a la ca xs) (h63 : la ≤ 1000) (hall : ∀ j, j < la → 0 ≤ (xs.getD j 0)) :
    Calls Try.prog 47 #[.slice a la ca, .func (.func 28) #[] #[]] w fun e w' => e = .returned (.int .i64 (-1)) ∧ w' = w := by
  have HA : Hid (∀ j, j < la → 0 ≤ (xs.getD j 0)) := hall
  clear hall
  go_enter Try.func47, Try.ntmps47
  go_wp2
  go_loopw [8] (fun i wr => ∃ k : Nat, k ≤ la ∧ i = .int .i64 k ∧ wr = w) (fun i _ => la - (intOf i).toNat)
  case atStart => exact ⟨0, Nat.zero_le _, rfl, rfl⟩
  case round =>
    obtain ⟨k, hk, rfl, hw⟩ := hrel
    replace hw := hw.symm
    subst hw
    by_cases hlt : k < la
    · have hx := HA.out k hlt
      obtain ⟨b1, o1, x, rfl, s1, c1, HX⟩ := ha.at1 hlt
      rw [HX.out] at hx
      have HZ : Hid (0 ≤ x) := hx
      clear hx
      go_wp2_with fail
      refine (still2_calls _ _ HZ.out).mono ?_
      rintro e w' ⟨rfl, hw'⟩
      replace hw' := hw'.symm
      subst hw'
      go_wp2
      go_roundw
      case rel => exact ⟨k + 1, by omega, by go_num, by trivial⟩
      case measure => simp [intOf]; omega
    · go_wp2
      go_ret
      exact ⟨rfl, rfl⟩

theorem has2_calls (a : Option Addr) (la ca : Nat) (xs : List Int) (w : World) (ha : Lst w a la ca xs) (h63 : la ≤ 1000) (hall : ∀ j, j < la → 0 ≤ (xs.getD j 0)) :
    Calls Try.prog 26 #[.slice a la ca, .func (.func 28) #[] #[]] w fun e w' => e = .returned (.bool false) ∧ w' = w := by
  have hc := idx2_calls a la ca xs w ha h63 hall
  clear hall
  go_enter Try.func26, Try.ntmps26
  go_wp2_with fail
  refine hc.mono ?_
  rintro e w' ⟨rfl, rfl⟩
  go_wp2
  go_ret
  exact ⟨ret_bool (by decide), rfl⟩

def oneD : PD := ⟨[65536], [65536], [0], [0]⟩
theorem one_lst (w : World) (x : Int) (t : TypeId) : Lst (w.alloc (.cells #[.int .i64 x] t)) (some ⟨w.heap.size, 0, none⟩) 1 1 [x] := by
  refine Lst.row (World.rowIs_alloc w #[.int .i64 x] t (fun _ => .int .i64 x) ?_) rfl ?_
  · intro i hi
    obtain rfl : i = 0 := by simpa using hi
    rfl
  · intro i hi
    obtain rfl : i = 0 := by omega
    rfl

set_option maxHeartbeats 800000 in
theorem one_calls (w : World) : Calls Try.prog 23 #[] w fun e w' => ∃ a1 b1 b2, e = .returned ((rpup 1 1 1 a1 1 a1 1 b1 1 b2 1).val) ∧ InPup w' (rpup 1 1 1 a1 1 a1 1 b1 1 b2 1) oneD ∧ Below w.heap.size w w' := by
  go_enter Try.func23, Try.ntmps23
  go_wp2
  have l1 := one_lst (w.alloc (.cells #[.int .i64 1, .int .i64 1, .slice (some ⟨w.heap.size + 1, 0, none⟩) 1 1, .int .i64 1, .int .i64 1, .slice (some ⟨w.heap.size + 1, 0, none⟩) 1 1, .slice (some ⟨w.heap.size + 1 + 1 + 1, 0, none⟩) 1 1, .slice (some ⟨w.heap.size + 1 + 1 + 1 + 1, 0, none⟩) 1 1] 39)) 65536 3
  have l2 := one_lst (((w.alloc (.cells #[.int .i64 1, .int .i64 1, .slice (some ⟨w.heap.size + 1, 0, none⟩) 1 1, .int .i64 1, .int .i64 1, .slice (some ⟨w.heap.size + 1, 0, none⟩) 1 1, .slice (some ⟨w.heap.size + 1 + 1 + 1, 0, none⟩) 1 1, .slice (some ⟨w.heap.size + 1 + 1 + 1 + 1, 0, none⟩) 1 1] 39)).alloc (.cells #[.int .i64 65536] 3)).alloc (.cells #[.int .i64 1, .int .i64 1, .slice (some ⟨w.heap.size + 1, 0, none⟩) 1 1] 31)) 0 3
  have l3 := one_lst ((((w.alloc (.cells #[.int .i64 1, .int .i64 1, .slice (some ⟨w.heap.size + 1, 0, none⟩) 1 1, .int .i64 1, .int .i64 1, .slice (some ⟨w.heap.size + 1, 0, none⟩) 1 1, .slice (some ⟨w.heap.size + 1 + 1 + 1, 0, none⟩) 1 1, .slice (some ⟨w.heap.size + 1 + 1 + 1 + 1, 0, none⟩) 1 1] 39)).alloc (.cells #[.int .i64 65536] 3)).alloc (.cells #[.int .i64 1, .int .i64 1, .slice (some ⟨w.heap.size + 1, 0, none⟩) 1 1] 31)).alloc (.cells #[.int .i64 0] 3)) 0 3
  have l1 := ((l1.below (low_alloc _ (.cells #[.int .i64 1, .int .i64 1, .slice (some ⟨w.heap.size + 1, 0, none⟩) 1 1] 31)) (Nat.le_refl _)).below (low_alloc _ (.cells #[.int .i64 0] 3)) (Nat.le_refl _)).below (low_alloc _ (.cells #[.int .i64 0] 3)) (Nat.le_refl _)
  have l2 := l2.below (low_alloc _ (.cells #[.int .i64 0] 3)) (Nat.le_refl _)
  have hb := (((((low_alloc w (.cells #[.int .i64 1, .int .i64 1, .slice (some ⟨w.heap.size + 1, 0, none⟩) 1 1, .int .i64 1, .int .i64 1, .slice (some ⟨w.heap.size + 1, 0, none⟩) 1 1, .slice (some ⟨w.heap.size + 1 + 1 + 1, 0, none⟩) 1 1, .slice (some ⟨w.heap.size + 1 + 1 + 1 + 1, 0, none⟩) 1 1] 39)).alloc (by simp) (.cells #[.int .i64 65536] 3)).alloc (by simp; omega) (.cells #[.int .i64 1, .int .i64 1, .slice (some ⟨w.heap.size + 1, 0, none⟩) 1 1] 31)).alloc (by simp; omega) (.cells #[.int .i64 0] 3)).alloc (by simp; omega) (.cells #[.int .i64 0] 3))
  simp only [World.size_alloc] at l1 l2 l3
  exact bodyPost_ret (v := (rpup 1 1 1 (some ⟨w.heap.size + 1, 0, none⟩) 1 (some ⟨w.heap.size + 1, 0, none⟩) 1 (some ⟨w.heap.size + 1 + 1 + 1, 0, none⟩) 1 (some ⟨w.heap.size + 1 + 1 + 1 + 1, 0, none⟩) 1).val) (by simp [results, Try.results23, go_sem, rpup, Pup.val, Pup.cells]) rfl ⟨_, _, _, rfl, ⟨l1, l1, l2, l3⟩, hb⟩
end Go.Proofs.Ytmoeogecafjcmad.Fx
