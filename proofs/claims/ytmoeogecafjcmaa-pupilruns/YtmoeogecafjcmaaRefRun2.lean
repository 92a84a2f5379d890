/- What coachref's Fits and Loss return. -/
import Derived.Test.YtmoeogecafjcmaaRefRun
namespace Go.Proofs.Ytmoeogecafjcmaa.Fx
open Go.RowKit

set_option maxHeartbeats 800000 in
theorem rfits_calls (I H O : Nat) (a1 : Option Addr) (k1 : Nat) (a2 : Option Addr) (k2 : Nat) (d1 : Option Addr) (e1 : Nat) (d2 : Option Addr) (e2 : Nat) (v : Option Addr) (nv cv : Nat) (u : Option Addr) (nu cu : Nat) (w : World) :
    Calls Try.prog 41 #[(rpup I H O a1 k1 a2 k2 d1 e1 d2 e2).val, .agg #[.slice v nv cv, .slice u nu cu]] w fun e w' => e = .returned (.bool (decide (nv = I ∧ nu = O))) ∧ Below w.heap.size w w' := by
  have hal0 := (Below.refl w.heap.size w).alloc (Nat.le_refl _) (.cells (rpup I H O a1 k1 a2 k2 d1 e1 d2 e2).cells 47)
  have hal := hal0.alloc hal0.size (.cells #[.slice v nv cv, .slice u nu cu] 59)
  clear hal0
  simp only [Pup.val, Pup.cells, rpup] at *
  by_cases h1 : nv = I
  · have t1 : ((nv : Int) == (I : Int)) = true := by rw [beq_iff_eq]; omega
    by_cases h2 : nu = O
    · have t2 : ((nu : Int) == (O : Int)) = true := by rw [beq_iff_eq]; omega
      have HD : Hid (decide (nv = I ∧ nu = O) = true) := decide_eq_true ⟨h1, h2⟩
      rw [HD.out]
      clear h1 h2
      go_enter Try.func41, Try.ntmps41
      go_wp2
      go_ret
      exact ⟨rfl, hal⟩
    · have t2 : ((nu : Int) == (O : Int)) = false := by rw [beq_eq_false_iff_ne]; omega
      have HD : Hid (decide (nv = I ∧ nu = O) = false) := decide_eq_false (fun h => h2 h.2)
      rw [HD.out]
      clear h1 h2
      go_enter Try.func41, Try.ntmps41
      go_wp2
      go_ret
      exact ⟨rfl, hal⟩
  · have t1 : ((nv : Int) == (I : Int)) = false := by rw [beq_eq_false_iff_ne]; omega
    have HD : Hid (decide (nv = I ∧ nu = O) = false) := decide_eq_false (fun h => h1 h.1)
    rw [HD.out]
    clear h1
    go_enter Try.func41, Try.ntmps41
    go_wp2
    go_ret
    exact ⟨rfl, hal⟩

set_option maxHeartbeats 1600000 in
theorem rloss_calls (I H O : Nat) (a1 : Option Addr) (k1 : Nat) (a2 : Option Addr) (k2 : Nat) (d1 : Option Addr) (e1 : Nat) (d2 : Option Addr) (e2 : Nat) (d : PD) (v : Option Addr) (cv : Nat) (xs : List Int) (u : Option Addr) (cu : Nat) (ys : List Int) (w : World) (h : InPup w (rpup I H O a1 k1 a2 k2 d1 e1 d2 e2) d) (hv : Lst w v I cv xs) (hu : Lst w u O cu ys) (i2 : I ≤ 4) (j1 : 1 ≤ H) (j2 : H ≤ 4) (o1 : 1 ≤ O) (o2 : O ≤ 4) :
    Calls Try.prog 42 #[(rpup I H O a1 k1 a2 k2 d1 e1 d2 e2).val, .agg #[.slice v I cv, .slice u O cu]] w fun e w' => e = .returned (.int .i64 (lossI d xs ys I H O)) ∧ Below w.heap.size w w' := by
  have hal0 := (Below.refl w.heap.size w).alloc (Nat.le_refl _) (.cells (rpup I H O a1 k1 a2 k2 d1 e1 d2 e2).cells 47)
  have hal := hal0.alloc hal0.size (.cells #[.slice v I cv, .slice u O cu] 59)
  have hc := rforward_calls I H O a1 k1 a2 k2 d1 e1 d2 e2 d v cv xs _ (h.below hal (Nat.le_refl _)) (hv.below hal (Nat.le_refl _)) i2 j1 j2 o1 o2
  have hu0 := hu.below hal (Nat.le_refl _)
  clear hal0 h hv hu
  simp only [Pup.val, Pup.cells, rpup] at *
  go_enter Try.func42, Try.ntmps42
  go_wp2_with fail
  refine hc.mono ?_
  rintro e w1 ⟨ah, ch, ay, cy, _, rfl, _, hy, hw1⟩
  have hbw := hal.trans (hw1.mono hal.size)
  obtain ⟨_, x1⟩ := boxE hw1 (by simp)
  have hu1 := hu0.below hw1 (Nat.le_refl _)
  clear hc hw1 hal hu0
  go_wp2
  go_loopw [7, 8] (fun s i wr => ∃ k n : Nat, k ≤ O ∧ i = .int .i64 k ∧ s = .int .i64 (dotTo (difL d xs ys I H O) (difL d xs ys I H O) k) ∧ wr = w1.drewN n) (fun _ i _ => O - (intOf i).toNat)
  case atStart => exact ⟨0, 0, Nat.zero_le _, rfl, rfl, rfl⟩
  case round =>
    obtain ⟨k, n, hk, rfl, rfl, hw⟩ := hrel
    have hy' : Lst wr ay O cy (outYL d xs I H O) := hw ▸ hy.drewN n
    have hu' : Lst wr u O cu ys := hw ▸ hu1.drewN n
    have x1' : wr.cell? ⟨w.heap.size + 1, 1, none⟩ = some (.slice u O cu) := by rw [hw]; simpa using x1
    have HW : Hid (wr = w1.drewN n) := hw
    clear hw
    by_cases hlt : k < O
    · obtain ⟨b1, o1', x, rfl, _, c1, HX⟩ := hy'.at1 hlt
      obtain ⟨b2, o2', y, rfl, _, c2, HY⟩ := hu'.at1 hlt
      have HD : Hid ((difL d xs ys I H O).getD k 0 = subI x y) := by
        show ((List.range O).map (lessG (outYL d xs I H O) ys)).getD k 0 = _
        rw [map_range_get _ _ _ hlt]; unfold lessG; rw [HX.out, HY.out]
      go_wp2
      go_quiet ((go_at_call 15; exact Calls.quiet_of_same (rsub_calls _ _ _)))
      go_wp2_with (first | (go_at_call 17; refine (rmul_calls _ _ _).mono ?_; rintro e w' ⟨rfl, rfl⟩) | (go_at_call 13; refine (radd_calls _ _ _).mono ?_; rintro e w' ⟨rfl, rfl⟩))
      go_roundw
      case rel => exact ⟨k + 1, _, by omega, by go_num, by simp only [dotTo, HD.out], by rw [HW.out, World.drewN_drewN]⟩
      case measure => simp [intOf]; omega
    · obtain rfl : k = O := by omega
      go_wp2
      go_ret
      refine ⟨rfl, ?_⟩
      rw [HW.out]
      exact below_drewN hbw _
end Go.Proofs.Ytmoeogecafjcmaa.Fx
