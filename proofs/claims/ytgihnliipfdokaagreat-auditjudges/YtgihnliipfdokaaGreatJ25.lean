/- What coachref's Size, StateFits and SameState return. -/
import Derived.Test.YtgihnliipfdokaaGreatJ17
namespace Go.Proofs.YtgihnliipfdokaaGreat.Fx
open Go.RowKit

theorem rsizeI_calls (i h o : Int) (w : World) (i1 : 1 ≤ i) (i2 : i ≤ 4) (h1 : 1 ≤ h) (h2 : h ≤ 4) (o1 : 1 ≤ o) (o2 : o ≤ 4) :
    Calls Tryz.prog 54 #[.int .i64 i, .int .i64 h, .int .i64 o] w fun e w' => e = .returned (.int .i64 (h * i + h + o * h + o)) ∧ w' = w := by
  have s1 : h * (i + 1) = h * i + h := by rw [Int.mul_add, Int.mul_one]
  have s2 : o * (h + 1) = o * h + o := by rw [Int.mul_add, Int.mul_one]
  have a1 := Int.mul_le_mul_of_nonneg_right (c := i) h2 (by omega)
  have a2 := Int.mul_le_mul_of_nonneg_right (c := i) h1 (by omega)
  have b1 := Int.mul_le_mul_of_nonneg_right (c := h) o2 (by omega)
  have b2 := Int.mul_le_mul_of_nonneg_right (c := h) o1 (by omega)
  have c1 : 0 ≤ h * i := by omega
  have c2 : h * i ≤ 16 := by omega
  have c3 : 0 ≤ o * h := by omega
  have c4 : o * h ≤ 16 := by omega
  clear a1 a2 b1 b2
  go_enter Tryz.func54, Tryz.ntmps54
  go_wp2
  go_ret
  exact ⟨ret_int (by omega), rfl⟩

theorem fit_two {c : Cfg} {n1 n2 : Nat} {ws ms : List Int} {S : Int} {p q r s : Bool} (hS : sizeN c = S) (hp : decide ((n1 : Int) = S) = p) (hq : decide ((n2 : Int) = S) = q) (hr : rightB ws = r) (hs : rightB ms = s) : (fitB c n1 ws && fitB c n2 ms) = (p && q && r && s) := by
  unfold fitB
  rw [hS, hp, hq, hr, hs]
  cases p <;> cases q <;> cases r <;> cases s <;> rfl

set_option maxHeartbeats 1600000 in
theorem rstfits_calls (c : Cfg) (hc : cfgB c = true) (a1 : Option Addr) (n1 k1 : Nat) (a2 : Option Addr) (n2 k2 : Nat) (ws ms : List Int) (w : World) (l1 : Lst w a1 n1 k1 ws) (l2 : Lst w a2 n2 k2 ms) :
    Calls Tryz.prog 27 #[c.val, .agg #[.slice a1 n1 k1, .slice a2 n2 k2]] w fun e w' => e = .returned (.bool (fitB c n1 ws && fitB c n2 ms)) ∧ Below w.heap.size w w' := by
  have hal := ((Below.refl w.heap.size w).alloc (Nat.le_refl _) (.cells c.cells 24)).alloc (by simp) (.cells #[.slice a1 n1 k1, .slice a2 n2 k2] 35)
  have l1 := l1.below hal (Nat.le_refl _)
  have l2 := l2.below hal (Nat.le_refl _)
  obtain ⟨⟨i1, i2⟩, ⟨h1, h2⟩, ⟨o1, o2⟩, _⟩ := cfgB_is hc
  have hz := sizeN_bd hc
  have RS : ∀ q, Calls Tryz.prog 54 #[.int .i64 c.i, .int .i64 c.h, .int .i64 c.o] q fun e w' => e = .returned (.int .i64 (sizeN c)) ∧ w' = q := fun q => rsizeI_calls c.i c.h c.o q i1 i2 h1 h2 o1 o2
  have FT := @fit_two c n1 n2 ws ms
  generalize (fitB c n1 ws && fitB c n2 ms) = F at *
  generalize sizeN c = S at *
  have HRS : Hid (∀ q, Calls Tryz.prog 54 #[.int .i64 c.i, .int .i64 c.h, .int .i64 c.o] q fun e w' => e = .returned (.int .i64 S) ∧ w' = q) := RS
  clear RS i1 i2 h1 h2 o1 o2 hc
  by_cases e1 : (n1 : Int) = S
  · have b1 : ((n1 : Int) == S) = true := by simpa using e1
    by_cases e2 : (n2 : Int) = S
    · have b2 : ((n2 : Int) == S) = true := by simpa using e2
      cases e3 : rightB ws with
      | true =>
        have hF := FT rfl (decide_eq_true e1) (decide_eq_true e2) e3 rfl
        rw [show (true && true && true && rightB ms) = rightB ms from by cases rightB ms <;> rfl] at hF
        subst hF
        have h1000 : n1 ≤ 1000 := by omega
        have h2000 : n2 ≤ 1000 := by omega
        have HE : Hid (rightB ws = true) := e3
        clear e1 e2 e3 FT
        obtain ⟨i, h, o, seed, batch, steps, rate, decay, how, keep, clip⟩ := c
        simp only [Cfg.val, Cfg.cells] at *
        go_enter Tryz.func27, Tryz.ntmps27
        go_wp2_with (go_at_call 54; refine (HRS.out _).mono ?_; rintro e w' ⟨rfl, hw'⟩; replace hw' := hw'.symm; subst hw')
        refine (rright_calls _ _ _ ws _ l1 (by omega)).mono ?_
        rintro e w1 ⟨rfl, kk, hw'⟩
        subst hw'
        rw [HE.out]
        go_wp2_with fail
        refine (rright_calls _ _ _ ms _ (l2.drewN _) (by omega)).mono ?_
        rintro e w1 ⟨rfl, kk2, hw'⟩
        subst hw'
        go_wp2
        go_ret
        exact ⟨rfl, below_drewN hal _⟩
      | false =>
        have hF := FT rfl (decide_eq_true e1) (decide_eq_true e2) e3 rfl
        rw [show (true && true && false && rightB ms) = false from by cases rightB ms <;> rfl] at hF
        subst hF
        have h1000 : n1 ≤ 1000 := by omega
        have HE : Hid (rightB ws = false) := e3
        clear e1 e2 e3 FT
        obtain ⟨i, h, o, seed, batch, steps, rate, decay, how, keep, clip⟩ := c
        simp only [Cfg.val, Cfg.cells] at *
        go_enter Tryz.func27, Tryz.ntmps27
        go_wp2_with (go_at_call 54; refine (HRS.out _).mono ?_; rintro e w' ⟨rfl, hw'⟩; replace hw' := hw'.symm; subst hw')
        refine (rright_calls _ _ _ ws _ l1 (by omega)).mono ?_
        rintro e w1 ⟨rfl, kk, hw'⟩
        subst hw'
        rw [HE.out]
        go_wp2
        go_ret
        exact ⟨rfl, below_drewN hal _⟩
    · have b2 : ((n2 : Int) == S) = false := by simpa using e2
      have hF := FT rfl (decide_eq_true e1) (decide_eq_false e2) rfl rfl
      rw [show (true && false && rightB ws && rightB ms) = false from by cases rightB ws <;> cases rightB ms <;> rfl] at hF
      subst hF
      clear e1 e2 FT
      obtain ⟨i, h, o, seed, batch, steps, rate, decay, how, keep, clip⟩ := c
      simp only [Cfg.val, Cfg.cells] at *
      go_enter Tryz.func27, Tryz.ntmps27
      go_wp2_with (go_at_call 54; refine (HRS.out _).mono ?_; rintro e w' ⟨rfl, hw'⟩; replace hw' := hw'.symm; subst hw')
      go_ret
      exact ⟨rfl, hal⟩
  · have b1 : ((n1 : Int) == S) = false := by simpa using e1
    have hF := FT rfl (decide_eq_false e1) rfl rfl rfl
    rw [show (false && decide ((n2 : Int) = S) && rightB ws && rightB ms) = false from rfl] at hF
    subst hF
    clear e1 FT
    obtain ⟨i, h, o, seed, batch, steps, rate, decay, how, keep, clip⟩ := c
    simp only [Cfg.val, Cfg.cells] at *
    go_enter Tryz.func27, Tryz.ntmps27
    go_wp2_with (go_at_call 54; refine (HRS.out _).mono ?_; rintro e w' ⟨rfl, hw'⟩; replace hw' := hw'.symm; subst hw')
    go_ret
    exact ⟨rfl, hal⟩

set_option maxHeartbeats 800000 in
theorem rsameS_calls (a1 : Option Addr) (n1 k1 : Nat) (a2 : Option Addr) (n2 k2 : Nat) (b1 : Option Addr) (m1 d1 : Nat) (b2 : Option Addr) (m2 d2 : Nat) (XS YS : List Int) (w : World) (l1 : Lst w a1 n1 k1 XS) (l2 : Lst w a2 n2 k2 YS) (l3 : Lst w b1 m1 d1 XS) (l4 : Lst w b2 m2 d2 YS) (h1 : n1 ≤ 200) (h2 : n2 ≤ 200) :
    Calls Tryz.prog 21 #[.agg #[.slice a1 n1 k1, .slice a2 n2 k2], .agg #[.slice b1 m1 d1, .slice b2 m2 d2]] w fun e w' => e = .returned (.bool true) ∧ Below w.heap.size w w' := by
  have hal := ((Below.refl w.heap.size w).alloc (Nat.le_refl _) (.cells #[.slice a1 n1 k1, .slice a2 n2 k2] 35)).alloc (by simp) (.cells #[.slice b1 m1 d1, .slice b2 m2 d2] 35)
  have l1 := l1.below hal (Nat.le_refl _)
  have l2 := l2.below hal (Nat.le_refl _)
  have l3 := l3.below hal (Nat.le_refl _)
  have l4 := l4.below hal (Nat.le_refl _)
  go_enter Tryz.func21, Tryz.ntmps21
  go_wp2_with fail
  refine (eq_calls _ _ _ _ _ _ XS XS _ l1 l3 (by omega)).mono ?_
  rintro e w1 ⟨rfl, k5, hw5⟩
  subst hw5
  rw [decide_eq_true (Eq.refl XS)]
  go_wp2_with fail
  refine (eq_calls _ _ _ _ _ _ YS YS _ (l2.drewN _) (l4.drewN _) (by omega)).mono ?_
  rintro e w1 ⟨rfl, k6, hw6⟩
  subst hw6
  rw [decide_eq_true (Eq.refl YS)]
  go_wp2
  go_ret
  exact ⟨rfl, below_drewN hal _⟩

end Go.Proofs.YtgihnliipfdokaaGreat.Fx
