/- What coachref's Config and Rate return. -/
import Derived.Test.YthmiojmlaclgaaaGreatDoorJ09
import Derived.Test.YthmiojmlaclgaaaGreatDoorJ13
import Derived.Test.YthmiojmlaclgaaaGreatDoorJ06
import Derived.Test.YthmiojmlaclgaaaGreatDoorJ12
namespace Go.Proofs.YthmiojmlaclgaaaGreatDoor.Fx
open Go.RowKit

-- WALK
end Go.Proofs.YthmiojmlaclgaaaGreatDoor.Fx

/- What coachref.Course returns, whatever config and examples are handed in. -/
namespace Go.Proofs.YthmiojmlaclgaaaGreatDoor.Fx
open Go.RowKit

theorem course_bad {c : Cfg} {n : Nat} {X : Nat → Exm} {DI DO : Nat → List Int} (hc : cfgB c = true) (h0 : n ≠ 0) (h1 : n ≤ 16) {i : Nat} (hi : i < n) (h : exB c (X i) (DI i) (DO i) = false) : courseI c n X DI DO = 5 := by
  unfold courseI
  rw [if_pos hc, if_neg h0, if_neg (by omega), if_neg (by rw [allEx_no hi h]; decide)]

end Go.Proofs.YthmiojmlaclgaaaGreatDoor.Fx

/- What train.Check returns, whatever config and examples are handed in. -/
namespace Go.Proofs.YthmiojmlaclgaaaGreatDoor.Fx
open Go.RowKit

set_option maxRecDepth 100000 in
set_option maxHeartbeats 3200000 in
theorem tcheck_calls (c : Cfg) (a : Option Addr) (n cap : Nat) (X : Nat → Exm) (DI DO : Nat → List Int) (w : World) (hx : Exs w a n cap X DI DO) :
    Calls Tryz.prog 83 #[c.val, .slice a n cap] w fun e w' => e = .returned (.int .i64 (courseI c n X DI DO)) ∧ Below w.heap.size w w' := by
  have hal := low_alloc w (.cells c.cells 50)
  have HRC : Hid (∀ q, Calls Tryz.prog 55 #[c.val] q fun e w' => e = .returned (.int .i64 (cfgI c)) ∧ Below q.heap.size q w') := fun q => ocheck_calls c q
  cases hc : cfgB c with
  | false =>
    have hE : courseI c n X DI DO = 1 := by unfold courseI; rw [hc]; rfl
    rw [hE]
    rw [cfgI_no hc] at HRC
    clear hE hc hx
    obtain ⟨i, h, o, seed, batch, steps, rate, decay, how, keep, clip⟩ := c
    simp only [Cfg.val, Cfg.cells] at *
    go_enter Tryz.func83, Tryz.ntmps83
    go_wp2_with fail
    refine (HRC.out _).mono ?_
    rintro e w1 ⟨rfl, hw1⟩
    go_wp2
    go_ret
    exact ⟨rfl, hal.trans (hw1.mono hal.size)⟩
  | true =>
    rw [cfgI_yes hc] at HRC
    by_cases h0 : n = 0
    · have hE : courseI c n X DI DO = 1 := by unfold courseI; rw [hc, if_pos rfl, if_pos h0]
      rw [hE]
      have hn : ((n : Int) == 0) = true := by rw [beq_iff_eq]; omega
      clear hE hc hx h0
      obtain ⟨i, h, o, seed, batch, steps, rate, decay, how, keep, clip⟩ := c
      simp only [Cfg.val, Cfg.cells] at *
      go_enter Tryz.func83, Tryz.ntmps83
      go_wp2_with fail
      refine (HRC.out _).mono ?_
      rintro e w1 ⟨rfl, hw1⟩
      go_wp2
      go_ret
      exact ⟨rfl, hal.trans (hw1.mono hal.size)⟩
    · have hn : ((n : Int) == 0) = false := by rw [beq_eq_false_iff_ne]; omega
      by_cases h1 : 16 < n
      · have hE : courseI c n X DI DO = 2 := by unfold courseI; rw [hc, if_pos rfl, if_neg h0, if_pos h1]
        rw [hE]
        have h2 : (16 : Int) < (n : Int) := by omega
        clear hE hc hx h0
        obtain ⟨i, h, o, seed, batch, steps, rate, decay, how, keep, clip⟩ := c
        simp only [Cfg.val, Cfg.cells] at *
        go_enter Tryz.func83, Tryz.ntmps83
        go_wp2_with fail
        refine (HRC.out _).mono ?_
        rintro e w1 ⟨rfl, hw1⟩
        go_wp2
        go_ret
        exact ⟨rfl, hal.trans (hw1.mono hal.size)⟩
      · have h2 : ¬ (16 : Int) < (n : Int) := by omega
        have HBAD : Hid (∀ i, i < n → exB c (X i) (DI i) (DO i) = false → courseI c n X DI DO = 5) := fun i hi hb => course_bad hc h0 (by omega) hi hb
        have HOK : Hid ((∀ i, i < n → exB c (X i) (DI i) (DO i) = true) → courseI c n X DI DO = 0) := fun hb => by unfold courseI; rw [hc, if_pos rfl, if_neg h0, if_neg h1, if_pos (allEx_yes hb)]
        obtain ⟨E, hE⟩ : ∃ E, courseI c n X DI DO = E := ⟨_, rfl⟩
        rw [hE] at HBAD HOK ⊢
        have hside := cfgB_is hc
        have i4 := hside.1.2
        have o4 := hside.2.2.1.2
        have hx1 := hx.below hal (Nat.le_refl _)
        have KB : Hid (∀ q, Below (w.alloc (.cells c.cells 50)).heap.size (w.alloc (.cells c.cells 50)) q → BoxC q w.heap.size c) := fun q hq => boxC hq (by simp)
        clear hE hc hx hside h0
        obtain ⟨i, h, o, seed, batch, steps, rate, decay, how, keep, clip⟩ := c
        simp only [Cfg.val, Cfg.cells] at *
        go_enter Tryz.func83, Tryz.ntmps83
        go_wp2_with fail
        refine (HRC.out _).mono ?_
        rintro e w1 ⟨rfl, hw1⟩
        have hx2 := hx1.below hw1 (Nat.le_refl _)
        have KB2 : Hid (∀ q, Below w1.heap.size w1 q → BoxC q w.heap.size ⟨i, h, o, seed, batch, steps, rate, decay, how, keep, clip⟩) := fun q hq => KB.out q (hw1.trans (hq.mono hw1.size))
        have hb1 := hal.trans (hw1.mono hal.size)
        clear hx1 hw1 hal KB HRC
        go_wp2_with fail
        go_loopw [21] (fun v wr => ∃ k : Nat, k ≤ n ∧ v = .int .i64 k ∧ Hid (∀ j, j < k → exB ⟨i, h, o, seed, batch, steps, rate, decay, how, keep, clip⟩ (X j) (DI j) (DO j) = true) ∧ Below w1.heap.size w1 wr) (fun v _ => n - (intOf v).toNat)
        case atStart => exact ⟨0, Nat.zero_le _, rfl, fun j hj => by omega, Below.refl _ _⟩
        case round =>
          obtain ⟨k, hk, rfl, hg, hwr⟩ := hrel
          have hx3 : Exs wr a n cap X DI DO := hx2.below hwr (Nat.le_refl _)
          have hz := hwr.size
          by_cases hlt : k < n
          · obtain ⟨b, off, rfl, e1, e2, hin⟩ := hx3.at hlt
            have hbad := HBAD.out k hlt
            have hgood : exB ⟨i, h, o, seed, batch, steps, rate, decay, how, keep, clip⟩ (X k) (DI k) (DO k) = true → ∀ j, j < k + 1 → exB ⟨i, h, o, seed, batch, steps, rate, decay, how, keep, clip⟩ (X j) (DI j) (DO j) = true := fun g j hj => by
              by_cases e : j = k
              · subst e; exact g
              · exact hg.out j (by omega)
            obtain ⟨x, hxk⟩ : ∃ x, X k = x := ⟨_, rfl⟩
            rw [hxk] at e1 e2 hin hbad hgood
            obtain ⟨xa, xn, xk, xb, xm, xt⟩ := x
            dsimp only at e1 e2
            have hq := hwr.alloc hwr.size (.cells #[.slice xa xn xk, .slice xb xm xt] 78)
            have hlow := low_alloc wr (.cells #[.slice xa xn xk, .slice xb xm xt] 78)
            have ⟨c0, _, c2, _, _, _, _, _, _, _, _⟩ := KB2.out _ hq
            dsimp only at c0 c2
            obtain ⟨lI, lO⟩ := hin.below hlow (Nat.le_refl _)
            dsimp only at lI lO
            have HL1 : Hid (Calls Tryz.prog 124 #[.slice xa xn xk, .int .i64 i] (wr.alloc (.cells #[.slice xa xn xk, .slice xb xm xt] 78)) fun e w' => e = .returned (.bool (decide ((xn : Int) = i) && rightB (DI k))) ∧ w' = wr.alloc (.cells #[.slice xa xn xk, .slice xb xm xt] 78)) := isList_calls xa xn xk (DI k) i _ lI (by omega)
            have HL2 : Hid (Calls Tryz.prog 124 #[.slice xb xm xt, .int .i64 o] (wr.alloc (.cells #[.slice xa xn xk, .slice xb xm xt] 78)) fun e w' => e = .returned (.bool (decide ((xm : Int) = o) && rightB (DO k))) ∧ w' = wr.alloc (.cells #[.slice xa xn xk, .slice xb xm xt] 78)) := isList_calls xb xm xt (DO k) o _ lO (by omega)
            have hex : exB ⟨i, h, o, seed, batch, steps, rate, decay, how, keep, clip⟩ ⟨xa, xn, xk, xb, xm, xt⟩ (DI k) (DO k) = ((decide ((xn : Int) = i) && rightB (DI k)) && (decide ((xm : Int) = o) && rightB (DO k))) := by
              unfold exB
              dsimp only
              cases decide ((xn : Int) = i) <;> cases decide ((xm : Int) = o) <;> cases rightB (DI k) <;> cases rightB (DO k) <;> rfl
            rw [hex] at hbad hgood
            generalize (decide ((xn : Int) = i) && rightB (DI k)) = p1 at *
            generalize (decide ((xm : Int) = o) && rightB (DO k)) = p2 at *
            have HB : Hid ((p1 && p2) = false → E = 5) := hbad
            have HG : Hid ((p1 && p2) = true → ∀ j, j < k + 1 → exB ⟨i, h, o, seed, batch, steps, rate, decay, how, keep, clip⟩ (X j) (DI j) (DO j) = true) := hgood
            clear hbad hgood hxk hx3 HBAD HOK hg hex lI lO hin
            cases p1 with
            | false =>
              go_wp2_with (go_at_call 124; refine HL1.out.mono ?_; rintro e w' ⟨rfl, hw'⟩; subst hw')
              go_ret
              exact ⟨ret_int (HB.out rfl).symm, hb1.trans (hq.mono hb1.size)⟩
            | true =>
              cases p2 with
              | false =>
                go_wp2_with (first | (go_at_call_of 124 (Value.slice xa xn xk); refine HL1.out.mono ?_; rintro e w' ⟨rfl, hw'⟩; subst hw') | (go_at_call_of 124 (Value.slice xb xm xt); refine HL2.out.mono ?_; rintro e w' ⟨rfl, hw'⟩; subst hw'))
                go_ret
                exact ⟨ret_int (HB.out rfl).symm, hb1.trans (hq.mono hb1.size)⟩
              | true =>
                go_wp2_with (first | (go_at_call_of 124 (Value.slice xa xn xk); refine HL1.out.mono ?_; rintro e w' ⟨rfl, hw'⟩; subst hw') | (go_at_call_of 124 (Value.slice xb xm xt); refine HL2.out.mono ?_; rintro e w' ⟨rfl, hw'⟩; subst hw'))
                go_roundw
                case rel => exact ⟨k + 1, by omega, by go_num, HG.out rfl, hq⟩
                case measure => simp [intOf]; omega
          · obtain rfl : k = n := by omega
            go_wp2
            go_ret
            exact ⟨ret_int (HOK.out hg.out).symm, hb1.trans (hwr.mono hb1.size)⟩
end Go.Proofs.YthmiojmlaclgaaaGreatDoor.Fx
