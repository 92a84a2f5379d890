/- What coachref's Config and Rate return. -/
import Derived.Test.YtkikhfdkibekgaaGreatJ09
import Derived.Test.YtkikhfdkibekgaaGreatJ14
import Derived.Test.YtkikhfdkibekgaaGreatJ07
namespace Go.Proofs.YtkikhfdkibekgaaGreat.Fx
open Go.RowKit

-- WALK
set_option maxHeartbeats 3200000 in
theorem rconfig_calls (c : Cfg) (w : World) : Calls Tryz.prog 15 #[c.val] w fun e w' => e = .returned (.int .i64 (cfgI c)) ∧ Below w.heap.size w w' := by
  have hal := (Below.refl w.heap.size w).alloc (Nat.le_refl _) (.cells c.cells 24)
  obtain ⟨i, h, o, seed, batch, steps, rate, decay, how, keep, clip⟩ := c
  simp only [Cfg.val, Cfg.cells] at *
  unfold cfgI cfgB
  dsimp only
  obtain ⟨x1, X1⟩ : ∃ x, Hid (inB i 1 4 = x) := ⟨_, rfl⟩
  obtain ⟨x2, X2⟩ : ∃ x, Hid (inB h 1 4 = x) := ⟨_, rfl⟩
  obtain ⟨x3, X3⟩ : ∃ x, Hid (inB o 1 4 = x) := ⟨_, rfl⟩
  obtain ⟨x4, X4⟩ : ∃ x, Hid (inB batch 1 8 = x) := ⟨_, rfl⟩
  obtain ⟨x5, X5⟩ : ∃ x, Hid (inB steps 1 40 = x) := ⟨_, rfl⟩
  obtain ⟨x6, X6⟩ : ∃ x, Hid (inB rate 0 2147483647 = x) := ⟨_, rfl⟩
  obtain ⟨x7, X7⟩ : ∃ x, Hid (inB decay 0 1 = x) := ⟨_, rfl⟩
  obtain ⟨x8, X8⟩ : ∃ x, Hid (inB how 0 1 = x) := ⟨_, rfl⟩
  obtain ⟨x9, X9⟩ : ∃ x, Hid (inB keep 0 65536 = x) := ⟨_, rfl⟩
  obtain ⟨x10, X10⟩ : ∃ x, Hid (inB clip 0 2147483647 = x) := ⟨_, rfl⟩
  rw [X1.out, X2.out, X3.out, X4.out, X5.out, X6.out, X7.out, X8.out, X9.out, X10.out]
  obtain ⟨E, HE⟩ : ∃ E : Int, Hid ((if (x1 && x2 && x3 && x4 && x5 && x6 && x7 && x8 && x9 && x10) = true then 0 else 1) = E) := ⟨_, rfl⟩
  rw [HE.out]
  go_enter Tryz.func15, Tryz.ntmps15
  go_wp2_with (go_at_call 30; refine (rin_calls _ _ _ _).mono ?_; rintro e w' ⟨rfl, hw'⟩; replace hw' := hw'.symm; subst hw'; first | rw [X1.out] | rw [X2.out] | rw [X3.out] | rw [X4.out] | rw [X5.out] | rw [X6.out] | rw [X7.out] | rw [X8.out] | rw [X9.out] | rw [X10.out])
  all_goals go_ret
  all_goals first | exact ⟨ret_int ((bad1 (by first | with_reducible assumption | exact not_t (by with_reducible assumption) | exact no_t (by with_reducible assumption))).trans HE.out), hal⟩ | exact ⟨ret_int ((bad2 (by first | with_reducible assumption | exact not_t (by with_reducible assumption) | exact no_t (by with_reducible assumption))).trans HE.out), hal⟩ | exact ⟨ret_int ((bad3 (by first | with_reducible assumption | exact not_t (by with_reducible assumption) | exact no_t (by with_reducible assumption))).trans HE.out), hal⟩ | exact ⟨ret_int ((bad4 (by first | with_reducible assumption | exact not_t (by with_reducible assumption) | exact no_t (by with_reducible assumption))).trans HE.out), hal⟩ | exact ⟨ret_int ((bad5 (by first | with_reducible assumption | exact not_t (by with_reducible assumption) | exact no_t (by with_reducible assumption))).trans HE.out), hal⟩ | exact ⟨ret_int ((bad6 (by first | with_reducible assumption | exact not_t (by with_reducible assumption) | exact no_t (by with_reducible assumption))).trans HE.out), hal⟩ | exact ⟨ret_int ((bad7 (by first | with_reducible assumption | exact not_t (by with_reducible assumption) | exact no_t (by with_reducible assumption))).trans HE.out), hal⟩ | exact ⟨ret_int ((bad8 (by first | with_reducible assumption | exact not_t (by with_reducible assumption) | exact no_t (by with_reducible assumption))).trans HE.out), hal⟩ | exact ⟨ret_int ((bad9 (by first | with_reducible assumption | exact not_t (by with_reducible assumption) | exact no_t (by with_reducible assumption))).trans HE.out), hal⟩ | exact ⟨ret_int ((bad10 (by first | with_reducible assumption | exact not_t (by with_reducible assumption) | exact no_t (by with_reducible assumption))).trans HE.out), hal⟩ | exact ⟨ret_int ((bad0 (by first | with_reducible assumption | exact not_f (by with_reducible assumption)) (by first | with_reducible assumption | exact not_f (by with_reducible assumption)) (by first | with_reducible assumption | exact not_f (by with_reducible assumption)) (by first | with_reducible assumption | exact not_f (by with_reducible assumption)) (by first | with_reducible assumption | exact not_f (by with_reducible assumption)) (by first | with_reducible assumption | exact not_f (by with_reducible assumption)) (by first | with_reducible assumption | exact not_f (by with_reducible assumption)) (by first | with_reducible assumption | exact not_f (by with_reducible assumption)) (by first | with_reducible assumption | exact not_f (by with_reducible assumption)) (by first | with_reducible assumption | exact not_f (by with_reducible assumption))).trans HE.out), hal⟩
-- END WALK

end Go.Proofs.YtkikhfdkibekgaaGreat.Fx

/- What coachref.Course returns, whatever config and examples are handed in. -/
namespace Go.Proofs.YtkikhfdkibekgaaGreat.Fx
open Go.RowKit

theorem course_bad {c : Cfg} {n : Nat} {X : Nat → Exm} {DI DO : Nat → List Int} (hc : cfgB c = true) (h0 : n ≠ 0) (h1 : n ≤ 16) {i : Nat} (hi : i < n) (h : exB c (X i) (DI i) (DO i) = false) : courseI c n X DI DO = 5 := by
  unfold courseI
  rw [if_pos hc, if_neg h0, if_neg (by omega), if_neg (by rw [allEx_no hi h]; decide)]

set_option maxRecDepth 100000 in
set_option maxHeartbeats 3200000 in
theorem rcourse_calls (c : Cfg) (a : Option Addr) (n cap : Nat) (X : Nat → Exm) (DI DO : Nat → List Int) (w : World) (hx : Exs w a n cap X DI DO) :
    Calls Tryz.prog 5 #[c.val, .slice a n cap] w fun e w' => e = .returned (.int .i64 (courseI c n X DI DO)) ∧ Below w.heap.size w w' := by
  have hal := low_alloc w (.cells c.cells 24)
  have HRC : Hid (∀ q, Calls Tryz.prog 15 #[c.val] q fun e w' => e = .returned (.int .i64 (cfgI c)) ∧ Below q.heap.size q w') := fun q => rconfig_calls c q
  cases hc : cfgB c with
  | false =>
    have hE : courseI c n X DI DO = 1 := by unfold courseI; rw [hc]; rfl
    rw [hE]
    rw [cfgI_no hc] at HRC
    clear hE hc hx
    obtain ⟨i, h, o, seed, batch, steps, rate, decay, how, keep, clip⟩ := c
    simp only [Cfg.val, Cfg.cells] at *
    go_enter Tryz.func5, Tryz.ntmps5
    go_wp2_with fail
    refine (HRC.out _).mono ?_
    rintro e w1 ⟨rfl, hw1⟩
    go_wp2
    go_ret
    exact ⟨rfl, hal.trans (hw1.mono hal.size)⟩
  | true =>
    rw [cfgI_yes hc] at HRC
    by_cases h0 : n = 0
    · have hE : courseI c n X DI DO = 1 := by unfold courseI; rw [hc, if_pos rfl, if_pos h0]
      rw [hE]
      have hn : ((n : Int) == 0) = true := by rw [beq_iff_eq]; omega
      clear hE hc hx h0
      obtain ⟨i, h, o, seed, batch, steps, rate, decay, how, keep, clip⟩ := c
      simp only [Cfg.val, Cfg.cells] at *
      go_enter Tryz.func5, Tryz.ntmps5
      go_wp2_with fail
      refine (HRC.out _).mono ?_
      rintro e w1 ⟨rfl, hw1⟩
      go_wp2
      go_ret
      exact ⟨rfl, hal.trans (hw1.mono hal.size)⟩
    · have hn : ((n : Int) == 0) = false := by rw [beq_eq_false_iff_ne]; omega
      by_cases h1 : 16 < n
      · have hE : courseI c n X DI DO = 2 := by unfold courseI; rw [hc, if_pos rfl, if_neg h0, if_pos h1]
        rw [hE]
        have h2 : (16 : Int) < (n : Int) := by omega
        clear hE hc hx h0
        obtain ⟨i, h, o, seed, batch, steps, rate, decay, how, keep, clip⟩ := c
        simp only [Cfg.val, Cfg.cells] at *
        go_enter Tryz.func5, Tryz.ntmps5
        go_wp2_with fail
        refine (HRC.out _).mono ?_
        rintro e w1 ⟨rfl, hw1⟩
        go_wp2
        go_ret
        exact ⟨rfl, hal.trans (hw1.mono hal.size)⟩
      · have h2 : ¬ (16 : Int) < (n : Int) := by omega
        have HBAD : Hid (∀ i, i < n → exB c (X i) (DI i) (DO i) = false → courseI c n X DI DO = 5) := fun i hi hb => course_bad hc h0 (by omega) hi hb
        have HOK : Hid ((∀ i, i < n → exB c (X i) (DI i) (DO i) = true) → courseI c n X DI DO = 0) := fun hb => by unfold courseI; rw [hc, if_pos rfl, if_neg h0, if_neg h1, if_pos (allEx_yes hb)]
        obtain ⟨E, hE⟩ : ∃ E, courseI c n X DI DO = E := ⟨_, rfl⟩
        rw [hE] at HBAD HOK ⊢
        have hside := cfgB_is hc
        have i4 := hside.1.2
        have o4 := hside.2.2.1.2
        have hx1 := hx.below hal (Nat.le_refl _)
        have KB : Hid (∀ q, Below (w.alloc (.cells c.cells 24)).heap.size (w.alloc (.cells c.cells 24)) q → BoxC q w.heap.size c) := fun q hq => boxC hq (by simp)
        clear hE hc hx hside h0
        obtain ⟨i, h, o, seed, batch, steps, rate, decay, how, keep, clip⟩ := c
        simp only [Cfg.val, Cfg.cells] at *
        go_enter Tryz.func5, Tryz.ntmps5
        go_wp2_with fail
        refine (HRC.out _).mono ?_
        rintro e w1 ⟨rfl, hw1⟩
        have hx2 := hx1.below hw1 (Nat.le_refl _)
        obtain ⟨c0, c1, c2, c3, c4, c5, c6, c7, c8, c9, c10⟩ := KB.out _ hw1
        have hb1 := hal.trans (hw1.mono hal.size)
        clear hx1 hw1 hal KB HRC c1 c3 c4 c5 c6 c7 c8 c9 c10
        dsimp only at c0 c2
        go_wp2_with fail
        go_loopw [6] (fun v wr => ∃ k nq : Nat, k ≤ n ∧ v = .int .i64 k ∧ Hid (∀ j, j < k → exB ⟨i, h, o, seed, batch, steps, rate, decay, how, keep, clip⟩ (X j) (DI j) (DO j) = true) ∧ wr = w1.drewN nq) (fun v _ => n - (intOf v).toNat)
        case atStart => exact ⟨0, 0, Nat.zero_le _, rfl, fun j hj => by omega, rfl⟩
        case round =>
          obtain ⟨k, nq0, hk, rfl, hg, hwq⟩ := hrel
          have hx3 : Exs wr a n cap X DI DO := by rw [hwq]; exact hx2.drewN _
          have d0 : wr.cell? ⟨w.heap.size, 0, none⟩ = some (.int .i64 i) := by rw [hwq]; exact c0
          have d2 : wr.cell? ⟨w.heap.size, 2, none⟩ = some (.int .i64 o) := by rw [hwq]; exact c2
          have HW : Hid (wr = w1.drewN nq0) := hwq
          clear hwq hx2 c0 c2
          by_cases hlt : k < n
          · obtain ⟨b, off, rfl, e1, e2, hin⟩ := hx3.at hlt
            have hbad := HBAD.out k hlt
            have hgood : exB ⟨i, h, o, seed, batch, steps, rate, decay, how, keep, clip⟩ (X k) (DI k) (DO k) = true → ∀ j, j < k + 1 → exB ⟨i, h, o, seed, batch, steps, rate, decay, how, keep, clip⟩ (X j) (DI j) (DO j) = true := fun g j hj => by
              by_cases e : j = k
              · subst e; exact g
              · exact hg.out j (by omega)
            obtain ⟨x, hxk⟩ : ∃ x, X k = x := ⟨_, rfl⟩
            rw [hxk] at e1 e2 hin hbad hgood
            obtain ⟨xa, xn, xk, xb, xm, xt⟩ := x
            obtain ⟨lI, lO⟩ := hin
            dsimp only at e1 e2 lI lO
            have HB : Hid (exB ⟨i, h, o, seed, batch, steps, rate, decay, how, keep, clip⟩ ⟨xa, xn, xk, xb, xm, xt⟩ (DI k) (DO k) = false → E = 5) := hbad
            have HG : Hid (exB ⟨i, h, o, seed, batch, steps, rate, decay, how, keep, clip⟩ ⟨xa, xn, xk, xb, xm, xt⟩ (DI k) (DO k) = true → ∀ j, j < k + 1 → exB ⟨i, h, o, seed, batch, steps, rate, decay, how, keep, clip⟩ (X j) (DI j) (DO j) = true) := hgood
            clear hbad hgood hxk hx3 HBAD HOK hg
            by_cases u1 : (xn : Int) = i
            · have v1 : ((xn : Int) != i) = false := by rw [bne_eq_false_iff_eq]; exact u1
              have x4 : xn ≤ 4 := by omega
              have U1 : Hid ((xn : Int) = i) := u1
              clear u1
              by_cases u2 : (xm : Int) = o
              · have v2 : ((xm : Int) != o) = false := by rw [bne_eq_false_iff_eq]; exact u2
                have y4 : xm ≤ 4 := by omega
                have U2 : Hid ((xm : Int) = o) := u2
                clear u2
                cases r1 : rightB (DI k) with
                | false =>
                  have R1 : Hid (rightB (DI k) = false) := r1
                  have HR1 : Hid (∀ q, Lst q xa xn xk (DI k) → Calls Tryz.prog 16 #[.slice xa xn xk] q fun e w' => e = .returned (.bool false) ∧ ∃ k, w' = q.drewN k) := fun q hq => by
                    have g := rright_calls xa xn xk (DI k) q hq (by omega)
                    rw [r1] at g
                    exact g
                  clear r1
                  go_wp2_with fail
                  go_quiet ((go_at_call_of 16 (Value.slice xa xn xk); exact Calls.quiet_of (HR1.out _ (lI.drewN _))))
                  go_wp2
                  go_ret
                  exact ⟨ret_int (HB.out (by simp [exB, R1.out])).symm, by rw [HW.out]; exact below_drewN (below_drewN hb1 _) _⟩
                | true =>
                  cases r2 : rightB (DO k) with
                  | false =>
                    have R1 : Hid (rightB (DI k) = true) := r1
                    have R2 : Hid (rightB (DO k) = false) := r2
                    have HR1 : Hid (∀ q, Lst q xa xn xk (DI k) → Calls Tryz.prog 16 #[.slice xa xn xk] q fun e w' => e = .returned (.bool true) ∧ ∃ k, w' = q.drewN k) := fun q hq => by
                      have g := rright_calls xa xn xk (DI k) q hq (by omega)
                      rw [r1] at g
                      exact g
                    have HR2 : Hid (∀ q, Lst q xb xm xt (DO k) → Calls Tryz.prog 16 #[.slice xb xm xt] q fun e w' => e = .returned (.bool false) ∧ ∃ k, w' = q.drewN k) := fun q hq => by
                      have g := rright_calls xb xm xt (DO k) q hq (by omega)
                      rw [r2] at g
                      exact g
                    go_wp2_with fail
                    go_quiet ((first | (go_at_call_of 16 (Value.slice xa xn xk); exact Calls.quiet_of (HR1.out _ (lI.drewN _))) | (go_at_call_of 16 (Value.slice xb xm xt); exact Calls.quiet_of (HR2.out _ (lO.drewN _)))))
                    go_wp2
                    go_ret
                    exact ⟨ret_int (HB.out (by simp [exB, R2.out])).symm, by rw [HW.out]; exact below_drewN (below_drewN hb1 _) _⟩
                  | true =>
                    have R1 : Hid (rightB (DI k) = true) := r1
                    have R2 : Hid (rightB (DO k) = true) := r2
                    have HR1 : Hid (∀ q, Lst q xa xn xk (DI k) → Calls Tryz.prog 16 #[.slice xa xn xk] q fun e w' => e = .returned (.bool true) ∧ ∃ k, w' = q.drewN k) := fun q hq => by
                      have g := rright_calls xa xn xk (DI k) q hq (by omega)
                      rw [r1] at g
                      exact g
                    have HR2 : Hid (∀ q, Lst q xb xm xt (DO k) → Calls Tryz.prog 16 #[.slice xb xm xt] q fun e w' => e = .returned (.bool true) ∧ ∃ k, w' = q.drewN k) := fun q hq => by
                      have g := rright_calls xb xm xt (DO k) q hq (by omega)
                      rw [r2] at g
                      exact g
                    clear r1 r2
                    go_wp2_with fail
                    go_quiet ((first | (go_at_call_of 16 (Value.slice xa xn xk); exact Calls.quiet_of (HR1.out _ (lI.drewN _))) | (go_at_call_of 16 (Value.slice xb xm xt); exact Calls.quiet_of (HR2.out _ (lO.drewN _)))))
                    go_wp2_with fail
                    go_roundw
                    case rel => exact ⟨k + 1, _, by omega, by go_num, HG.out (by simp [exB, R1.out, R2.out, U1.out, U2.out]), by rw [HW.out, World.drewN_drewN]⟩
                    case measure => simp [intOf]; omega
              · have v2 : ((xm : Int) != o) = true := by rw [bne_iff_ne]; exact u2
                have U2 : Hid (¬ (xm : Int) = o) := u2
                clear u2
                go_wp2_with fail
                go_quiet (fail)
                go_wp2
                go_ret
                exact ⟨ret_int (HB.out (by simp [exB, U2.out])).symm, by rw [HW.out]; exact below_drewN (below_drewN hb1 _) _⟩
            · have v1 : ((xn : Int) != i) = true := by rw [bne_iff_ne]; exact u1
              have U1 : Hid (¬ (xn : Int) = i) := u1
              clear u1
              go_wp2_with fail
              go_quiet (fail)
              go_wp2
              go_ret
              exact ⟨ret_int (HB.out (by simp [exB, U1.out])).symm, by rw [HW.out]; exact below_drewN (below_drewN hb1 _) _⟩
          · obtain rfl : k = n := by omega
            go_wp2
            go_ret
            exact ⟨ret_int (HOK.out hg.out).symm, by rw [HW.out]; exact below_drewN hb1 _⟩

end Go.Proofs.YtkikhfdkibekgaaGreat.Fx
