/- What pupil.Check returns, whatever pupil lies there. -/
import Derived.Test.YtmoeogecafjcmaaPupA
namespace Go.Proofs.Ytmoeogecafjcmaa.Fx
open Go.RowKit

set_option maxHeartbeats 1600000 in
theorem pcheck_calls (p : Pup) (d : PD) (w : World) (h : InPup w p d) :
    Calls Try.prog 34 #[p.val] w fun e w' => e = .returned (.int .i64 (pchk p d)) ∧ Below w.heap.size w w' := by
  obtain ⟨r1, c1, a1, n1, k1, r2, c2, a2, n2, k2, d1, m1, e1, d2, m2, e2⟩ := p
  obtain ⟨X1, X2, B1, B2⟩ := d
  obtain ⟨hx1, hx2, hb1, hb2⟩ := h
  simp only [Pup.val, Pup.cells] at *
  have hal := (Below.refl w.heap.size w).alloc (Nat.le_refl _) (.cells #[.int .i64 r1, .int .i64 c1, .slice a1 n1 k1, .int .i64 r2, .int .i64 c2, .slice a2 n2 k2, .slice d1 m1 e1, .slice d2 m2 e2] 47)
  have hx1 := hx1.below hal (Nat.le_refl _)
  go_enter Try.func34, Try.ntmps34
  go_wp2_with fail
  refine (check_calls _ _ _ _ _ X1 _ hx1).mono ?_
  rintro e w1 ⟨rfl, hw1⟩
  have hbw := hal.trans (hw1.mono hal.size)
  have hx2 := hx2.below hbw (Nat.le_refl _)
  obtain ⟨f0, f1, f2, f3, f4, f5, f6, f7⟩ := box8 hw1 (by simp)
  rcases chkI_cases r1 c1 n1 X1 with h1 | ⟨h1, t1, _⟩
  · have G1 : Hid (chkI r1 c1 n1 X1 = 0) := h1
    clear h1 hx1
    rw [G1.out]
    go_wp2_with fail
    refine (check_calls _ _ _ _ _ X2 _ hx2).mono ?_
    rintro e w2 ⟨rfl, hw2⟩
    clear hx2 f0 f1 f2 f3 f4 f5 f6 f7
    have hbw2 := hbw.trans (hw2.mono hbw.size)
    obtain ⟨f0, f1, f2, f3, f4, f5, f6, f7⟩ := box8 (hw1.trans (hw2.mono hw1.size)) (by simp)
    have hb1 := hb1.below hbw2 (Nat.le_refl _)
    have hb2 := hb2.below hbw2 (Nat.le_refl _)
    clear hw1 hw2 hbw hal
    rcases chkI_cases r2 c2 n2 X2 with h2 | ⟨h2, t2, _⟩
    · have G2 : Hid (chkI r2 c2 n2 X2 = 0) := h2
      clear h2
      rw [G2.out]
      obtain ⟨R1, C1, rfl, rfl, p1, p2, p3, p4, rfl, g1⟩ := chkI_zero G1.out
      obtain ⟨R2, C2, rfl, rfl, q1, q2, q3, q4, rfl, g2⟩ := chkI_zero G2.out
      by_cases u1 : C2 = R1
      · have s1 : ((C2 : Int) != (R1 : Int)) = false := by rw [bne_eq_false_iff_eq]; omega
        by_cases u2 : m1 = R1
        · have s2 : ((m1 : Int) != (R1 : Int)) = false := by rw [bne_eq_false_iff_eq]; omega
          by_cases u3 : m2 = R2
          · have s3 : ((m2 : Int) != (R2 : Int)) = false := by rw [bne_eq_false_iff_eq]; omega
            have HU : Hid (((C2 : Int) = (R1 : Int) ∧ (m1 : Int) = (R1 : Int) ∧ (m2 : Int) = (R2 : Int))) := ⟨by omega, by omega, by omega⟩
            have l1 : m1 ≤ 4 := by omega
            have l2 : m2 ≤ 4 := by omega
            clear u1 u2 u3
            go_wp2_with fail
            refine (inb_calls _ _ _ B1 _ hb1 (by omega)).mono ?_
            rintro e w3 ⟨rfl, hw3⟩
            replace hw3 := hw3.symm
            subst hw3
            cases z1 : rightB B1 with
            | false =>
              go_wp2
              go_ret
              exact ⟨ret_int (by unfold pchk; dsimp only; rw [if_pos G1.out, if_pos G2.out, if_neg (fun h => by have := h.2.1; rw [z1] at this; cases this)]), hbw2⟩
            | true =>
              go_wp2_with fail
              refine (inb_calls _ _ _ B2 _ hb2 (by omega)).mono ?_
              rintro e w3 ⟨rfl, hw3⟩
              replace hw3 := hw3.symm
              subst hw3
              cases z2 : rightB B2 with
              | false =>
                go_wp2
                go_ret
                exact ⟨ret_int (by unfold pchk; dsimp only; rw [if_pos G1.out, if_pos G2.out, if_neg (fun h => by have := h.2.2; rw [z2] at this; cases this)]), hbw2⟩
              | true =>
                go_wp2
                go_ret
                exact ⟨ret_int (by unfold pchk; dsimp only; rw [if_pos G1.out, if_pos G2.out, if_pos ⟨HU.out, z1, z2⟩]), hbw2⟩
          · have s3 : ((m2 : Int) != (R2 : Int)) = true := by rw [bne_iff_ne]; omega
            clear u1 u2
            go_wp2
            go_ret
            exact ⟨ret_int (by unfold pchk; dsimp only; rw [if_pos G1.out, if_pos G2.out, if_neg (by omega)]), hbw2⟩
        · have s2 : ((m1 : Int) != (R1 : Int)) = true := by rw [bne_iff_ne]; omega
          clear u1
          go_wp2
          go_ret
          exact ⟨ret_int (by unfold pchk; dsimp only; rw [if_pos G1.out, if_pos G2.out, if_neg (by omega)]), hbw2⟩
      · have s1 : ((C2 : Int) != (R1 : Int)) = true := by rw [bne_iff_ne]; omega
        go_wp2
        go_ret
        exact ⟨ret_int (by unfold pchk; dsimp only; rw [if_pos G1.out, if_pos G2.out, if_neg (by omega)]), hbw2⟩
    · go_wp2
      go_ret
      exact ⟨ret_int (by unfold pchk; dsimp only; rw [if_pos G1.out, if_neg h2]), hbw2⟩
  · go_wp2
    go_ret
    exact ⟨ret_int (by unfold pchk; dsimp only; rw [if_neg h1]), hbw⟩
end Go.Proofs.Ytmoeogecafjcmaa.Fx
