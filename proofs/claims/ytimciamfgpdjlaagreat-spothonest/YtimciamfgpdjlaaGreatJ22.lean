/- What spot.Prove and spot.Holds return, whatever is handed in. -/
import Derived.Test.YtimciamfgpdjlaaGreatJ19
import Derived.Test.YtimciamfgpdjlaaGreatJ21
import Derived.Test.YtimciamfgpdjlaaGreatJ18
import Derived.Test.YtimciamfgpdjlaaGreatJ10
namespace Go.Proofs.YtimciamfgpdjlaaGreat.Fx
open Go.RowKit

set_option maxHeartbeats 800000 in
theorem prove_c (c : Cfg) (a : Option Addr) (n cap : Nat) (m E : Int) (w : World) (hE : E ≠ 0) (HC : Hid (∀ q, Below w.heap.size w q → Calls Tryz.prog 54 #[c.val, .slice a n cap] q fun e w' => e = .returned (.int .i64 E) ∧ Below q.heap.size q w')) :
    Calls Tryz.prog 12 #[c.val, .slice a n cap, .int .i64 m] w fun e w' => e = .returned (.tuple #[.agg #[.slice none 0 0, .slice none 0 0], .int .i64 E]) ∧ Below w.heap.size w w' := by
  have lb0 := LawBox.start w c (.slice none 0 0) (.slice none 0 0)
  have hne : (E != 0) = true := by rw [bne_iff_ne]; exact hE
  have CK := HC.out _ lb0.bel
  clear hE HC
  obtain ⟨i, h, o, seed, batch, steps, crate, decay, how, keep, clip⟩ := c
  simp only [Cfg.val, Cfg.cells] at *
  go_enter Tryz.func12, Tryz.ntmps12
  go_wp2_with fail
  refine CK.mono ?_
  rintro e w1 ⟨rfl, hw1⟩
  have lb1 := lb0.below hw1
  clear hw1 lb0 CK
  have ⟨_, hr1, hb1⟩ := lb1
  obtain ⟨r0, r1⟩ := fn2_cells hr1
  have f0 := hr1.frozen 0
  have f1 := hr1.frozen 1
  go_wp2_with fail
  obtain ⟨q0, q1⟩ := fn2_cells (fn2_set hr1 (.slice none 0 0) (.slice none 0 0))
  exact bodyPost_ret (v := .tuple #[.agg #[.slice none 0 0, .slice none 0 0], .int .i64 E]) (by simp [results, Tryz.results12, go_sem, q0, q1]) rfl ⟨rfl, (hb1.setCell (show w.heap.size ≤ w.heap.size + 1 by omega) _).setCell (show w.heap.size ≤ w.heap.size + 1 by omega) _⟩

set_option maxHeartbeats 800000 in
theorem prove_r (c : Cfg) (a : Option Addr) (n cap : Nat) (m : Int) (w : World) (hm : inB m 0 (c.steps - 1) = false) (HC : Hid (∀ q, Below w.heap.size w q → Calls Tryz.prog 54 #[c.val, .slice a n cap] q fun e w' => e = .returned (.int .i64 0) ∧ Below q.heap.size q w')) :
    Calls Tryz.prog 12 #[c.val, .slice a n cap, .int .i64 m] w fun e w' => e = .returned (.tuple #[.agg #[.slice none 0 0, .slice none 0 0], .int .i64 1]) ∧ Below w.heap.size w w' := by
  have hlow : ¬ (0 ≤ m ∧ m ≤ c.steps - 1) := fun g => by rw [in_yes g] at hm; cases hm
  have lb0 := LawBox.start w c (.slice none 0 0) (.slice none 0 0)
  have CK := HC.out _ lb0.bel
  clear hm HC
  obtain ⟨i, h, o, seed, batch, steps, crate, decay, how, keep, clip⟩ := c
  simp only [Cfg.val, Cfg.cells] at *
  by_cases hn : m < 0
  · go_enter Tryz.func12, Tryz.ntmps12
    go_wp2_with fail
    refine CK.mono ?_
    rintro e w1 ⟨rfl, hw1⟩
    have lb1 := lb0.below hw1
    clear hw1 lb0 CK
    have ⟨_, hr1, hb1⟩ := lb1
    obtain ⟨r0, r1⟩ := fn2_cells hr1
    have f0 := hr1.frozen 0
    have f1 := hr1.frozen 1
    go_wp2_with fail
    obtain ⟨q0, q1⟩ := fn2_cells (fn2_set hr1 (.slice none 0 0) (.slice none 0 0))
    exact bodyPost_ret (v := .tuple #[.agg #[.slice none 0 0, .slice none 0 0], .int .i64 1]) (by simp [results, Tryz.results12, go_sem, q0, q1]) rfl ⟨rfl, (hb1.setCell (show w.heap.size ≤ w.heap.size + 1 by omega) _).setCell (show w.heap.size ≤ w.heap.size + 1 by omega) _⟩
  · have hge : steps ≤ m := by omega
    go_enter Tryz.func12, Tryz.ntmps12
    go_wp2_with fail
    refine CK.mono ?_
    rintro e w1 ⟨rfl, hw1⟩
    have lb1 := lb0.below hw1
    have c5 := lb1.cfg.c5
    dsimp only at c5
    clear hw1 lb0 CK
    have ⟨_, hr1, hb1⟩ := lb1
    obtain ⟨r0, r1⟩ := fn2_cells hr1
    have f0 := hr1.frozen 0
    have f1 := hr1.frozen 1
    go_wp2_with fail
    obtain ⟨q0, q1⟩ := fn2_cells (fn2_set hr1 (.slice none 0 0) (.slice none 0 0))
    exact bodyPost_ret (v := .tuple #[.agg #[.slice none 0 0, .slice none 0 0], .int .i64 1]) (by simp [results, Tryz.results12, go_sem, q0, q1]) rfl ⟨rfl, (hb1.setCell (show w.heap.size ≤ w.heap.size + 1 by omega) _).setCell (show w.heap.size ≤ w.heap.size + 1 by omega) _⟩

set_option maxRecDepth 100000 in
set_option maxHeartbeats 800000 in
theorem prove_good (c : Cfg) (a : Option Addr) (n cap : Nat) (T : Nat) (w : World) (hm : (T : Int) < c.steps) (SW SM : Nat → List Int) (HC : Hid (∀ q, Below w.heap.size w q → Calls Tryz.prog 54 #[c.val, .slice a n cap] q fun e w' => e = .returned (.int .i64 0) ∧ Below q.heap.size q w'))
    (HR : Hid (∀ q, Below w.heap.size w q → Calls Tryz.prog 48 #[c.val, .slice a n cap, .int .i64 T] q fun e w' => ∃ b k Y, e = .returned (.tuple #[.slice b (T + 1) k, .int .i64 0]) ∧ Exs w' b (T + 1) k Y SW SM ∧ Below q.heap.size q w')) :
    Calls Tryz.prog 12 #[c.val, .slice a n cap, .int .i64 T] w fun e w' => ∃ b1 m1 d1 b2 m2 d2, e = .returned (.tuple #[.agg #[.slice b1 m1 d1, .slice b2 m2 d2], .int .i64 0]) ∧ Lst w' b1 m1 d1 (SW T) ∧ Lst w' b2 m2 d2 (SM T) ∧ Below w.heap.size w w' := by
  have lb0 := LawBox.start w c (.slice none 0 0) (.slice none 0 0)
  have CK := HC.out _ lb0.bel
  have hT0 : (0 : Int) ≤ T := by omega
  clear HC
  obtain ⟨i, h, o, seed, batch, steps, crate, decay, how, keep, clip⟩ := c
  simp only [Cfg.val, Cfg.cells] at *
  go_enter Tryz.func12, Tryz.ntmps12
  go_wp2_with fail
  refine CK.mono ?_
  rintro e w1 ⟨rfl, hw1⟩
  have lb1 := lb0.below hw1
  obtain ⟨c0, c1, c2, c3, c4, c5, c6, c7, c8, c9, c10⟩ := lb1.cfg
  dsimp only at c0 c1 c2 c3 c4 c5 c6 c7 c8 c9 c10
  have RN := HR.out _ lb1.bel
  clear CK HR lb0 hw1
  go_wp2_with fail
  refine RN.mono ?_
  rintro e w3 ⟨b, k, Y, rfl, hY, hw3⟩
  have lb3 := lb1.below hw3
  obtain ⟨yb, yo, rfl, y0, y1, hin⟩ := hY.at (i := T) (by omega)
  obtain ⟨y, hy⟩ : ∃ y, Y T = y := ⟨_, rfl⟩
  rw [hy] at y0 y1 hin
  obtain ⟨ya, yn, yk, yb2, ym, yt⟩ := y
  dsimp only at y0 y1
  have kT : (T : Int) < ((T + 1 : Nat) : Int) := by omega
  have kT2 : (T : Int) < (T : Int) + 1 := by omega
  clear c0 c1 c2 c3 c4 c5 c6 c7 c8 c9 c10 RN hY hy lb1 hw3
  have ⟨_, hr1, hb1⟩ := lb3
  obtain ⟨r0, r1⟩ := fn2_cells hr1
  have f0 := hr1.frozen 0
  have f1 := hr1.frozen 1
  go_wp2_with fail
  have hrow := fn2_set hr1 (.slice ya yn yk) (.slice yb2 ym yt)
  obtain ⟨q0, q1⟩ := fn2_cells hrow
  have st1 := hr1.set 0 (.slice ya yn yk)
  have z1 : (w3.setCell ⟨w.heap.size + 1, 0, none⟩ (.slice ya yn yk)).cell? ⟨w.heap.size + 1, 1, none⟩ = some (.slice none 0 0) := st1.cell (i := 1) (by omega)
  have hin1 := (hin.i.setOff r0 (.slice ya yn yk)).setOff z1 (.slice yb2 ym yt)
  have hin2 := (hin.o.setOff r0 (.slice ya yn yk)).setOff z1 (.slice yb2 ym yt)
  exact bodyPost_ret (v := .tuple #[.agg #[.slice ya yn yk, .slice yb2 ym yt], .int .i64 0]) (by simp [results, Tryz.results12, go_sem, q0, q1]) rfl ⟨ya, yn, yk, yb2, ym, yt, rfl, hin1, hin2, (hb1.setCell (show w.heap.size ≤ w.heap.size + 1 by omega) _).setCell (show w.heap.size ≤ w.heap.size + 1 by omega) _⟩

theorem prove_says : ProveSays := by
  intro c hs a n cap X DI DO step w hx
  have HC : ∀ q, Below w.heap.size w q → Calls Tryz.prog 54 #[c.val, .slice a n cap] q fun e w' => e = .returned (.int .i64 (courseI c n X DI DO)) ∧ Below q.heap.size q w' := fun q hq => tcheck_calls c a n cap X DI DO q (hx.below hq (Nat.le_refl _))
  have bad : ∀ E : Int, E ≠ 0 → prE c n X DI DO step = E → Calls Tryz.prog 12 #[c.val, .slice a n cap, .int .i64 step] w (fun e w' => e = .returned (.tuple #[.agg #[.slice none 0 0, .slice none 0 0], .int .i64 E]) ∧ Below w.heap.size w w') →
      Calls Tryz.prog 12 #[c.val, .slice a n cap, .int .i64 step] w fun e w' => ∃ b1 m1 d1 b2 m2 d2, e = .returned (.tuple #[.agg #[.slice b1 m1 d1, .slice b2 m2 d2], .int .i64 (prE c n X DI DO step)]) ∧ m1 ≤ 200 ∧ m2 ≤ 200 ∧ Lst w' b1 m1 d1 (prW c n X DI DO step) ∧ Lst w' b2 m2 d2 (prM c n X DI DO step) ∧ Below w.heap.size w w' := by
    intro E hE he hcall
    refine hcall.mono ?_
    rintro e w' ⟨rfl, hb⟩
    unfold prW prM
    rw [he, if_neg hE, if_neg hE]
    exact ⟨none, 0, 0, none, 0, 0, rfl, by omega, by omega, Lst.nil _ _ _, Lst.nil _ _ _, hb⟩
  by_cases hE : courseI c n X DI DO = 0
  · rw [hE] at HC
    cases hm : inB step 0 (c.steps - 1) with
    | false => exact bad 1 (by decide) (by unfold prE; rw [if_pos hE, hm]; rfl) (prove_r c a n cap step w hm HC)
    | true =>
      obtain ⟨e0, e1, e2⟩ := prE_in hE hm
      rw [e0, e1, e2]
      have hlow := in_is hm
      obtain ⟨T, hT⟩ := Int.eq_ofNat_of_zero_le hlow.1
      have hTn : step.toNat = T := by rw [hT]; rfl
      rw [hTn]
      clear bad hm e0 e1 e2 hTn
      subst hT
      have hR : runE c n X DI DO T = 0 := by unfold runE; rw [if_pos hE, in_yes ⟨by omega, by omega⟩]; rfl
      have hN : runN c n X DI DO T = T + 1 := by unfold runN; rw [if_pos hR]; rfl
      have hc := (course_ok hE).1
      have hzn := sizeN_bd hc
      have hl : (stW c n DI DO T).length = (sizeN c).toNat ∧ (stM c n DI DO T).length = (sizeN c).toNat := stateP_len c n DI DO (sizeN c).toNat T
      refine (prove_good c a n cap T w (by omega) (stW c n DI DO) (stM c n DI DO) HC (fun q hq => ?_)).mono ?_
      · have h := tRun_calls c hs a n cap X DI DO T q (hx.below hq (Nat.le_refl _))
        rw [hR, hN] at h
        exact h
      · rintro e w' ⟨b1, m1, d1, b2, m2, d2, he, l1, l2, hb⟩
        have h1 := l1.len
        have h2 := l2.len
        exact ⟨b1, m1, d1, b2, m2, d2, he, by omega, by omega, l1, l2, hb⟩
  · exact bad _ hE (by unfold prE; rw [if_neg hE]) (prove_c c a n cap step _ w hE HC)

set_option maxRecDepth 100000 in
set_option maxHeartbeats 1600000 in
theorem holds_says : HoldsSays := by
  intro c hs a n cap X DI DO a1 n1 k1 ws a2 n2 k2 ms step root x xs w hrt hx l1 l2 lx hn12 hxn
  have sp0 := SpBox.start w c (.slice a1 n1 k1) (.slice a2 n2 k2) x
  have JD := judge_calls c hs a n cap X DI DO a1 n1 k1 ws a2 n2 k2 ms step x x xs xs _ (hx.below sp0.bel (Nat.le_refl _)) (l1.below sp0.bel (Nat.le_refl _)) (l2.below sp0.bel (Nat.le_refl _)) (lx.below sp0.bel (Nat.le_refl _)) (lx.below sp0.bel (Nat.le_refl _)) hxn hxn
  have HRT : Hid (∀ q, Below w.heap.size w q → Calls Tryz.prog 22 #[.agg #[.slice a1 n1 k1, .slice a2 n2 k2]] q fun e w' => e = .returned (.tuple #[.int .u64 (rootV n1 ws n2 ms), .int .i64 (rootE n1 n2)]) ∧ Below q.heap.size q w') := fun q hq => jroot_calls a1 n1 k1 ws a2 n2 k2 ms q (l1.below hq (Nat.le_refl _)) (l2.below hq (Nat.le_refl _)) hn12
  have hvo : okW (rootV n1 ws n2 ms) ∧ rootV n1 ws n2 ms % 2305843009213693951 = rootV n1 ws n2 ms := by
    rw [rootV_is]
    unfold rootL
    split
    · exact ⟨⟨by omega, by omega⟩, by omega⟩
    · have h := ofP_ok 3 [((n1 + n2 : Nat) : Int), treeP (leavesP (ws ++ ms) (n1 + n2))]
      exact ⟨⟨h.1, by have := h.2; omega⟩, Int.emod_eq_of_lt h.1 h.2⟩
  have SB := fun q => sameByP_calls (rootV n1 ws n2 ms) root hvo.1 hrt q
  rw [hvo.2] at SB
  have HSB : Hid (∀ q, Calls Tryz.prog 65 #[.int .u64 (rootV n1 ws n2 ms), .int .u64 root] q fun e w' => e = .returned (.bool (decide (rootV n1 ws n2 ms = root % 2305843009213693951))) ∧ w' = q) := SB
  by_cases hz : nextE c n X DI DO n1 ws n2 ms step = 0
  · have HH : Hid (hoB c n X DI DO n1 ws n2 ms step root x xs = (decide (rootV n1 ws n2 ms = root % 2305843009213693951) && jgB c n X DI DO n1 ws n2 ms step x xs)) := by
      show _ = _
      unfold hoB
      rw [if_pos hz]
    rw [HH.out]
    rw [hz] at JD ⊢
    clear SB hvo HH
    generalize jgB c n X DI DO n1 ws n2 ms step x xs = Q at *
    generalize rootV n1 ws n2 ms = RV at *
    generalize rootE n1 n2 = RE at *
    generalize decide (RV = root % 2305843009213693951) = SV at *
    obtain ⟨JN, HJN⟩ : ∃ t, Hid (jdN 0 Q Q = t) := ⟨_, rfl⟩
    have hJ0 : Q = false → JN = 0 := fun h => by rw [← HJN.out, h]; rfl
    have hJ3 : Q = true → JN = 3 := fun h => by rw [← HJN.out, h]; rfl
    rw [HJN.out] at JD
    clear hx l1 l2 hz hs lx hxn hn12 HJN
    obtain ⟨i, h, o, seed, batch, steps, crate, decay, how, keep, clip⟩ := c
    obtain ⟨xs0, xa, xn, xk, xr, xroot, xchain⟩ := x
    simp only [Cfg.val, Cfg.cells, Rcm.val, Rcm.cells] at *
    obtain ⟨c0, c1, c2, c3, c4, c5, c6, c7, c8, c9, c10⟩ := sp0.cfg
    obtain ⟨s0, s1⟩ := fn2_cells sp0.st
    obtain ⟨x0, x1, x2, x3, x4⟩ := fn5_box sp0.ra
    dsimp only at c0 c1 c2 c3 c4 c5 c6 c7 c8 c9 c10
    go_enter Tryz.func18, Tryz.ntmps18
    go_wp2_with fail
    refine JD.mono ?_
    rintro e u1 ⟨rfl, hu1⟩
    have sp1 := sp0.below hu1
    clear JD c0 c1 c2 c3 c4 c5 c6 c7 c8 c9 c10 s0 s1 x0 x1 x2 x3 x4 sp0
    obtain ⟨s0, s1⟩ := fn2_cells sp1.st
    have RT := HRT.out _ sp1.bel
    have hb1 := sp1.bel
    clear HRT sp1
    go_wp2_with fail
    refine RT.mono ?_
    rintro e u2 ⟨rfl, hu2⟩
    have SB1 := HSB.out u2
    have hb2 := hb1.trans (hu2.mono hb1.size)
    clear RT HSB s0 s1
    cases SV with
    | false =>
      clear hJ0 hJ3
      go_wp2_with fail
      refine SB1.mono ?_
      rintro e u3 ⟨rfl, hu3⟩
      replace hu3 := hu3.symm
      subst hu3
      go_wp2_with fail
      go_ret2
      exact ⟨rfl, hb2⟩
    | true =>
      cases Q with
      | false =>
        obtain rfl := hJ0 rfl
        clear hJ0 hJ3
        go_wp2_with fail
        refine SB1.mono ?_
        rintro e u3 ⟨rfl, hu3⟩
        replace hu3 := hu3.symm
        subst hu3
        go_wp2_with fail
        go_ret2
        exact ⟨rfl, hb2⟩
      | true =>
        obtain rfl := hJ3 rfl
        clear hJ0 hJ3
        go_wp2_with fail
        refine SB1.mono ?_
        rintro e u3 ⟨rfl, hu3⟩
        replace hu3 := hu3.symm
        subst hu3
        go_wp2_with fail
        go_ret2
        exact ⟨rfl, hb2⟩
  · have HH : hoB c n X DI DO n1 ws n2 ms step root x xs = false := by
      unfold hoB
      rw [if_neg hz]
    have hJ : jdN (nextE c n X DI DO n1 ws n2 ms step) (jgB c n X DI DO n1 ws n2 ms step x xs) (jgB c n X DI DO n1 ws n2 ms step x xs) = 0 := if_neg hz
    rw [hJ] at JD
    rw [HH]
    have hb : (nextE c n X DI DO n1 ws n2 ms step != 0) = true := by rw [bne_iff_ne]; exact hz
    generalize nextE c n X DI DO n1 ws n2 ms step = E at *
    clear hx l1 l2 hs lx hxn hn12 hJ hz HRT HSB SB hvo HH
    obtain ⟨i, h, o, seed, batch, steps, crate, decay, how, keep, clip⟩ := c
    obtain ⟨xs0, xa, xn, xk, xr, xroot, xchain⟩ := x
    simp only [Cfg.val, Cfg.cells, Rcm.val, Rcm.cells] at *
    obtain ⟨c0, c1, c2, c3, c4, c5, c6, c7, c8, c9, c10⟩ := sp0.cfg
    obtain ⟨s0, s1⟩ := fn2_cells sp0.st
    obtain ⟨x0, x1, x2, x3, x4⟩ := fn5_box sp0.ra
    dsimp only at c0 c1 c2 c3 c4 c5 c6 c7 c8 c9 c10
    go_enter Tryz.func18, Tryz.ntmps18
    go_wp2_with fail
    refine JD.mono ?_
    rintro e u1 ⟨rfl, hu1⟩
    have hb1 := (sp0.below hu1).bel
    go_wp2_with fail
    go_ret2
    exact ⟨rfl, hb1⟩
end Go.Proofs.YtimciamfgpdjlaaGreat.Fx
