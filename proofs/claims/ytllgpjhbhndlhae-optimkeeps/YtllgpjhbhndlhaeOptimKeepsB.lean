/- The walk of OptimKeeps, where Rate tells an error. -/
import Derived.Test.YtllgpjhbhndlhaeOptimKeepsL
namespace Go.Proofs.Ytllgpjhbhndlhae.Fx
open Go.RowKit

set_option maxRecDepth 100000 in
set_option maxHeartbeats 12800000 in
theorem optimKeeps_norate (c : Cfg) (a1 : Option Addr) (n1 k1 : Nat) (ws : List Int) (a2 : Option Addr) (n2 k2 : Nat) (ms : List Int) (a3 : Option Addr) (n3 k3 : Nat) (gs : List Int) (most step : Int) (w : World)
    (l1 : Lst w a1 n1 k1 ws) (l2 : Lst w a2 n2 k2 ms) (l3 : Lst w a3 n3 k3 gs) (HRB : rateE c step = 1) :
    Calls Try.prog 6 #[c.val, .agg #[.slice a1 n1 k1, .slice a2 n2 k2], .slice a3 n3 k3, .int .i64 most, .int .i64 step] w fun e w' => e = .returned (.bool true) ∧ Below w.heap.size w w' := by
  have lb0 := LawBox.start w c (.slice a1 n1 k1) (.slice a2 n2 k2)
  have HOR : Hid (∀ q, Calls Try.prog 24 #[c.val, .int .i64 step] q fun e w' => e = .returned (.tuple #[.int .i64 (rateI c step), .int .i64 (rateE c step)]) ∧ Below q.heap.size q w') := fun q => rate_calls c step q
  have HOL : Hid (∀ q, Lst q a3 n3 k3 gs → Calls Try.prog 22 #[.slice a3 n3 k3, .int .i64 most] q fun e w' => ∃ a' n, e = .returned (.tuple #[.slice a' n n, .int .i64 (clipE n3 most)]) ∧ n ≤ 200 ∧ Lst w' a' n n (clipL gs most n3) ∧ Below q.heap.size q w') := fun q hq => clip_calls a3 n3 k3 gs most q hq
  have HOM : Hid (clipE n3 most = 0 → ∀ q a k, Lst q a n3 k (minusL gs n3) → Calls Try.prog 22 #[.slice a n3 k, .int .i64 most] q fun e w' => ∃ a' n, e = .returned (.tuple #[.slice a' n n, .int .i64 0]) ∧ Lst w' a' n n ((List.range n3).map (fun i => -clipG gs most n3 i)) ∧ Below q.heap.size q w') := fun hE q a k hq => by
    have := clip_calls a n3 k (minusL gs n3) most q hq
    rw [hE, minus_clipL hE] at this
    exact this.mono (by rintro e w' ⟨a', n, he, _, h1, h2⟩; exact ⟨a', n, he, h1, h2⟩)
  have HOS : Hid (∀ q, Below w.heap.size w q → Calls Try.prog 26 #[c.val, .agg #[.slice a1 n1 k1, .slice a2 n2 k2], .slice a3 n3 k3, .int .i64 0] q fun e w' => ∃ b1 m1 d1 b2 m2 d2, e = .returned (.tuple #[.agg #[.slice b1 m1 d1, .slice b2 m2 d2], .int .i64 (stepE c ws ms n1 n2 n3 0)]) ∧ m1 ≤ 200 ∧ Lst w' b1 m1 d1 (stepW c ws ms gs n1 n2 n3 0) ∧ Below q.heap.size q w') := fun q hq =>
    (step_calls c a1 n1 k1 a2 n2 k2 a3 n3 k3 ws ms gs 0 q (l1.below hq (Nat.le_refl _)) (l2.below hq (Nat.le_refl _)) (l3.below hq (Nat.le_refl _))).mono (by rintro e w' ⟨b1, m1, d1, b2, m2, d2, he, h1, _, h3, _, h5⟩; exact ⟨b1, m1, d1, b2, m2, d2, he, h1, h3, h5⟩)
  have HL1 : Hid (∀ q, Below w.heap.size w q → Lst q a1 n1 k1 ws) := fun q hq => l1.below hq (Nat.le_refl _)
  have HL3 : Hid (∀ q, Below w.heap.size w q → Lst q a3 n3 k3 gs) := fun q hq => l3.below hq (Nat.le_refl _)
  have HCK : Hid (clipE n3 most = 0 → n3 ≤ 200 ∧ 0 ≤ most) := fun h => clip_ok h
  have HCL : Hid (clipE n3 most = 0 → clipL gs most n3 = (List.range n3).map (clipG gs most n3)) := fun h => by unfold clipL; rw [if_pos h]
  have HSZ : Hid ((stepE c ws ms n1 n2 n3 0 = 0 ∧ stepW c ws ms gs n1 n2 n3 0 = ws) ∨ (stepE c ws ms n1 n2 n3 0 ≠ 0 ∧ stepW c ws ms gs n1 n2 n3 0 = [])) := step_zero l1.len
  clear l1 l2 l3
  generalize stepE c ws ms n1 n2 n3 0 = SE at *
  generalize stepW c ws ms gs n1 n2 n3 0 = SW at *
  generalize rateE c step = F at *
  generalize rateI c step = R at *
  generalize clipE n3 most = CE at *
  generalize clipL gs most n3 = CL at *
  have HRB2 : Hid (F = 1) := HRB
  clear HRB
  obtain ⟨i, h, o, seed, batch, steps, crate, decay, how, keep, clip⟩ := c
  simp only [Cfg.val, Cfg.cells] at *
  obtain ⟨W, HW⟩ : ∃ q, Hid (q = (w.alloc (.cells #[.int .i64 i, .int .i64 h, .int .i64 o, .int .u64 seed, .int .i64 batch, .int .i64 steps, .int .i64 crate, .int .i64 decay, .int .i64 how, .int .i64 keep, .int .i64 clip] 49)).alloc (.cells #[.slice a1 n1 k1, .slice a2 n2 k2] 51)) := ⟨_, rfl⟩
  have lbW : LawBox w ⟨i, h, o, seed, batch, steps, crate, decay, how, keep, clip⟩ (.slice a1 n1 k1) (.slice a2 n2 k2) W := by rw [HW.out]; exact lb0
  have hWs : W.heap.size = w.heap.size + 1 + 1 := by rw [HW.out]; simp
  have p1 := pairK W (-4) 2 3
  rw [hWs] at p1
  have K1 := clip_calls (some ⟨w.heap.size + 1 + 1, 0, none⟩) 2 2 [-4, 2] 2 _ p1
  rw [clip_fine, clip_case] at K1
  have HK1 : Hid (Calls Try.prog 22 #[.slice (some ⟨w.heap.size + 1 + 1, 0, none⟩) 2 2, .int .i64 2] (W.alloc (.cells #[.int .i64 (-4), .int .i64 2] 3)) fun e w' => ∃ a' n, e = .returned (.tuple #[.slice a' n n, .int .i64 0]) ∧ n ≤ 200 ∧ Lst w' a' n n [-2, 1] ∧ Below (W.alloc (.cells #[.int .i64 (-4), .int .i64 2] 3)).heap.size (W.alloc (.cells #[.int .i64 (-4), .int .i64 2] 3)) w') := K1
  have lb1 := lbW.below (low_alloc W (.cells #[.int .i64 (-4), .int .i64 2] 3))
  clear K1 p1 lbW lb0 hWs
  go_enter Try.func6, Try.ntmps6
  go_wp2_with fail
  rw [← HW.out]
  refine HK1.out.mono ?_
  rintro e w2 ⟨ca, cn, rfl, hcn, lc, hw2⟩
  have lb2 := lb1.below hw2
  have p2 := pairK w2 (-2) 1 3
  have hp2 := low_alloc w2 (.cells #[.int .i64 (-2), .int .i64 1] 3)
  replace lc := lc.below hp2 (Nat.le_refl _)
  have lb3 := lb2.below hp2
  clear lb1 lb2 hw2 hp2 HK1
  go_wp2_with fail
  refine (eq_calls _ _ _ _ _ _ [-2, 1] [-2, 1] _ lc p2 (by omega)).mono ?_
  rintro e w3 ⟨rfl, k3', hw3⟩
  rw [decide_eq_true (Eq.refl ([-2, 1] : List Int))]
  replace lb3 : LawBox w ⟨i, h, o, seed, batch, steps, crate, decay, how, keep, clip⟩ (.slice a1 n1 k1) (.slice a2 n2 k2) w3 := by rw [hw3]; exact lb3.below (below_drewN (Below.refl _ _) _)
  clear hw3 p2 lc
  have ⟨⟨c0, c1, c2, c3, c4, c5, c6, c7, c8, c9, c10⟩, hs, hb⟩ := lb3
  dsimp only at c0 c1 c2 c3 c4 c5 c6 c7 c8 c9 c10
  obtain ⟨s0, s1⟩ := fn2_cells hs
  go_wp2_with fail
  refine (HOR.out _).mono ?_
  rintro e w4 ⟨rfl, hw4⟩
  replace lb3 := lb3.below hw4
  clear hw4 HOR
  clear c0 c1 c2 c3 c4 c5 c6 c7 c8 c9 c10 hs hb s0 s1
  have ⟨⟨c0, c1, c2, c3, c4, c5, c6, c7, c8, c9, c10⟩, hs, hb⟩ := lb3
  dsimp only at c0 c1 c2 c3 c4 c5 c6 c7 c8 c9 c10
  obtain ⟨s0, s1⟩ := fn2_cells hs
  obtain rfl := HRB2.out
  all_goals
    clear HRB2
    go_wp2_with fail
    refine (HOL.out _ (HL3.out _ lb3.bel)).mono ?_
    rintro e w5 ⟨la, ln, rfl, hln, ll, hw5⟩
    have lb5 := lb3.below hw5
    clear lb3 hw5 HOL
    clear c0 c1 c2 c3 c4 c5 c6 c7 c8 c9 c10 hs hb s0 s1
    go_upto_if 63 with fail
    go_cut [16] (fun _ q => Below w5.heap.size w5 q)
    case first =>
      -- FIRST
      by_cases hE : CE = 0
      · have hcl := HCL.out hE
        have hck := HCK.out hE
        have h200 := hck.1
        have hm0 := hck.2
        have hom := HOM.out hE
        have hE2 : (CE == 0) = true := by simpa using hE
        rw [hE2]
        clear hE hE2
        rw [hcl] at ll
        have hnn : n3 = ln := by have := ll.len; simpa using this
        subst hnn
        have HOM2 : Hid (∀ q a k, Lst q a n3 k (minusL gs n3) → Calls Try.prog 22 #[.slice a n3 k, .int .i64 most] q fun e w' => ∃ a' n, e = .returned (.tuple #[.slice a' n n, .int .i64 0]) ∧ Lst w' a' n n ((List.range n3).map (fun i => -clipG gs most n3 i)) ∧ Below q.heap.size q w') := hom
        have lg5 := HL3.out _ lb5.bel
        have hb5 := lb5.bel
        clear hom hcl hck HOM HCL HCK HOS HSZ HL1 lb5
        go_wp2_with fail
        go_loopw [17, 66] (fun v i wr => ∃ k : Nat, k ≤ n3 ∧ i = .int .i64 k ∧ OwnI w5.heap.size wr v ((List.range k).map (minusG gs)) ∧ Below w5.heap.size w5 wr) (fun _ i _ => n3 - (intOf i).toNat)
        case atStart => exact ⟨0, Nat.zero_le _, rfl, OwnI.nil _ _, Below.refl _ _⟩
        case round =>
          obtain ⟨k, hk, rfl, hown, hbel⟩ := hrel
          have hsz := hbel.size
          by_cases hlt : k < n3
          · obtain ⟨b1, o1, x, rfl, s1, e1, HX⟩ := lg5.at1b hbel (Nat.le_refl _) hlt
            have hx := clampI_bd x
            clear lg5 ll HL3 HOM2
            go_wp2_with (first | (at_builtin; refine wpList_append_int (by rfl) _ _ (by rfl) w5.heap.size _ ((List.range k).map (minusG gs)) (-clampI x) wr.heap.size wr (by rfl) (by rfl) (by exact hown.alloc _) (by exact cell_new _ _ _) (by simp; omega) (by simp; omega) (by exact (Below.refl _ _).alloc (by omega) _) ?_; intro v1 w3 hown1 hbel1) | (go_at_call 25; refine (clamp_calls _ _).mono ?_; rintro e w' ⟨rfl, hw'⟩; replace hw' := hw'.symm; subst hw'))
            go_roundw
            case rel => exact ⟨k + 1, by omega, by go_num, hown1.congr (range_snoc _ _ _ (by simp only [minusG, HX.out])), hbel.trans hbel1⟩
            case measure => simp [intOf]; omega
          · obtain rfl : n3 = k := by omega
            obtain ⟨am, cm, rfl, lm⟩ := hown.lst' (n := n3) (by simp)
            have lm6 : Lst wr am n3 cm (minusL gs n3) := lm
            have ll6 := ll.below hbel (Nat.le_refl _)
            have hb6 := hb5.trans (hbel.mono hb5.size)
            clear lm hown ll lg5 hb5
            generalize hwr : wr = w6 at *
            clear hwr
            go_wp2_with fail
            refine (HOM2.out _ _ _ lm6).mono ?_
            rintro e w7 ⟨ma, mn, rfl, lm7, hw7⟩
            have hmn : n3 = mn := by have := lm7.len; simpa using this
            subst hmn
            have T7 := hbel.trans (hw7.mono hbel.size)
            have ll7 := ll6.below hw7 (Nat.le_refl _)
            have lg7 := HL3.out _ (hb6.trans (hw7.mono hb6.size))
            clear lm6 ll6 hw7 hbel hb6 HOM2 HL3
            have hnn : ((n3 : Int) != (n3 : Int)) = false := by simp
            go_wp2_with fail
            go_loopw [94] (fun i wr => ∃ k nq : Nat, k ≤ n3 ∧ i = .int .i64 k ∧ wr = w7.drewN nq) (fun i _ => n3 - (intOf i).toNat)
            case atStart => exact ⟨0, 0, Nat.zero_le _, rfl, rfl⟩
            case round =>
              obtain ⟨k, nq0, hk, rfl, hwq⟩ := hrel
              have lg : Lst wr a3 n3 k3 gs := by rw [hwq]; exact lg7.drewN _
              have lc : Lst wr la n3 n3 ((List.range n3).map (clipG gs most n3)) := by rw [hwq]; exact ll7.drewN _
              have lv : Lst wr ma n3 n3 ((List.range n3).map (fun i => -clipG gs most n3 i)) := by rw [hwq]; exact lm7.drewN _
              have HW : Hid (wr = w7.drewN nq0) := hwq
              clear hwq lg7 ll7 lm7
              by_cases hlt : k < n3
              · obtain ⟨b1, o1, x, rfl, _, e1, H1⟩ := lg.at1 hlt
                obtain ⟨b2, o2, y, rfl, _, e2, H2⟩ := lc.at1 hlt
                obtain ⟨b3, o3, z, rfl, _, e3, H3⟩ := lv.at1 hlt
                have hy : clipG gs most n3 k = y := by rw [← getD_rng (clipG gs most n3) hlt]; exact H2.out
                have hz : z = -y := by rw [← H3.out, getD_rng (fun i => -clipG gs most n3 i) hlt, hy]
                subst hz
                have yb := clipG_bd gs most n3 k
                rw [hy] at yb
                obtain ⟨n0, hn0⟩ : ∃ n, clampI x = n := ⟨_, rfl⟩
                have HN : Hid (clampI x = n0) := hn0
                have HP : Hid (0 ≤ n0 → 0 ≤ y) := fun g => by rw [← hy]; exact clipG_pos hm0 (by rw [H1.out, hn0]; exact g)
                have HM : Hid (n0 ≤ 0 → y ≤ 0) := fun g => by rw [← hy]; exact clipG_neg hm0 (by rw [H1.out, hn0]; exact g)
                have q1 : (-y != -y) = false := by simp
                have q2 : IntKind.i64.wrap (-y) = -y := wrap_in _ (by omega) (by omega)
                by_cases hk0 : k = 0
                · clear lg lc lv hy hn0 H1 H2 H3
                  have dd1 : decide ((k : Int) > 0) = false := decide_eq_false (by omega)
                  have dd2 : decide ((0 : Int) < (k : Int)) = false := decide_eq_false (by omega)
                  have dd3 : decide (0 < k) = false := decide_eq_false (by omega)
                  have dd4 : decide (k > 0) = false := decide_eq_false (by omega)
                  have HK0 : Hid (k = 0) := hk0
                  clear hk0
                  by_cases u1 : 0 ≤ n0
                  · have v1 := HP.out u1
                    have dd5 : decide ((n0 : Int) ≥ 0) = true := decide_eq_true u1
                    have dd6 : decide ((0 : Int) ≤ n0) = true := decide_eq_true u1
                    have dd7 : decide ((y : Int) < 0) = false := decide_eq_false (by omega)
                    by_cases u2 : n0 ≤ 0
                    · have v2 := HM.out u2
                      have dd10 : decide ((n0 : Int) ≤ 0) = true := decide_eq_true u2
                      have dd11 : decide ((y : Int) > 0) = false := decide_eq_false (by omega)
                      have dd12 : decide ((0 : Int) < y) = false := decide_eq_false (by omega)
                      go_wp2_with (go_at_call 25; refine (clamp_calls _ _).mono ?_; rintro e w' ⟨rfl, hw'⟩; replace hw' := hw'.symm; subst hw'; rw [HN.out])
                      go_quiet ((go_at_call 25; exact Calls.quiet_of_same (clamp_calls _ _)))
                      go_wp2_with fail
                      go_roundw
                      case rel => exact ⟨k + 1, _, by omega, by go_num, by rw [HW.out, World.drewN_drewN]⟩
                      case measure => simp [intOf]; omega
                    · skip
                      have dd13 : decide ((n0 : Int) ≤ 0) = false := decide_eq_false (by omega)
                      go_wp2_with (go_at_call 25; refine (clamp_calls _ _).mono ?_; rintro e w' ⟨rfl, hw'⟩; replace hw' := hw'.symm; subst hw'; rw [HN.out])
                      go_quiet ((go_at_call 25; exact Calls.quiet_of_same (clamp_calls _ _)))
                      go_wp2_with fail
                      go_roundw
                      case rel => exact ⟨k + 1, _, by omega, by go_num, by rw [HW.out, World.drewN_drewN]⟩
                      case measure => simp [intOf]; omega
                  · have u2 : n0 ≤ 0 := by omega
                    have v2 := HM.out u2
                    have dd8 : decide ((n0 : Int) ≥ 0) = false := decide_eq_false (by omega)
                    have dd9 : decide ((0 : Int) ≤ n0) = false := decide_eq_false (by omega)
                    have dd10 : decide ((n0 : Int) ≤ 0) = true := decide_eq_true u2
                    have dd11 : decide ((y : Int) > 0) = false := decide_eq_false (by omega)
                    have dd12 : decide ((0 : Int) < y) = false := decide_eq_false (by omega)
                    go_wp2_with (go_at_call 25; refine (clamp_calls _ _).mono ?_; rintro e w' ⟨rfl, hw'⟩; replace hw' := hw'.symm; subst hw'; rw [HN.out])
                    go_quiet ((go_at_call 25; exact Calls.quiet_of_same (clamp_calls _ _)))
                    go_wp2_with fail
                    go_roundw
                    case rel => exact ⟨k + 1, _, by omega, by go_num, by rw [HW.out, World.drewN_drewN]⟩
                    case measure => simp [intOf]; omega
                · obtain ⟨j, hj⟩ : ∃ j, k = j + 1 := ⟨k - 1, by omega⟩
                  obtain ⟨b4, o4, x4, e4, _, d4, H4⟩ := lg.at1 (k := j) (by omega)
                  simp only [Option.some.injEq, Addr.mk.injEq, and_true] at e4
                  obtain ⟨rfl, rfl⟩ := e4
                  obtain ⟨b5, o5, y5, e5, _, d5, H5⟩ := lc.at1 (k := j) (by omega)
                  simp only [Option.some.injEq, Addr.mk.injEq, and_true] at e5
                  obtain ⟨rfl, rfl⟩ := e5
                  have hy5 : clipG gs most n3 j = y5 := by rw [← getD_rng (clipG gs most n3) (show j < n3 by omega)]; exact H5.out
                  have HO : Hid (clampI x4 ≤ n0 → y5 ≤ y) := fun g => by rw [← hy, ← hy5]; exact clipG_mono hm0 (by rw [H1.out, H4.out, hn0]; exact g)
                  have i1 : (k : Int) - 1 = (j : Int) := by omega
                  have i2 : IntKind.i64.wrap ((k : Int) - 1) = (j : Int) := by rw [i1]; exact wrap_in _ (by omega) (by omega)
                  have i3 : (0 : Int) < (k : Int) := by omega
                  have i4 : IntKind.i64.wrap (j : Int) = (j : Int) := wrap_in _ (by omega) (by omega)
                  have i5 : (j : Int) < (n3 : Int) := by omega
                  have i6 : (0 : Int) ≤ (j : Int) := by omega
                  clear lg lc lv hy hn0 H1 H2 H3 hy5 H4 H5 hj
                  by_cases u1 : 0 ≤ n0
                  · have v1 := HP.out u1
                    have dd22 : decide ((n0 : Int) ≥ 0) = true := decide_eq_true u1
                    have dd23 : decide ((0 : Int) ≤ n0) = true := decide_eq_true u1
                    have dd24 : decide ((y : Int) < 0) = false := decide_eq_false (by omega)
                    by_cases u2 : n0 ≤ 0
                    · have v2 := HM.out u2
                      have dd27 : decide ((n0 : Int) ≤ 0) = true := decide_eq_true u2
                      have dd28 : decide ((y : Int) > 0) = false := decide_eq_false (by omega)
                      have dd29 : decide ((0 : Int) < y) = false := decide_eq_false (by omega)
                      have dd14 : decide ((k : Int) > 0) = true := decide_eq_true i3
                      have dd15 : decide ((0 : Int) < (k : Int)) = true := decide_eq_true i3
                      have dd16 : decide (0 < k) = true := decide_eq_true (by omega)
                      have dd17 : decide (k > 0) = true := decide_eq_true (by omega)
                      by_cases u3 : clampI x4 ≤ n0
                      · have v3 := HO.out u3
                        have dd18 : decide (clampI x4 ≤ n0) = true := decide_eq_true u3
                        have dd19 : decide ((y5 : Int) > y) = false := decide_eq_false (by omega)
                        have dd20 : decide ((y : Int) < y5) = false := decide_eq_false (by omega)
                        go_wp2_with (go_at_call 25; refine (clamp_calls _ _).mono ?_; rintro e w' ⟨rfl, hw'⟩; replace hw' := hw'.symm; subst hw'; rw [HN.out])
                        go_quiet ((go_at_call 25; exact Calls.quiet_of_same (clamp_calls _ _)))
                        go_wp2_with fail
                        go_roundw
                        case rel => exact ⟨k + 1, _, by omega, by go_num, by rw [HW.out, World.drewN_drewN]⟩
                        case measure => simp [intOf]; omega
                      · skip
                        have dd21 : decide (clampI x4 ≤ n0) = false := decide_eq_false u3
                        go_wp2_with (go_at_call 25; refine (clamp_calls _ _).mono ?_; rintro e w' ⟨rfl, hw'⟩; replace hw' := hw'.symm; subst hw'; rw [HN.out])
                        go_quiet ((go_at_call 25; exact Calls.quiet_of_same (clamp_calls _ _)))
                        go_wp2_with fail
                        go_roundw
                        case rel => exact ⟨k + 1, _, by omega, by go_num, by rw [HW.out, World.drewN_drewN]⟩
                        case measure => simp [intOf]; omega
                    · skip
                      have dd30 : decide ((n0 : Int) ≤ 0) = false := decide_eq_false (by omega)
                      have dd14 : decide ((k : Int) > 0) = true := decide_eq_true i3
                      have dd15 : decide ((0 : Int) < (k : Int)) = true := decide_eq_true i3
                      have dd16 : decide (0 < k) = true := decide_eq_true (by omega)
                      have dd17 : decide (k > 0) = true := decide_eq_true (by omega)
                      by_cases u3 : clampI x4 ≤ n0
                      · have v3 := HO.out u3
                        have dd18 : decide (clampI x4 ≤ n0) = true := decide_eq_true u3
                        have dd19 : decide ((y5 : Int) > y) = false := decide_eq_false (by omega)
                        have dd20 : decide ((y : Int) < y5) = false := decide_eq_false (by omega)
                        go_wp2_with (go_at_call 25; refine (clamp_calls _ _).mono ?_; rintro e w' ⟨rfl, hw'⟩; replace hw' := hw'.symm; subst hw'; rw [HN.out])
                        go_quiet ((go_at_call 25; exact Calls.quiet_of_same (clamp_calls _ _)))
                        go_wp2_with fail
                        go_roundw
                        case rel => exact ⟨k + 1, _, by omega, by go_num, by rw [HW.out, World.drewN_drewN]⟩
                        case measure => simp [intOf]; omega
                      · skip
                        have dd21 : decide (clampI x4 ≤ n0) = false := decide_eq_false u3
                        go_wp2_with (go_at_call 25; refine (clamp_calls _ _).mono ?_; rintro e w' ⟨rfl, hw'⟩; replace hw' := hw'.symm; subst hw'; rw [HN.out])
                        go_quiet ((go_at_call 25; exact Calls.quiet_of_same (clamp_calls _ _)))
                        go_wp2_with fail
                        go_roundw
                        case rel => exact ⟨k + 1, _, by omega, by go_num, by rw [HW.out, World.drewN_drewN]⟩
                        case measure => simp [intOf]; omega
                  · have u2 : n0 ≤ 0 := by omega
                    have v2 := HM.out u2
                    have dd25 : decide ((n0 : Int) ≥ 0) = false := decide_eq_false (by omega)
                    have dd26 : decide ((0 : Int) ≤ n0) = false := decide_eq_false (by omega)
                    have dd27 : decide ((n0 : Int) ≤ 0) = true := decide_eq_true u2
                    have dd28 : decide ((y : Int) > 0) = false := decide_eq_false (by omega)
                    have dd29 : decide ((0 : Int) < y) = false := decide_eq_false (by omega)
                    have dd14 : decide ((k : Int) > 0) = true := decide_eq_true i3
                    have dd15 : decide ((0 : Int) < (k : Int)) = true := decide_eq_true i3
                    have dd16 : decide (0 < k) = true := decide_eq_true (by omega)
                    have dd17 : decide (k > 0) = true := decide_eq_true (by omega)
                    by_cases u3 : clampI x4 ≤ n0
                    · have v3 := HO.out u3
                      have dd18 : decide (clampI x4 ≤ n0) = true := decide_eq_true u3
                      have dd19 : decide ((y5 : Int) > y) = false := decide_eq_false (by omega)
                      have dd20 : decide ((y : Int) < y5) = false := decide_eq_false (by omega)
                      go_wp2_with (go_at_call 25; refine (clamp_calls _ _).mono ?_; rintro e w' ⟨rfl, hw'⟩; replace hw' := hw'.symm; subst hw'; rw [HN.out])
                      go_quiet ((go_at_call 25; exact Calls.quiet_of_same (clamp_calls _ _)))
                      go_wp2_with fail
                      go_roundw
                      case rel => exact ⟨k + 1, _, by omega, by go_num, by rw [HW.out, World.drewN_drewN]⟩
                      case measure => simp [intOf]; omega
                    · skip
                      have dd21 : decide (clampI x4 ≤ n0) = false := decide_eq_false u3
                      go_wp2_with (go_at_call 25; refine (clamp_calls _ _).mono ?_; rintro e w' ⟨rfl, hw'⟩; replace hw' := hw'.symm; subst hw'; rw [HN.out])
                      go_quiet ((go_at_call 25; exact Calls.quiet_of_same (clamp_calls _ _)))
                      go_wp2_with fail
                      go_roundw
                      case rel => exact ⟨k + 1, _, by omega, by go_num, by rw [HW.out, World.drewN_drewN]⟩
                      case measure => simp [intOf]; omega
              · go_wp2_with fail
                go_meet
                case rel => exact HW.out ▸ below_drewN T7 _
      · have hne : (CE == 0) = false := by simpa using hE
        clear hE
        go_wp2_with fail
        go_meet
        case rel => exact Below.refl _ _
      -- END FIRST
    case rest =>
      -- REST
      have lb6 := lb5.below hcut
      generalize hwc : wc = w6 at *
      clear hwc hcut lb5 HOM HCL HCK HL3 ll
      have ⟨⟨c0, c1, c2, c3, c4, c5, c6, c7, c8, c9, c10⟩, hs, hb⟩ := lb6
      dsimp only at c0 c1 c2 c3 c4 c5 c6 c7 c8 c9 c10
      obtain ⟨s0, s1⟩ := fn2_cells hs
      go_wp2_with fail
      refine (HOS.out _ lb6.bel).mono ?_
      rintro e w7 ⟨xa, p1, t1, xb, p2, t2, rfl, hp1, x1, hw7⟩
      replace lb6 := lb6.below hw7
      have hwa := low_alloc w7 (.cells #[.slice xa p1 t1, .slice xb p2 t2] 51)
      replace lb6 := lb6.below hwa
      have lw := HL1.out _ lb6.bel
      replace x1 := x1.below hwa (Nat.le_refl _)
      have T := lb6.bel
      clear hw7 hwa HOS HL1
      clear c0 c1 c2 c3 c4 c5 c6 c7 c8 c9 c10 hs hb s0 s1
      have ⟨⟨c0, c1, c2, c3, c4, c5, c6, c7, c8, c9, c10⟩, hs, hb⟩ := lb6
      dsimp only at c0 c1 c2 c3 c4 c5 c6 c7 c8 c9 c10
      obtain ⟨s0, s1⟩ := fn2_cells hs
      rcases HSZ.out with ⟨hSE, hSW⟩ | ⟨hSE, hSW⟩
      · subst hSE hSW
        clear HSZ
        go_wp2_with fail
        refine (eq_calls _ _ _ _ _ _ SW SW _ x1 lw (by omega)).mono ?_
        rintro e w9 ⟨rfl, k9, hw9⟩
        subst hw9
        rw [decide_eq_true (Eq.refl SW)]
        go_wp2
        go_ret
        exact ⟨rfl, below_drewN T _⟩
      · have z1 : p1 = 0 := by have := x1.len; rw [hSW] at this; simpa using this.symm
        have z2 : ((p1 : Int) == 0) = true := by rw [beq_iff_eq]; omega
        have z3 : (SE != 0) = true := by rw [bne_iff_ne]; exact hSE
        clear HSZ hSE hSW z1
        go_wp2
        go_ret
        exact ⟨rfl, T⟩
      -- END REST

end Go.Proofs.Ytllgpjhbhndlhae.Fx
