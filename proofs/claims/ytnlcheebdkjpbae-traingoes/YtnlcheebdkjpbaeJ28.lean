/- The walk of TrainGoes: it returns true, whatever config, examples and numbers are handed in, and nothing that was there is written; that the small course goes on is handed in. -/
import Derived.Test.YtnlcheebdkjpbaeJ26
import Derived.Test.YtnlcheebdkjpbaeJ27
import Derived.Deep.DeepCutAuto
import Derived.Deep.CutBlock
import Derived.Deep.QuietTactic
import Derived.Deep.RegionHeld3
namespace Go.Proofs.Ytnlcheebdkjpbae.Fx
open Go.RowKit

theorem alk {B : Nat} {W q : World} (h : Below B W q) (hB : B ≤ W.heap.size) {o : Obj} : Below B W (q.alloc o) := h.alloc (Nat.le_trans hB h.size) o
theorem setk {Bd : Nat} {W q : World} (h : Below Bd W q) {b i : Nat} (hb : Bd ≤ b) {v : Value} : Below Bd W (q.setCell ⟨b, i, none⟩ v) := h.setCell hb v
/-- Behind train.Next: where the state that came out lies. -/
structure OutS (W : World) (OB : Nat) (b1 : Option Addr) (m1 d1 : Nat) (b2 : Option Addr) (m2 d2 : Nat) (NW NM : List Int) (q : World) : Prop where
  row : q.rowIs OB 51 2 (fn2 (.slice b1 m1 d1) (.slice b2 m2 d2))
  la : Lst q b1 m1 d1 NW
  lb : Lst q b2 m2 d2 NM
  bel : Below W.heap.size W q
  h1 : m1 ≤ 200
  h2 : m2 ≤ 200
theorem OutS.put {W v : World} {OB : Nat} {b1 : Option Addr} {m1 d1 : Nat} {b2 : Option Addr} {m2 d2 : Nat} {NW NM : List Int} (zs : v.rowIs OB 51 2 (fn2 (.slice none 0 0) (.slice none 0 0))) (l1 : Lst v b1 m1 d1 NW) (l2 : Lst v b2 m2 d2 NM) (V : Below W.heap.size W v) (hO : W.heap.size ≤ OB) (g1 : m1 ≤ 200) (g2 : m2 ≤ 200) :
    OutS W OB b1 m1 d1 b2 m2 d2 NW NM ((v.setCell ⟨OB, 0, none⟩ (.slice b1 m1 d1)).setCell ⟨OB, 1, none⟩ (.slice b2 m2 d2)) := by
  have u0 := (fn2_cells zs).1
  have u1 : (v.setCell ⟨OB, 0, none⟩ (.slice b1 m1 d1)).cell? ⟨OB, 1, none⟩ = some (.slice none 0 0) := (zs.set 0 _).cell (i := 1) (by omega)
  exact ⟨fn2_set zs _ _, (l1.setOff u0 _).setOff u1 _, (l2.setOff u0 _).setOff u1 _, setk (setk V hO) hO, g1, g2⟩

set_option maxRecDepth 100000 in
set_option maxHeartbeats 6400000 in
theorem trainGoes_core (c : Cfg) (hs : okW c.seed) (a : Option Addr) (n cap : Nat) (X : Nat → Exm) (DI DO : Nat → List Int) (m0 n0 : Int) (w : World) (hx : Exs w a n cap X DI DO)
    (HTT : Hid (∀ q, Calls Try.prog 28 #[] q fun e w' => e = .returned (.bool true) ∧ Below q.heap.size q w')) :
    Calls Try.prog 7 #[c.val, .slice a n cap, .int .i64 m0, .int .i64 n0] w fun e w' => e = .returned (.bool true) ∧ Below w.heap.size w w' := by
  have hal := low_alloc w (.cells c.cells 49)
  have HRK : Hid (∀ q, Below w.heap.size w q → Calls Try.prog 29 #[c.val, .slice a n cap] q fun e w' => e = .returned (.int .i64 (courseI c n X DI DO)) ∧ Below q.heap.size q w') := fun q hq => rcourse_calls c a n cap X DI DO q (hx.below hq (Nat.le_refl _))
  have HR0 : Hid (courseI c n X DI DO ≠ 0 → ∀ q, Below w.heap.size w q → Calls Try.prog 30 #[c.val, .slice a n cap, .int .i64 0] q fun e w' => ∃ b k, e = .returned (.tuple #[.slice b 0 k, .int .i64 (courseI c n X DI DO)]) ∧ Below q.heap.size q w') := fun hF q hq => by
    have e1 : runE c n X DI DO 0 = courseI c n X DI DO := by unfold runE; rw [if_neg hF]
    have e2 : runN c n X DI DO 0 = 0 := by unfold runN; rw [e1, if_neg hF]
    refine (tRun_calls c hs a n cap X DI DO 0 q (hx.below hq (Nat.le_refl _))).mono ?_
    rintro e w' ⟨b, k, Y, he, _, hb⟩
    rw [e1, e2] at he
    exact ⟨b, k, he, hb⟩
  have HR1 : Hid (courseI c n X DI DO = 0 → ∀ (k : Nat) q, (k : Int) ≤ c.steps → Below w.heap.size w q → Calls Try.prog 30 #[c.val, .slice a n cap, .int .i64 k] q fun e w' => ∃ b d Y, e = .returned (.tuple #[.slice b (k + 1) d, .int .i64 0]) ∧ Exs w' b (k + 1) d Y (stW c n DI DO) (stM c n DI DO) ∧ Below q.heap.size q w') := fun hF k q hk hq => by
    have e1 : runE c n X DI DO k = 0 := by unfold runE; rw [if_pos hF, if_pos (in_yes ⟨by omega, hk⟩)]
    have e2 : runN c n X DI DO k = k + 1 := by unfold runN; rw [e1, if_pos rfl]; rfl
    refine (tRun_calls c hs a n cap X DI DO k q (hx.below hq (Nat.le_refl _))).mono ?_
    rintro e w' ⟨b, d, Y, he, hex, hb⟩
    rw [e1, e2] at he
    rw [e2] at hex
    exact ⟨b, d, Y, he, hex, hb⟩
  have HLN : Hid (courseI c n X DI DO = 0 → ∀ j, (stW c n DI DO j).length ≤ 200 ∧ (stM c n DI DO j).length ≤ 200) := fun hF j => by
    have hz := sizeN_bd (course_ok hF).1
    have := stateP_len c n DI DO (sizeN c).toNat j
    unfold stW stM
    omega
  have HTN : Hid (courseI c n X DI DO = 0 → ∀ (k : Nat) (x : Exm) q, (k : Int) < c.steps → Below w.heap.size w q → InEx q x (stW c n DI DO k) (stM c n DI DO k) → Calls Try.prog 32 #[c.val, .slice a n cap, .agg #[.slice x.a x.n x.k, .slice x.b x.m x.t], .int .i64 k] q fun e w' => ∃ b1 m1 d1 b2 m2 d2 a3 m3 d3 rr, e = .returned (.tuple #[.agg #[.slice b1 m1 d1, .slice b2 m2 d2], .slice a3 m3 d3, .int .i64 rr, .int .i64 0]) ∧ m1 ≤ 200 ∧ m2 ≤ 200 ∧ Lst w' b1 m1 d1 (stW c n DI DO (k + 1)) ∧ Lst w' b2 m2 d2 (stM c n DI DO (k + 1)) ∧ Below q.heap.size q w') := fun hF k x q hk hq hin => by
    have hz := sizeN_bd (course_ok hF).1
    have hl := stateP_len c n DI DO (sizeN c).toNat k
    have hr := stateP_right c n DI DO (sizeN c).toNat k
    have q1 := hin.i.len
    have q2 := hin.o.len
    have hn1 : x.n = (sizeN c).toNat := by rw [← q1]; exact hl.1
    have hn2 : x.m = (sizeN c).toNat := by rw [← q2]; exact hl.2
    have f1 : fitB c x.n (stW c n DI DO k) = true := by
      unfold fitB
      rw [Bool.and_eq_true, decide_eq_true_eq]
      exact ⟨by omega, hr.1⟩
    have f2 : fitB c x.m (stM c n DI DO k) = true := by
      unfold fitB
      rw [Bool.and_eq_true, decide_eq_true_eq]
      exact ⟨by omega, hr.2⟩
    have e0 : nextE c n X DI DO x.n (stW c n DI DO k) x.m (stM c n DI DO k) k = 0 := by
      unfold nextE
      rw [if_pos hF, f1, f2, if_pos (by rfl), if_pos (in_yes ⟨by omega, by omega⟩)]
    have e1 : nxW c n X DI DO x.n (stW c n DI DO k) x.m (stM c n DI DO k) k = stW c n DI DO (k + 1) := by unfold nxW; rw [if_pos e0, hn1]; rfl
    have e2 : nxM c n X DI DO x.n (stW c n DI DO k) x.m (stM c n DI DO k) k = stM c n DI DO (k + 1) := by unfold nxM; rw [if_pos e0, hn1]; rfl
    refine (tNext_calls c hs a n cap X DI DO x.a x.n x.k _ x.b x.m x.t _ k q (hx.below hq (Nat.le_refl _)) hin.i hin.o).mono ?_
    rintro e w' ⟨b1, m1, d1, b2, m2, d2, a3, m3, d3, he, h1, h2, _, l1, l2, _, hb⟩
    rw [e0] at he
    rw [e1] at l1
    rw [e2] at l2
    exact ⟨b1, m1, d1, b2, m2, d2, a3, m3, d3, _, he, h1, h2, l1, l2, hb⟩
  have HST : Hid (courseI c n X DI DO = 0 → 1 ≤ c.steps ∧ c.steps ≤ 40) := fun hF => by
    obtain ⟨_, _, _, _, p, _⟩ := cfgB_is (course_ok hF).1
    exact p
  have KB : Hid (∀ q, Below (w.alloc (.cells c.cells 49)).heap.size (w.alloc (.cells c.cells 49)) q → BoxC q w.heap.size c) := fun q hq => boxC hq (by simp)
  clear hx hs
  generalize courseI c n X DI DO = F at *
  generalize stW c n DI DO = DW at *
  generalize stM c n DI DO = DM at *
  obtain ⟨W0, HW0⟩ : ∃ q, Hid (q = w.alloc (.cells c.cells 49)) := ⟨_, rfl⟩
  rw [← HW0.out] at hal KB
  obtain ⟨i, h, o, seed, batch, steps, crate, decay, how, keep, clip⟩ := c
  simp only [Cfg.val, Cfg.cells] at *
  go_enter Try.func7, Try.ntmps7
  go_wp2_with fail
  rw [← HW0.out]
  clear HW0
  refine (HTT.out _).mono ?_
  rintro e w1 ⟨rfl, T⟩
  obtain ⟨c0, c1, c2, c3, c4, c5, c6, c7, c8, c9, c10⟩ := KB.out _ T
  dsimp only at c0 c1 c2 c3 c4 c5 c6 c7 c8 c9 c10
  go_wp2_with fail
  refine (HRK.out _ (hal.trans (T.mono hal.size))).mono ?_
  rintro e w2 ⟨rfl, hw2⟩
  replace T := T.trans (hw2.mono T.size)
  clear hw2 HTT HRK
  clear c0 c1 c2 c3 c4 c5 c6 c7 c8 c9 c10
  obtain ⟨c0, c1, c2, c3, c4, c5, c6, c7, c8, c9, c10⟩ := KB.out _ T
  dsimp only at c0 c1 c2 c3 c4 c5 c6 c7 c8 c9 c10
  by_cases hF : F = 0
  · subst hF
    obtain ⟨s1, s2⟩ := HST.out (by trivial)
    clear HR0 HST
    go_upto_region 6 with fail
    go_cut [3] (fun v q => ∃ N1 : Nat, N1 ≤ 6 ∧ (N1 : Int) ≤ steps ∧ v = .int .i64 N1 ∧ q = w2)
    case first =>
      clear HR1 HLN HTN KB
      by_cases h6 : steps ≤ 6
      · obtain ⟨S, hS⟩ : ∃ S : Nat, steps + 1 = (S : Int) := ⟨(steps + 1).toNat, by omega⟩
        have RS := rest_any n0 S (by omega) (by omega) w2
        go_wp2_with ((go_at_call 11; refine RS.mono ?_; rintro e w' ⟨⟨N1, hN1, rfl⟩, hw'⟩; replace hw' := hw'.symm; subst hw'))
        go_meet
        case rel => exact ⟨N1, by omega, by omega, rfl, rfl⟩
      · have h7 : 6 < steps := by omega
        have RS : Calls Try.prog 11 #[.int .i64 n0, .int .i64 7] w2 fun e w' => (∃ k : Nat, k < 7 ∧ e = .returned (.int .i64 k)) ∧ w' = w2 := rest_any n0 7 (by omega) (by omega) w2
        go_wp2_with ((go_at_call 11; refine RS.mono ?_; rintro e w' ⟨⟨N1, hN1, rfl⟩, hw'⟩; replace hw' := hw'.symm; subst hw'))
        go_meet
        case rel => exact ⟨N1, by omega, by omega, rfl, rfl⟩
    case rest =>
     obtain ⟨N1, hN6, hN1, rfl, hwq⟩ := hcut
     subst hwq
     obtain ⟨NB, HNB⟩ : ∃ NB : Nat, Hid (N1 + 1 = NB) := ⟨_, rfl⟩
     have eN : (N1 : Int) + 1 = (NB : Int) := by have := HNB.out; omega
     have lN : NB ≤ 7 := by have := HNB.out; omega
     go_wp2_with fail
     refine (rest_any m0 NB (by have := HNB.out; omega) (by omega) _).mono ?_
     rintro e w' ⟨⟨M1, hM1, rfl⟩, hw'⟩
     replace hw' := hw'.symm
     subst hw'
     obtain ⟨MB, HMB⟩ : ∃ MB : Nat, Hid (M1 + 1 = MB) := ⟨_, rfl⟩
     have eM : (M1 : Int) + 1 = (MB : Int) := by have := HMB.out; omega
     have lM : MB ≤ NB := by have := HMB.out; omega
     have RM := HR1.out (by trivial) M1 _ (by have := HNB.out; omega) (hal.trans (T.mono hal.size))
     rw [HMB.out] at RM
     go_wp2_with fail
     refine RM.mono ?_
     rintro e w3 ⟨ba, da, Ya, rfl, exa, hw3⟩
     replace T := T.trans (hw3.mono T.size)
     clear hw3
     clear c0 c1 c2 c3 c4 c5 c6 c7 c8 c9 c10
     obtain ⟨c0, c1, c2, c3, c4, c5, c6, c7, c8, c9, c10⟩ := KB.out _ T
     dsimp only at c0 c1 c2 c3 c4 c5 c6 c7 c8 c9 c10
     have RN := HR1.out (by trivial) N1 _ (by omega) (hal.trans (T.mono hal.size))
     rw [HNB.out] at RN
     clear HR1 RM
     go_wp2_with fail
     refine RN.mono ?_
     rintro e w4 ⟨bb, db, Yb, rfl, exb, hw4⟩
     replace T := T.trans (hw4.mono T.size)
     replace exa := exa.below hw4 (Nat.le_refl _)
     clear hw4 RN
     clear c0 c1 c2 c3 c4 c5 c6 c7 c8 c9 c10
     have qM : ((MB : Int) != (MB : Int)) = false := by simp
     have qN : ((NB : Int) != (NB : Int)) = false := by simp
     have HLN2 := HLN.out (by trivial)
     have HL : Hid (∀ j, (DW j).length ≤ 200 ∧ (DM j).length ≤ 200) := HLN2
     clear HLN HLN2
     go_wp2_with fail
     go_loopw [86] (fun v wr => ∃ k : Nat, k ≤ MB ∧ v = .int .i64 k ∧ Below w4.heap.size w4 wr) (fun v _ => MB - (intOf v).toNat)
     case atStart => exact ⟨0, Nat.zero_le _, rfl, Below.refl _ _⟩
     case round =>
       obtain ⟨k, hk, rfl, hbel⟩ := hrel
       by_cases hlt : k < MB
       · have hx1 := exa.below hbel (Nat.le_refl _)
         have hy1 := exb.below hbel (Nat.le_refl _)
         have hlen := HL.out k
         obtain ⟨xb, xo, rfl, e1, e2, hin1⟩ := hx1.at hlt
         obtain ⟨yb, yo, rfl, e3, e4, hin2⟩ := hy1.at (show k < NB by omega)
         obtain ⟨x, hxk⟩ : ∃ x, Ya k = x := ⟨_, rfl⟩
         obtain ⟨y, hyk⟩ : ∃ y, Yb k = y := ⟨_, rfl⟩
         rw [hxk] at e1 e2 hin1
         rw [hyk] at e3 e4 hin2
         obtain ⟨x1, x2, x3, x4, x5, x6⟩ := x
         obtain ⟨y1, y2, y3, y4, y5, y6⟩ := y
         dsimp only at e1 e2 e3 e4
         have b2 : x2 ≤ 200 := by have := hin1.i.len; dsimp only at this; omega
         have b5 : x5 ≤ 200 := by have := hin1.o.len; dsimp only at this; omega
         have SM : Hid (∀ q, Below wr.heap.size wr q → Calls Try.prog 31 #[.agg #[.slice x1 x2 x3, .slice x4 x5 x6], .agg #[.slice y1 y2 y3, .slice y4 y5 y6]] q fun e w' => e = .returned (.bool true) ∧ Below q.heap.size q w') := fun q hq => rsameS_calls x1 x2 x3 x4 x5 x6 y1 y2 y3 y4 y5 y6 (DW k) (DM k) q (hin1.i.below hq (Nat.le_refl _)) (hin1.o.below hq (Nat.le_refl _)) (hin2.i.below hq (Nat.le_refl _)) (hin2.o.below hq (Nat.le_refl _)) b2 b5
         have KS : Hid (∀ q, Below wr.heap.size wr q → q.cell? ⟨xb, xo + k * 2, none⟩ = some (.slice x1 x2 x3) ∧ q.cell? ⟨xb, xo + k * 2 + 1, none⟩ = some (.slice x4 x5 x6) ∧ q.cell? ⟨yb, yo + k * 2, none⟩ = some (.slice y1 y2 y3) ∧ q.cell? ⟨yb, yo + k * 2 + 1, none⟩ = some (.slice y4 y5 y6)) := fun q hq => ⟨(hq.cell (p := ⟨xb, xo + k * 2, none⟩) (cell_lt e1)).trans e1, (hq.cell (p := ⟨xb, xo + k * 2 + 1, none⟩) (cell_lt e2)).trans e2, (hq.cell (p := ⟨yb, yo + k * 2, none⟩) (cell_lt e3)).trans e3, (hq.cell (p := ⟨yb, yo + k * 2 + 1, none⟩) (cell_lt e4)).trans e4⟩
         have bd : Below wr.heap.size wr wr.drew := below_drewN (Below.refl _ _) 1
         have S0 := KS.out _ bd
         have kn : (k : Int) < (MB : Int) := by omega
         have kn2 : (k : Int) < (NB : Int) := by omega
         have k0 : (0 : Int) ≤ (k : Int) := by omega
         clear hx1 hy1 hin1 hin2 hxk hyk hlen e1 e2 e3 e4
         go_wp2_with fail
         go_region_held3 (fun q => q.cell? ⟨xb, xo + k * 2, none⟩ = some (.slice x1 x2 x3) ∧ q.cell? ⟨xb, xo + k * 2 + 1, none⟩ = some (.slice x4 x5 x6) ∧ q.cell? ⟨yb, yo + k * 2, none⟩ = some (.slice y1 y2 y3) ∧ q.cell? ⟨yb, yo + k * 2 + 1, none⟩ = some (.slice y4 y5 y6)) (first | with_reducible exact S0 | with_reducible exact S1)
           ((go_at_call 31; refine (SM.out _ bd).mono ?_; rintro e v1 ⟨rfl, hv1⟩; have V1 := bd.trans (hv1.mono bd.size); have S1 := KS.out _ V1))
         go_wp2_with fail
         go_roundw
         case rel => exact ⟨k + 1, by omega, by go_num, hbel.trans (V1.mono hbel.size)⟩
         case measure => simp [intOf]; omega
       · replace T := T.trans (hbel.mono T.size)
         replace exb := exb.below hbel (Nat.le_refl _)
         generalize hwr : wr = w5 at *
         clear hwr exa hbel
         go_wp2_with fail
         go_loopw [101] (fun v wr => ∃ k : Nat, k ≤ N1 ∧ v = .int .i64 k ∧ Below w5.heap.size w5 wr) (fun v _ => N1 - (intOf v).toNat)
         case atStart => exact ⟨0, Nat.zero_le _, rfl, Below.refl _ _⟩
         case round =>
           obtain ⟨k, hk, rfl, hbel⟩ := hrel
           replace T := T.trans (hbel.mono T.size)
           by_cases hlt : k < N1
           · have hy1 := exb.below hbel (Nat.le_refl _)
             have hlen := HL.out (k + 1)
             obtain ⟨yb, yo, rfl, e3, e4, hin2⟩ := hy1.at (show k < NB by omega)
             obtain ⟨zb, zo, hzz, e5, e6, hin3⟩ := hy1.at (show k + 1 < NB by omega)
             simp only [Option.some.injEq, Addr.mk.injEq, and_true] at hzz
             obtain ⟨h1, h2⟩ := hzz
             subst h1 h2
             obtain ⟨y, hyk⟩ : ∃ y, Yb k = y := ⟨_, rfl⟩
             obtain ⟨z, hzk⟩ : ∃ z, Yb (k + 1) = z := ⟨_, rfl⟩
             rw [hyk] at e3 e4 hin2
             rw [hzk] at e5 e6 hin3
             obtain ⟨z1, z2, z3, z4, z5, z6⟩ := z
             obtain ⟨m, HM⟩ : ∃ m : Nat, Hid (k + 1 = m) := ⟨_, rfl⟩
             have em : (k : Int) + 1 = (m : Int) := by have := HM.out; omega
             rw [HM.out] at e5 e6 hin3 hlen
             have NX0 : Hid (∀ q, Below wr.heap.size wr q → Calls Try.prog 32 #[.agg #[.int .i64 i, .int .i64 h, .int .i64 o, .int .u64 seed, .int .i64 batch, .int .i64 steps, .int .i64 crate, .int .i64 decay, .int .i64 how, .int .i64 keep, .int .i64 clip], .slice a n cap, .agg #[.slice y.a y.n y.k, .slice y.b y.m y.t], .int .i64 k] q fun e w' => ∃ b1 m1 d1 b2 m2 d2 a3 m3 d3 rr, e = .returned (.tuple #[.agg #[.slice b1 m1 d1, .slice b2 m2 d2], .slice a3 m3 d3, .int .i64 rr, .int .i64 0]) ∧ m1 ≤ 200 ∧ m2 ≤ 200 ∧ Lst w' b1 m1 d1 (DW m) ∧ Lst w' b2 m2 d2 (DM m) ∧ Below q.heap.size q w') := fun q hq => by
               have h := HTN.out (by trivial) k y q (by omega) (hal.trans ((T.trans (hq.mono T.size)).mono hal.size)) (hin2.below hq (Nat.le_refl _))
               rw [HM.out] at h
               exact h
             obtain ⟨y1, y2, y3, y4, y5, y6⟩ := y
             dsimp only at e3 e4 e5 e6 NX0
             have NX : Hid (∀ q, Below wr.heap.size wr q → Calls Try.prog 32 #[.agg #[.int .i64 i, .int .i64 h, .int .i64 o, .int .u64 seed, .int .i64 batch, .int .i64 steps, .int .i64 crate, .int .i64 decay, .int .i64 how, .int .i64 keep, .int .i64 clip], .slice a n cap, .agg #[.slice y1 y2 y3, .slice y4 y5 y6], .int .i64 k] q fun e w' => ∃ b1 m1 d1 b2 m2 d2 a3 m3 d3 rr, e = .returned (.tuple #[.agg #[.slice b1 m1 d1, .slice b2 m2 d2], .slice a3 m3 d3, .int .i64 rr, .int .i64 0]) ∧ m1 ≤ 200 ∧ m2 ≤ 200 ∧ Lst w' b1 m1 d1 (DW m) ∧ Lst w' b2 m2 d2 (DM m) ∧ Below q.heap.size q w') := NX0.out
             have KS : Hid (∀ q, Below wr.heap.size wr q → q.cell? ⟨w.heap.size, 0, none⟩ = some (.int .i64 i) ∧ q.cell? ⟨w.heap.size, 1, none⟩ = some (.int .i64 h) ∧ q.cell? ⟨w.heap.size, 2, none⟩ = some (.int .i64 o) ∧ q.cell? ⟨w.heap.size, 3, none⟩ = some (.int .u64 seed) ∧ q.cell? ⟨w.heap.size, 4, none⟩ = some (.int .i64 batch) ∧ q.cell? ⟨w.heap.size, 5, none⟩ = some (.int .i64 steps) ∧ q.cell? ⟨w.heap.size, 6, none⟩ = some (.int .i64 crate) ∧ q.cell? ⟨w.heap.size, 7, none⟩ = some (.int .i64 decay) ∧ q.cell? ⟨w.heap.size, 8, none⟩ = some (.int .i64 how) ∧ q.cell? ⟨w.heap.size, 9, none⟩ = some (.int .i64 keep) ∧ q.cell? ⟨w.heap.size, 10, none⟩ = some (.int .i64 clip) ∧ q.cell? ⟨yb, yo + k * 2, none⟩ = some (.slice y1 y2 y3) ∧ q.cell? ⟨yb, yo + k * 2 + 1, none⟩ = some (.slice y4 y5 y6)) := fun q hq => by
               obtain ⟨x0, x1, x2, x3, x4, x5, x6, x7, x8, x9, x10⟩ := KB.out q (T.trans (hq.mono T.size))
               exact ⟨x0, x1, x2, x3, x4, x5, x6, x7, x8, x9, x10, (hq.cell (p := ⟨yb, yo + k * 2, none⟩) (cell_lt e3)).trans e3, (hq.cell (p := ⟨yb, yo + k * 2 + 1, none⟩) (cell_lt e4)).trans e4⟩
             have T0 : Below wr.heap.size wr wr := Below.refl _ _
             have hle : wr.heap.size ≤ wr.heap.size := Nat.le_refl _
             have Ba : Below wr.heap.size wr wr.drew := Below.drew T0
             have Bb : Below wr.heap.size wr (wr.alloc (.cells #[.slice none 0 0, .slice none 0 0] 51)).drew := Below.drew (alk T0 hle)
             have sbS : (wr.alloc (.cells #[.slice none 0 0, .slice none 0 0] 51)).drew.rowIs wr.heap.size 51 2 (fn2 (.slice none 0 0) (.slice none 0 0)) := fn2_alloc wr (.slice none 0 0) (.slice none 0 0) 51
             have kn2 : (k : Int) < (NB : Int) := by omega
             have k0 : (0 : Int) ≤ (k : Int) := by omega
             have kN : (k : Int) < (N1 : Int) := by omega
             have mN : (m : Int) < (NB : Int) := by omega
             have ew : IntKind.i64.wrap (m : Int) = (m : Int) := wrap_in _ (by omega) (by omega)
             have m0' : (0 : Int) ≤ (m : Int) := by omega
             clear NX0 HTN hy1 hin2 hyk hzk e3 e4
             go_upto_region 21 with fail
             go_cut [17, 18, 19, 20] from 102 to 129 (fun p _ _ e q => ∃ OB b1 m1 d1 b2 m2 d2, p = .pointer (some ⟨OB, 0, none⟩) ∧ e = .int .i64 0 ∧ OutS wr OB b1 m1 d1 b2 m2 d2 (DW m) (DM m) q)
             case first =>
               go_region_held3 (fun q => q.cell? ⟨w.heap.size, 0, none⟩ = some (.int .i64 i) ∧ q.cell? ⟨w.heap.size, 1, none⟩ = some (.int .i64 h) ∧ q.cell? ⟨w.heap.size, 2, none⟩ = some (.int .i64 o) ∧ q.cell? ⟨w.heap.size, 3, none⟩ = some (.int .u64 seed) ∧ q.cell? ⟨w.heap.size, 4, none⟩ = some (.int .i64 batch) ∧ q.cell? ⟨w.heap.size, 5, none⟩ = some (.int .i64 steps) ∧ q.cell? ⟨w.heap.size, 6, none⟩ = some (.int .i64 crate) ∧ q.cell? ⟨w.heap.size, 7, none⟩ = some (.int .i64 decay) ∧ q.cell? ⟨w.heap.size, 8, none⟩ = some (.int .i64 how) ∧ q.cell? ⟨w.heap.size, 9, none⟩ = some (.int .i64 keep) ∧ q.cell? ⟨w.heap.size, 10, none⟩ = some (.int .i64 clip) ∧ q.cell? ⟨yb, yo + k * 2, none⟩ = some (.slice y1 y2 y3) ∧ q.cell? ⟨yb, yo + k * 2 + 1, none⟩ = some (.slice y4 y5 y6)) ((with_reducible refine KS.out _ ?_; iterate 12 (first | done | with_reducible exact V1 | with_reducible exact T0 | with_reducible refine Below.drew ?_ | with_reducible refine alk ?_ hle | (with_reducible refine setk ?_ ?_; rotate_left; omega))))
                 ((go_at_call 32; (first | refine (NX.out _ Ba).mono ?_ | refine (NX.out _ Bb).mono ?_); rintro e v1 ⟨b1, m1, d1, b2, m2, d2, a3, m3, d3, rr, rfl, g1, g2, l1, l2, hv1⟩; have V1 : Below wr.heap.size wr v1 := (by first | exact Ba.trans (hv1.mono Ba.size) | exact Bb.trans (hv1.mono Bb.size)); have hV1 := V1.size; (try (have zs := sbS.of_block (hv1.block _ sbS.lt); obtain ⟨u0, u1⟩ := fn2_cells zs; have f0 := zs.frozen 0; have f1 := zs.frozen 1))))
               all_goals
                 go_wp2_with fail
                 go_meet
                 case rel => first | exact ⟨_, b1, m1, d1, b2, m2, d2, rfl, rfl, ⟨fn2_alloc _ _ _ _, l1.below (low_alloc _ _) (Nat.le_refl _), l2.below (low_alloc _ _) (Nat.le_refl _), alk V1 hle, g1, g2⟩⟩ | exact ⟨_, b1, m1, d1, b2, m2, d2, rfl, rfl, OutS.put zs l1 l2 V1 hle g1 g2⟩
             case rest =>
               obtain ⟨OB, b1, m1, d1, b2, m2, d2, rfl, rfl, os⟩ := hcut
               generalize hwc : wc = q2 at *
               clear hwc
               have V := os.bel
               have hin4 := hin3.below V (Nat.le_refl _)
               have SM : Hid (∀ q, Below q2.heap.size q2 q → Calls Try.prog 31 #[.agg #[.slice b1 m1 d1, .slice b2 m2 d2], .agg #[.slice z1 z2 z3, .slice z4 z5 z6]] q fun e w' => e = .returned (.bool true) ∧ Below q.heap.size q w') := fun q hq => rsameS_calls b1 m1 d1 b2 m2 d2 z1 z2 z3 z4 z5 z6 (DW m) (DM m) q (os.la.below hq (Nat.le_refl _)) (os.lb.below hq (Nat.le_refl _)) (hin4.i.below hq (Nat.le_refl _)) (hin4.o.below hq (Nat.le_refl _)) os.h1 os.h2
               have KS2 : Hid (∀ q, Below q2.heap.size q2 q → q.cell? ⟨OB, 0, none⟩ = some (.slice b1 m1 d1) ∧ q.cell? ⟨OB, 1, none⟩ = some (.slice b2 m2 d2) ∧ q.cell? ⟨yb, yo + m * 2, none⟩ = some (.slice z1 z2 z3) ∧ q.cell? ⟨yb, yo + m * 2 + 1, none⟩ = some (.slice z4 z5 z6)) := fun q hq => by
                 have hc := fn2_cells (os.row.of_block (hq.block _ os.row.lt))
                 have hv := V.trans (hq.mono V.size)
                 exact ⟨hc.1, hc.2, (hv.cell (p := ⟨yb, yo + m * 2, none⟩) (cell_lt e5)).trans e5, (hv.cell (p := ⟨yb, yo + m * 2 + 1, none⟩) (cell_lt e6)).trans e6⟩
               have bd : Below q2.heap.size q2 q2.drew := below_drewN (Below.refl _ _) 1
               have S0 := KS2.out _ bd
               clear os hin3 hin4 KS NX Ba Bb sbS T0 hle e5 e6
               go_wp2_with fail
               go_region_held3 (fun q => q.cell? ⟨OB, 0, none⟩ = some (.slice b1 m1 d1) ∧ q.cell? ⟨OB, 1, none⟩ = some (.slice b2 m2 d2) ∧ q.cell? ⟨yb, yo + m * 2, none⟩ = some (.slice z1 z2 z3) ∧ q.cell? ⟨yb, yo + m * 2 + 1, none⟩ = some (.slice z4 z5 z6)) (first | with_reducible exact S0 | with_reducible exact S1)
                 ((go_at_call 31; refine (SM.out _ bd).mono ?_; rintro e v2 ⟨rfl, hv2⟩; have V2 := bd.trans (hv2.mono bd.size); have S1 := KS2.out _ V2))
               go_wp2_with fail
               go_roundw
               case rel => exact ⟨m, by omega, by first | rfl | go_num, hbel.trans ((V.trans (V2.mono V.size)).mono hbel.size)⟩
               case measure => simp [intOf]; have := HM.out; omega
           · go_wp2_with fail
             go_ret
             exact ⟨rfl, hal.trans (T.mono hal.size)⟩
  · have hFn : (F != 0) = true := by rw [bne_iff_ne]; exact hF
    have R0 := HR0.out hF _ (hal.trans (T.mono hal.size))
    clear HR0 HR1 HLN HTN HST hF
    go_wp2_with fail
    refine R0.mono ?_
    rintro e w3 ⟨b, k, rfl, hw3⟩
    replace T := T.trans (hw3.mono T.size)
    go_wp2_with fail
    go_ret
    exact ⟨rfl, hal.trans (T.mono hal.size)⟩
end Go.Proofs.Ytnlcheebdkjpbae.Fx
