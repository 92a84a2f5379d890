/- The walk of PupilRuns: it returns true, whatever pupil and example lie there, and nothing that was there is written. -/
import Derived.Test.YtmoeogecafjcmaaRunsB
import Derived.Test.YtmoeogecafjcmaaRefPup
import Derived.Test.YtmoeogecafjcmaaRefSame
namespace Go.Proofs.Ytmoeogecafjcmaa.Fx
open Go.RowKit

def fnP (P : Pup) : Nat → Value := fn8 (.int .i64 P.r1) (.int .i64 P.c1) (.slice P.a1 P.n1 P.k1) (.int .i64 P.r2) (.int .i64 P.c2) (.slice P.a2 P.n2 P.k2) (.slice P.d1 P.m1 P.e1) (.slice P.d2 P.m2 P.e2)
/-- What the law has reckoned by itself: two errors, two lists, a number; and, in the block that was laid for it, a pupil. -/
structure RunSt (F G : Int) (HO YO : List Int) (LO : Int) (GO : PD) (GP : Pup → Prop) (q0 : World) (f g hv yv lv : Value) (w2 : World) : Prop where
  hf : f = .int .i64 F
  hg : g = .int .i64 G
  hh : ∃ a n c, hv = .slice a n c ∧ n ≤ 4 ∧ Lst w2 a n c HO
  hy : ∃ a n c, yv = .slice a n c ∧ n ≤ 4 ∧ Lst w2 a n c YO
  hl : lv = .int .i64 LO
  hp : ∃ P, GP P ∧ InPup w2 P GO ∧ w2.rowIs q0.heap.size 47 8 (fnP P)
  bel : Below q0.heap.size q0 w2

set_option maxRecDepth 100000 in
set_option maxHeartbeats 6400000 in
theorem pupilRuns_core (r1 c1 : Int) (a1 : Option Addr) (n1 k1 : Nat) (r2 c2 : Int) (a2 : Option Addr) (n2 k2 : Nat) (d1 : Option Addr) (m1 t1 : Nat) (d2 : Option Addr) (m2 t2 : Nat) (xa : Option Addr) (xn xk : Nat) (xb : Option Addr) (xm xt : Nat)
    (E F G LO : Int) (HO YO : List Int) (GO : PD) (GP : Pup → Prop) (w W : World)
    (HW : Hid (W = (w.alloc (.cells #[.int .i64 r1, .int .i64 c1, .slice a1 n1 k1, .int .i64 r2, .int .i64 c2, .slice a2 n2 k2, .slice d1 m1 t1, .slice d2 m2 t2] 47)).alloc (.cells #[.slice xa xn xk, .slice xb xm xt] 59)))
    (HC0 : Hid (∀ q, Below W.heap.size W q → Calls Try.prog 31 #[.agg #[.int .i64 r1, .int .i64 c1, .slice a1 n1 k1, .int .i64 r2, .int .i64 c2, .slice a2 n2 k2, .slice d1 m1 t1, .slice d2 m2 t2]] q fun e w' => e = .returned (.int .i64 E) ∧ Below q.heap.size q w')) (HCF : Hid (E = 0 → ∀ q, Below W.heap.size W q → Calls Try.prog 41 #[.agg #[.int .i64 r1, .int .i64 c1, .slice a1 n1 k1, .int .i64 r2, .int .i64 c2, .slice a2 n2 k2, .slice d1 m1 t1, .slice d2 m2 t2], .agg #[.slice xa xn xk, .slice xb xm xt]] q fun e w' => e = .returned (.bool (decide (G = 0))) ∧ Below q.heap.size q w')) (HCW : Hid (E = 0 → F = 0 → ∀ q, Below W.heap.size W q → Calls Try.prog 40 #[.agg #[.int .i64 r1, .int .i64 c1, .slice a1 n1 k1, .int .i64 r2, .int .i64 c2, .slice a2 n2 k2, .slice d1 m1 t1, .slice d2 m2 t2], .slice xa xn xk] q fun e w' => ∃ gh nh ch gy ny cy, e = .returned (.tuple #[.slice (some ⟨gh, 0, none⟩) nh ch, .slice (some ⟨gy, 0, none⟩) ny cy]) ∧ nh ≤ 4 ∧ ny ≤ 4 ∧ q.heap.size ≤ gh ∧ q.heap.size ≤ gy ∧ Lst w' (some ⟨gh, 0, none⟩) nh ch HO ∧ Lst w' (some ⟨gy, 0, none⟩) ny cy YO ∧ Below q.heap.size q w')) (HCL : Hid (E = 0 → G = 0 → ∀ q, Below W.heap.size W q → Calls Try.prog 42 #[.agg #[.int .i64 r1, .int .i64 c1, .slice a1 n1 k1, .int .i64 r2, .int .i64 c2, .slice a2 n2 k2, .slice d1 m1 t1, .slice d2 m2 t2], .agg #[.slice xa xn xk, .slice xb xm xt]] q fun e w' => e = .returned (.int .i64 LO) ∧ Below q.heap.size q w')) (HCG : Hid (E = 0 → G = 0 → ∀ q, Below W.heap.size W q → Calls Try.prog 43 #[.agg #[.int .i64 r1, .int .i64 c1, .slice a1 n1 k1, .int .i64 r2, .int .i64 c2, .slice a2 n2 k2, .slice d1 m1 t1, .slice d2 m2 t2], .agg #[.slice xa xn xk, .slice xb xm xt]] q fun e w' => ∃ P : Pup, e = .returned (.agg #[.int .i64 P.r1, .int .i64 P.c1, .slice P.a1 P.n1 P.k1, .int .i64 P.r2, .int .i64 P.c2, .slice P.a2 P.n2 P.k2, .slice P.d1 P.m1 P.e1, .slice P.d2 P.m2 P.e2]) ∧ GP P ∧ (∀ wz b, b < q.heap.size → w'.grownBy wz (some b) → InPup wz P GO) ∧ Below q.heap.size q w'))
    (HUF : Hid (∀ q, Below W.heap.size W q → Calls Try.prog 44 #[.agg #[.int .i64 r1, .int .i64 c1, .slice a1 n1 k1, .int .i64 r2, .int .i64 c2, .slice a2 n2 k2, .slice d1 m1 t1, .slice d2 m2 t2], .slice xa xn xk] q fun e w' => ∃ ah nh ay ny, e = .returned (.tuple #[.slice ah nh nh, .slice ay ny ny, .int .i64 F]) ∧ nh ≤ 4 ∧ ny ≤ 4 ∧ Lst w' ah nh nh HO ∧ Lst w' ay ny ny YO ∧ Below q.heap.size q w')) (HUL : Hid (∀ q, Below W.heap.size W q → Calls Try.prog 45 #[.agg #[.int .i64 r1, .int .i64 c1, .slice a1 n1 k1, .int .i64 r2, .int .i64 c2, .slice a2 n2 k2, .slice d1 m1 t1, .slice d2 m2 t2], .agg #[.slice xa xn xk, .slice xb xm xt]] q fun e w' => e = .returned (.tuple #[.int .i64 LO, .int .i64 G]) ∧ Below q.heap.size q w')) (HUG : Hid (∀ q, Below W.heap.size W q → Calls Try.prog 46 #[.agg #[.int .i64 r1, .int .i64 c1, .slice a1 n1 k1, .int .i64 r2, .int .i64 c2, .slice a2 n2 k2, .slice d1 m1 t1, .slice d2 m2 t2], .agg #[.slice xa xn xk, .slice xb xm xt]] q fun e w' => ∃ P : Pup, e = .returned (.tuple #[.agg #[.int .i64 P.r1, .int .i64 P.c1, .slice P.a1 P.n1 P.k1, .int .i64 P.r2, .int .i64 P.c2, .slice P.a2 P.n2 P.k2, .slice P.d1 P.m1 P.e1, .slice P.d2 P.m2 P.e2], .int .i64 G]) ∧ GP P ∧ InPup w' P GO ∧ Below q.heap.size q w'))
    (HB : Hid (E ≠ 0 → F = E ∧ G = E ∧ HO = [] ∧ YO = [] ∧ LO = 0 ∧ GO = noD ∧ G ≠ 0)) (HF1 : Hid (E = 0 → (xn : Int) = c1 → F = 0)) (HF2 : Hid (E = 0 → ¬ (xn : Int) = c1 → F = 5 ∧ HO = [] ∧ YO = []))
    (HG1 : Hid (E = 0 → G ≠ 0 → G = 5 ∧ LO = 0 ∧ GO = noD)) (HG2 : Hid (G = 0 → (xn : Int) = c1)) (HNP : Hid (G ≠ 0 → GP noPup))
    (HEQ : Hid (∀ P Q, GP P → GP Q → P.r1 = Q.r1 ∧ P.c1 = Q.c1 ∧ P.r2 = Q.r2 ∧ P.c2 = Q.c2 ∧ P.n1 ≤ 1000 ∧ P.n2 ≤ 1000 ∧ P.m1 ≤ 1000 ∧ P.m2 ≤ 1000)) :
    Calls Try.prog 7 #[.agg #[.int .i64 r1, .int .i64 c1, .slice a1 n1 k1, .int .i64 r2, .int .i64 c2, .slice a2 n2 k2, .slice d1 m1 t1, .slice d2 m2 t2], .agg #[.slice xa xn xk, .slice xb xm xt]] w fun e w' => e = .returned (.bool true) ∧ Below w.heap.size w w' := by
  have hWs : W.heap.size = w.heap.size + 1 + 1 := by rw [HW.out]; simp
  have KW : Hid (∀ q, Below W.heap.size W q → Below w.heap.size w q) := by
    intro q hq
    have h0 := low_alloc w (.cells #[.int .i64 r1, .int .i64 c1, .slice a1 n1 k1, .int .i64 r2, .int .i64 c2, .slice a2 n2 k2, .slice d1 m1 t1, .slice d2 m2 t2] 47)
    have h1 := h0.alloc h0.size (.cells #[.slice xa xn xk, .slice xb xm xt] 59)
    rw [← HW.out] at h1
    exact h1.trans (hq.mono h1.size)
  have KA : Hid (∀ q, Below W.heap.size W q → Box8 q w.heap.size (.int .i64 r1) (.int .i64 c1) (.slice a1 n1 k1) (.int .i64 r2) (.int .i64 c2) (.slice a2 n2 k2) (.slice d1 m1 t1) (.slice d2 m2 t2)) := by
    intro q hq
    rw [HW.out] at hq
    exact boxA hq (by simp; omega)
  have KE : Hid (∀ q, Below W.heap.size W q → q.cell? ⟨w.heap.size + 1, 0, none⟩ = some (.slice xa xn xk) ∧ q.cell? ⟨w.heap.size + 1, 1, none⟩ = some (.slice xb xm xt)) := by
    intro q hq
    rw [HW.out] at hq
    exact boxE hq (by simp)
  have hc0 := HC0.out W (Below.refl _ _)
  go_enter Try.func7, Try.ntmps7
  go_upto_if 24 with (go_at_call 31; rw [← HW.out]; refine hc0.mono ?_; rintro e w1 ⟨rfl, T1⟩)
  go_cut [6, 7, 8, 9, 10] (fun f g hv yv lv w2 => RunSt F G HO YO LO GO GP w1 f g hv yv lv w2)
  case first =>
    have hst := fn8_alloc w1 (.int .i64 0) (.int .i64 0) (.slice none 0 0) (.int .i64 0) (.int .i64 0) (.slice none 0 0) (.slice none 0 0) (.slice none 0 0) 47
    have hsb := low_alloc w1 (.cells #[.int .i64 0, .int .i64 0, .slice none 0 0, .int .i64 0, .int .i64 0, .slice none 0 0, .slice none 0 0, .slice none 0 0] 47)
    have Tq := T1.trans (hsb.mono T1.size)
    have hqs : (w1.alloc (.cells #[.int .i64 0, .int .i64 0, .slice none 0 0, .int .i64 0, .int .i64 0, .slice none 0 0, .slice none 0 0, .slice none 0 0] 47)).heap.size = w1.heap.size + 1 := by simp
    clear hc0 HC0 HUF HUL HUG HEQ
    by_cases hE : E = 0
    · subst hE
      obtain ⟨f0, f1, f2, f3, f4, f5, f6, f7⟩ := KA.out _ Tq
      obtain ⟨x0, x1⟩ := KE.out _ Tq
      have hcf := HCF.out rfl
      have hcl0 := HCL.out rfl
      have hcg0 := HCG.out rfl
      have HG1' : Hid (G ≠ 0 → G = 5 ∧ LO = 0 ∧ GO = noD) := HG1.out rfl
      by_cases h1 : (xn : Int) = c1
      · have u1 : ((xn : Int) == c1) = true := by simpa using h1
        have hF := HF1.out rfl h1
        subst hF
        have hcw := HCW.out rfl rfl _ Tq
        clear h1
        go_wp2_with fail
        refine hcw.mono ?_
        rintro e w2 ⟨gh, nh, ch, gy, ny, cy, rfl, bnh, bny, bh, b', hh, hy, hw2⟩
        have T2 := Tq.trans (hw2.mono Tq.size)
        have hst2 := rowIs_below hst hw2 (by omega)
        have hsb2 := hsb.trans (hw2.mono hsb.size)
        clear hcw f0 f1 f2 f3 f4 f5 f6 f7 x0 x1
        obtain ⟨f0, f1, f2, f3, f4, f5, f6, f7⟩ := KA.out _ T2
        obtain ⟨x0, x1⟩ := KE.out _ T2
        have hcf2 := hcf _ T2
        go_wp2_with fail
        refine hcf2.mono ?_
        rintro e w3 ⟨rfl, hw3⟩
        have T3 := T2.trans (hw3.mono T2.size)
        have hst3 := rowIs_below hst2 hw3 hst2.lt
        have hsb3 := hsb2.trans (hw3.mono hsb2.size)
        have hh3 := hh.below hw3 (Nat.le_refl _)
        have hy3 := hy.below hw3 (Nat.le_refl _)
        clear hcf2 f0 f1 f2 f3 f4 f5 f6 f7 x0 x1 hst2 hsb2 hh hy T2 hst hsb
        by_cases hG : G = 0
        · rw [decide_eq_true hG]
          have hcl := hcl0 hG
          have hcg := hcg0 hG
          clear hcl0 hcg0 hcf HCF HCL HCG HCW HG1 HG1' HF1 HF2 HB HG2 HNP
          have HGZ : Hid (G = 0) := hG
          have HS : Hid (∀ q, Below W.heap.size W q → q.cell? ⟨w.heap.size, 0, none⟩ = some (.int .i64 r1) ∧ q.cell? ⟨w.heap.size, 1, none⟩ = some (.int .i64 c1) ∧ q.cell? ⟨w.heap.size, 2, none⟩ = some (.slice a1 n1 k1) ∧ q.cell? ⟨w.heap.size, 3, none⟩ = some (.int .i64 r2) ∧ q.cell? ⟨w.heap.size, 4, none⟩ = some (.int .i64 c2) ∧ q.cell? ⟨w.heap.size, 5, none⟩ = some (.slice a2 n2 k2) ∧ q.cell? ⟨w.heap.size, 6, none⟩ = some (.slice d1 m1 t1) ∧ q.cell? ⟨w.heap.size, 7, none⟩ = some (.slice d2 m2 t2) ∧ q.cell? ⟨w.heap.size + 1, 0, none⟩ = some (.slice xa xn xk) ∧ q.cell? ⟨w.heap.size + 1, 1, none⟩ = some (.slice xb xm xt)) := by
            intro q hq
            obtain ⟨y0, y1, y2, y3, y4, y5, y6, y7⟩ := KA.out _ hq
            exact ⟨y0, y1, y2, y3, y4, y5, y6, y7, KE.out _ hq⟩
          obtain ⟨f0, f1, f2, f3, f4, f5, f6, f7⟩ := KA.out _ T3
          obtain ⟨x0, x1⟩ := KE.out _ T3
          have T3d : Below W.heap.size W w3.drew := T3.drew
          clear hG
          go_wp2_with fail
          go_region_held3 (fun q => q.cell? ⟨w.heap.size, 0, none⟩ = some (.int .i64 r1) ∧ q.cell? ⟨w.heap.size, 1, none⟩ = some (.int .i64 c1) ∧ q.cell? ⟨w.heap.size, 2, none⟩ = some (.slice a1 n1 k1) ∧ q.cell? ⟨w.heap.size, 3, none⟩ = some (.int .i64 r2) ∧ q.cell? ⟨w.heap.size, 4, none⟩ = some (.int .i64 c2) ∧ q.cell? ⟨w.heap.size, 5, none⟩ = some (.slice a2 n2 k2) ∧ q.cell? ⟨w.heap.size, 6, none⟩ = some (.slice d1 m1 t1) ∧ q.cell? ⟨w.heap.size, 7, none⟩ = some (.slice d2 m2 t2) ∧ q.cell? ⟨w.heap.size + 1, 0, none⟩ = some (.slice xa xn xk) ∧ q.cell? ⟨w.heap.size + 1, 1, none⟩ = some (.slice xb xm xt)) (first | with_reducible exact HS.out _ T6 | with_reducible exact HS.out _ T5 | with_reducible exact HS.out _ T4 | with_reducible exact HS.out _ T3d)
            (first | (go_at_call 42; refine (hcl _ T3d).mono ?_; rintro e w4 ⟨rfl, hw4⟩; have T4 := T3d.trans (hw4.mono T3d.size); have hst4 := rowIs_below hst3.drew hw4 hst3.lt; have hsb4 := hsb3.drew.trans (hw4.mono hsb3.size); have hh4 := hh3.drew.below hw4 (Nat.le_refl _); have hy4 := hy3.drew.below hw4 (Nat.le_refl _)) | (go_at_call 43; refine (hcg _ T4).mono ?_; rintro e w5 ⟨P, rfl, hgp, hkp, hw5⟩; have HKP : Hid (∀ wz b, b < w4.heap.size → w5.grownBy wz (some b) → InPup wz P GO) := hkp; clear hkp; have T5 := T4.trans (hw5.mono T4.size); have hst5 := rowIs_below hst4 hw5 hst4.lt; have hsb5 := hsb4.trans (hw5.mono hsb4.size); have hh5 := hh4.below hw5 (Nat.le_refl _); have hy5 := hy4.below hw5 (Nat.le_refl _); obtain ⟨q0, q1, q2, q3, q4, q5, q6, q7⟩ := fn8_box hst5; have g0 := hst5.frozen 0; have g1 := hst5.frozen 1; have g2 := hst5.frozen 2; have g3 := hst5.frozen 3; have g4 := hst5.frozen 4; have g5 := hst5.frozen 5; have g6 := hst5.frozen 6; have g7 := hst5.frozen 7; have T6 := T5.grown (grown8 w5 w1.heap.size (.int .i64 P.r1) (.int .i64 P.c1) (.slice P.a1 P.n1 P.k1) (.int .i64 P.r2) (.int .i64 P.c2) (.slice P.a2 P.n2 P.k2) (.slice P.d1 P.m1 P.e1) (.slice P.d2 P.m2 P.e2)) T5.size (fun j hj => by simp at hj; have := T1.size; omega)))
          all_goals
            go_wp2_with fail
            go_meet
            case rel =>
              have hg8 := grown8 w5 w1.heap.size (.int .i64 P.r1) (.int .i64 P.c1) (.slice P.a1 P.n1 P.k1) (.int .i64 P.r2) (.int .i64 P.c2) (.slice P.a2 P.n2 P.k2) (.slice P.d1 P.m1 P.e1) (.slice P.d2 P.m2 P.e2)
              exact ⟨rfl, by rw [HGZ.out], ⟨_, _, _, rfl, bnh, hh5.grown hg8 (by omega)⟩, ⟨_, _, _, rfl, bny, hy5.grown hg8 (by omega)⟩, rfl, ⟨P, hgp, HKP.out _ _ hst4.lt hg8, fn8_set8 hst5 (.int .i64 P.r1) (.int .i64 P.c1) (.slice P.a1 P.n1 P.k1) (.int .i64 P.r2) (.int .i64 P.c2) (.slice P.a2 P.n2 P.k2) (.slice P.d1 P.m1 P.e1) (.slice P.d2 P.m2 P.e2)⟩, hsb5.grown hg8 hsb5.size (fun j hj => by simp at hj; omega)⟩
        · rw [decide_eq_false hG]
          obtain ⟨e1, e2, e3⟩ := HG1'.out hG
          have hnp := HNP.out hG
          have HG5 : Hid (G = 5) := e1
          have HL0 : Hid (LO = 0) := e2
          clear e1 e2 hG
          go_wp2_with fail
          go_meet
          case rel => exact ⟨rfl, by rw [HG5.out], ⟨_, _, _, rfl, bnh, hh3⟩, ⟨_, _, _, rfl, bny, hy3⟩, by rw [HL0.out], ⟨noPup, hnp, by rw [e3]; exact noPup_any _, hst3⟩, hsb3⟩
      · have u1 : ((xn : Int) == c1) = false := by simpa using h1
        obtain ⟨e1, e2, e3⟩ := HF2.out rfl h1
        have hG : G ≠ 0 := fun hz => h1 (HG2.out hz)
        obtain ⟨e4, e5, e6⟩ := HG1'.out hG
        have hnp := HNP.out hG
        have HF5 : Hid (F = 5) := e1
        have HH0 : Hid (HO = []) := e2
        have HY0 : Hid (YO = []) := e3
        have HG5 : Hid (G = 5) := e4
        have HL0 : Hid (LO = 0) := e5
        have hcf2 := hcf _ Tq
        rw [decide_eq_false hG] at hcf2
        clear e1 e2 e3 e4 e5 hG h1
        go_wp2_with fail
        refine hcf2.mono ?_
        rintro e w3 ⟨rfl, hw3⟩
        have hst3 := rowIs_below hst hw3 hst.lt
        have hsb3 := hsb.trans (hw3.mono hsb.size)
        go_wp2_with fail
        go_meet
        case rel => exact ⟨by rw [HF5.out], by rw [HG5.out], ⟨none, 0, 0, rfl, Nat.zero_le _, by rw [HH0.out]; exact Lst.nil _ _ _⟩, ⟨none, 0, 0, rfl, Nat.zero_le _, by rw [HY0.out]; exact Lst.nil _ _ _⟩, by rw [HL0.out], ⟨noPup, hnp, by rw [e6]; exact noPup_any _, hst3⟩, hsb3⟩
    · have hE' : (E == 0) = false := by simpa using hE
      obtain ⟨e1, e2, e3, e4, e5, e6, e7⟩ := HB.out hE
      have hnp := HNP.out e7
      have HFE : Hid (F = E) := e1
      have HGE : Hid (G = E) := e2
      have HH0 : Hid (HO = []) := e3
      have HY0 : Hid (YO = []) := e4
      have HL0 : Hid (LO = 0) := e5
      clear e1 e2 e3 e4 e5
      go_wp2_with fail
      go_meet
      case rel => exact ⟨by rw [HFE.out], by rw [HGE.out], ⟨none, 0, 0, rfl, Nat.zero_le _, by rw [HH0.out]; exact Lst.nil _ _ _⟩, ⟨none, 0, 0, rfl, Nat.zero_le _, by rw [HY0.out]; exact Lst.nil _ _ _⟩, by rw [HL0.out], ⟨noPup, hnp, by rw [e6]; exact noPup_any _, hst⟩, hsb⟩
  case rest =>
    obtain ⟨rfl, rfl, ⟨ha, hn, hc, rfl, bhn, hh⟩, ⟨ya, yn, yc, rfl, byn, hy⟩, rfl, ⟨P, hgp, hin, hrow⟩, hbel⟩ := hcut
    generalize hwc : wc = v0 at *
    clear hwc
    have T0 := T1.trans (hbel.mono T1.size)
    clear hc0 HC0 HCF HCW HCL HCG HB HF1 HF2 HG1 HG2 HNP
    obtain ⟨f0, f1, f2, f3, f4, f5, f6, f7⟩ := KA.out _ T0
    obtain ⟨x0, x1⟩ := KE.out _ T0
    have hc1 := HUF.out _ T0
    go_wp2_with fail
    refine hc1.mono ?_
    rintro e v1 ⟨ha', hn', ya', yn', rfl, bh', by', hh', hy', hv1⟩
    have T2 := T0.trans (hv1.mono T0.size)
    have hh1 := hh.below hv1 (Nat.le_refl _)
    have hy1 := hy.below hv1 (Nat.le_refl _)
    have hin1 := hin.below hv1 (Nat.le_refl _)
    have hrow1 := rowIs_below hrow hv1 hrow.lt
    clear hc1 hv1 hh hy hin hrow T0 f0 f1 f2 f3 f4 f5 f6 f7 x0 x1 hbel
    obtain ⟨f0, f1, f2, f3, f4, f5, f6, f7⟩ := KA.out _ T2
    obtain ⟨x0, x1⟩ := KE.out _ T2
    have hc1 := HUL.out _ T2
    go_wp2_with fail
    refine hc1.mono ?_
    rintro e v2 ⟨rfl, hv2⟩
    have T3 := T2.trans (hv2.mono T2.size)
    have hh2 := hh1.below hv2 (Nat.le_refl _)
    have hy2 := hy1.below hv2 (Nat.le_refl _)
    have hh2' := hh'.below hv2 (Nat.le_refl _)
    have hy2' := hy'.below hv2 (Nat.le_refl _)
    have hin2 := hin1.below hv2 (Nat.le_refl _)
    have hrow2 := rowIs_below hrow1 hv2 hrow1.lt
    clear hc1 hv2 hh1 hy1 hh' hy' hin1 hrow1 T2 f0 f1 f2 f3 f4 f5 f6 f7 x0 x1
    obtain ⟨f0, f1, f2, f3, f4, f5, f6, f7⟩ := KA.out _ T3
    obtain ⟨x0, x1⟩ := KE.out _ T3
    have hc1 := HUG.out _ T3
    go_wp2_with fail
    refine hc1.mono ?_
    rintro e v3 ⟨Q, rfl, hgq, hinq, hv3⟩
    have T4 := T3.trans (hv3.mono T3.size)
    have hal4 := low_alloc v3 (.cells #[.int .i64 Q.r1, .int .i64 Q.c1, .slice Q.a1 Q.n1 Q.k1, .int .i64 Q.r2, .int .i64 Q.c2, .slice Q.a2 Q.n2 Q.k2, .slice Q.d1 Q.m1 Q.e1, .slice Q.d2 Q.m2 Q.e2] 47)
    have T5 := T4.trans (hal4.mono T4.size)
    have hb35 := hv3.trans (hal4.mono hv3.size)
    have hh5 := hh2.below hb35 (Nat.le_refl _)
    have hy5 := hy2.below hb35 (Nat.le_refl _)
    have hh5' := hh2'.below hb35 (Nat.le_refl _)
    have hy5' := hy2'.below hb35 (Nat.le_refl _)
    have hin5 := hin2.below hb35 (Nat.le_refl _)
    have hinq5 := hinq.below hal4 (Nat.le_refl _)
    have hrow5 := rowIs_below hrow2 hb35 hrow2.lt
    have hrowq : (v3.alloc (.cells #[.int .i64 Q.r1, .int .i64 Q.c1, .slice Q.a1 Q.n1 Q.k1, .int .i64 Q.r2, .int .i64 Q.c2, .slice Q.a2 Q.n2 Q.k2, .slice Q.d1 Q.m1 Q.e1, .slice Q.d2 Q.m2 Q.e2] 47)).rowIs v3.heap.size 47 8 (fnP Q) := fn8_alloc _ _ _ _ _ _ _ _ _ _
    clear hc1 hv3 hh2 hy2 hh2' hy2' hin2 hinq hrow2 T3 T4 f0 f1 f2 f3 f4 f5 f6 f7 x0 x1 hb35 hal4
    go_wp2_with fail
    refine (eq_calls _ _ _ _ _ _ HO HO _ hh5' hh5 (by omega)).mono ?_
    rintro e v6 ⟨rfl, j6, hv6⟩
    rw [decide_eq_true rfl]
    have hb6 : Below _ _ v6 := hv6 ▸ below_drewN (Below.refl (v3.alloc (.cells #[.int .i64 Q.r1, .int .i64 Q.c1, .slice Q.a1 Q.n1 Q.k1, .int .i64 Q.r2, .int .i64 Q.c2, .slice Q.a2 Q.n2 Q.k2, .slice Q.d1 Q.m1 Q.e1, .slice Q.d2 Q.m2 Q.e2] 47)).heap.size _) j6
    have T6 := T5.trans (hb6.mono T5.size)
    have hy6 := hy5.below hb6 (Nat.le_refl _)
    have hy6' := hy5'.below hb6 (Nat.le_refl _)
    have hin6 := hin5.below hb6 (Nat.le_refl _)
    have hinq6 := hinq5.below hb6 (Nat.le_refl _)
    have hrow6 := rowIs_below hrow5 hb6 hrow5.lt
    have hrowq6 := rowIs_below hrowq hb6 hrowq.lt
    clear hv6 hb6 T5 hy5 hy5' hin5 hinq5 hrow5 hrowq hh5 hh5'
    go_wp2_with fail
    refine (eq_calls _ _ _ _ _ _ YO YO _ hy6' hy6 (by omega)).mono ?_
    rintro e v7 ⟨rfl, j7, hv7⟩
    rw [decide_eq_true rfl]
    have hb7 : Below v6.heap.size v6 v7 := hv7 ▸ below_drewN (Below.refl _ _) j7
    have T7 := T6.trans (hb7.mono T6.size)
    have hin7 := hin6.below hb7 (Nat.le_refl _)
    have hinq7 := hinq6.below hb7 (Nat.le_refl _)
    have hrow7 := rowIs_below hrow6 hb7 hrow6.lt
    have hrowq7 := rowIs_below hrowq6 hb7 hrowq6.lt
    clear hv7 hb7 T6 hy6 hy6' hin6 hinq6 hrow6 hrowq6
    obtain ⟨z0, z1, z2, z3, z4, z5, z6, z7⟩ := fn8_box hrow7
    obtain ⟨y0, y1, y2, y3, y4, y5, y6, y7⟩ := fn8_box hrowq7
    have s1 : (F == F) = true := by simp
    have s2 : (LO == LO) = true := by simp
    have s3 : (G == G) = true := by simp
    obtain ⟨e1, e2, e3, e4, b1, b2, b3, b4⟩ := HEQ.out Q P hgq hgp
    have hs := rsameP_calls Q P GO v7 hinq7 hin7 e1 e2 e3 e4 b1 b2 b3 b4
    clear e1 e2 e3 e4 b1 b2 b3 b4 hrow7 hrowq7 hin7 hinq7
    go_wp2_with fail
    refine hs.mono ?_
    rintro e v8 ⟨rfl, hv8⟩
    go_wp2
    go_ret
    exact ⟨rfl, KW.out _ (T7.trans (hv8.mono T7.size))⟩

theorem pupilRuns_any (p : Pup) (d : PD) (x : Exm) (xs ys : List Int) (w : World) (hp : InPup w p d) (hx : InEx w x xs ys) :
    Calls Try.prog 7 #[p.val, x.val] w fun e w' => e = .returned (.bool true) ∧ Below w.heap.size w w' := by
  have h0 := low_alloc w (.cells p.cells 47)
  have hal := h0.alloc h0.size (.cells #[.slice x.a x.n x.k, .slice x.b x.m x.t] 59)
  have hpW := hp.below hal (Nat.le_refl _)
  have hxW := hx.below hal (Nat.le_refl _)
  refine pupilRuns_core p.r1 p.c1 p.a1 p.n1 p.k1 p.r2 p.c2 p.a2 p.n2 p.k2 p.d1 p.m1 p.e1 p.d2 p.m2 p.e2 x.a x.n x.k x.b x.m x.t (pchk p d) (fwI p d x.n) (exI p d x.n x.m) (lOut p d x.n x.m xs ys) (hOut p d x.n xs) (yOut p d x.n xs) (gOut p d x.n x.m xs ys) (GradP p d x.n x.m) w _ rfl
    (fun q hq => rpupil_calls p d q (hpW.below hq (Nat.le_refl _))) (fun hE q hq => (ref_at hpW hxW hE).fits q hq) (fun hE hF q hq => (ref_at hpW hxW hE).fwd hF q hq) (fun hE hG q hq => (ref_at hpW hxW hE).loss hG q hq) (fun hE hG q hq => (ref_at hpW hxW hE).grad hG q hq)
    (fun q hq => uF_calls p d x xs ys q (hpW.below hq (Nat.le_refl _)) (hxW.below hq (Nat.le_refl _))) (fun q hq => uL_calls p d x xs ys q (hpW.below hq (Nat.le_refl _)) (hxW.below hq (Nat.le_refl _))) (fun q hq => uG_calls p d x xs ys q (hpW.below hq (Nat.le_refl _)) (hxW.below hq (Nat.le_refl _)))
    (fun h => run_bad h) (fun h h1 => run_fw h h1) (fun h h1 => run_nofw xs h h1) (fun h h1 => run_noex xs ys h h1) (fun h => (exI_zero h).2.1) (fun h => gradP_no h)
    (fun P Q hP hQ => ⟨hP.e1.trans hQ.e1.symm, hP.e2.trans hQ.e2.symm, hP.e3.trans hQ.e3.symm, hP.e4.trans hQ.e4.symm, hP.b1, hP.b2, hP.b3, hP.b4⟩)
end Go.Proofs.Ytmoeogecafjcmaa.Fx
