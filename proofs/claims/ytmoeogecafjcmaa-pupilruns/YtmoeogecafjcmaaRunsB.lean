/- What coachref's functions tell of a pupil that Check takes, in the words of the text RunsA. -/
import Derived.Test.YtmoeogecafjcmaaRunsA
import Derived.Test.YtmoeogecafjcmaaRefGrad
namespace Go.Proofs.Ytmoeogecafjcmaa.Fx
open Go.RowKit

structure RefAt (p : Pup) (d : PD) (x : Exm) (xs ys : List Int) (W : World) : Prop where
  fits : ∀ q, Below W.heap.size W q → Calls Try.prog 41 #[p.val, x.val] q fun e w' => e = .returned (.bool (decide (exI p d x.n x.m = 0))) ∧ Below q.heap.size q w'
  fwd : fwI p d x.n = 0 → ∀ q, Below W.heap.size W q → Calls Try.prog 40 #[p.val, .slice x.a x.n x.k] q fun e w' => ∃ gh nh ch gy ny cy, e = .returned (.tuple #[.slice (some ⟨gh, 0, none⟩) nh ch, .slice (some ⟨gy, 0, none⟩) ny cy]) ∧ nh ≤ 4 ∧ ny ≤ 4 ∧ q.heap.size ≤ gh ∧ q.heap.size ≤ gy ∧ Lst w' (some ⟨gh, 0, none⟩) nh ch (hOut p d x.n xs) ∧ Lst w' (some ⟨gy, 0, none⟩) ny cy (yOut p d x.n xs) ∧ Below q.heap.size q w'
  loss : exI p d x.n x.m = 0 → ∀ q, Below W.heap.size W q → Calls Try.prog 42 #[p.val, x.val] q fun e w' => e = .returned (.int .i64 (lOut p d x.n x.m xs ys)) ∧ Below q.heap.size q w'
  grad : exI p d x.n x.m = 0 → ∀ q, Below W.heap.size W q → Calls Try.prog 43 #[p.val, x.val] q fun e w' => ∃ P : Pup, e = .returned (.agg #[.int .i64 P.r1, .int .i64 P.c1, .slice P.a1 P.n1 P.k1, .int .i64 P.r2, .int .i64 P.c2, .slice P.a2 P.n2 P.k2, .slice P.d1 P.m1 P.e1, .slice P.d2 P.m2 P.e2]) ∧ GradP p d x.n x.m P ∧ (∀ wz b, b < q.heap.size → w'.grownBy wz (some b) → InPup wz P (gOut p d x.n x.m xs ys)) ∧ Below q.heap.size q w'

theorem ref_at {p : Pup} {d : PD} {x : Exm} {xs ys : List Int} {W : World} (hp : InPup W p d) (hx : InEx W x xs ys) (h0 : pchk p d = 0) : RefAt p d x xs ys W := by
  obtain ⟨I, H, O, a1, k1, a2, k2, d1, e1, d2, e2, rfl, i1, i2, j1, j2, o1, o2, hr⟩ := pchk_zero h0
  obtain ⟨xa, xn, xk, xb, xm, xt⟩ := x
  refine ⟨fun q hq => ?_, fun hf q hq => ?_, fun hg q hq => ?_, fun hg q hq => ?_⟩
  · refine (rfits_calls I H O a1 k1 a2 k2 d1 e1 d2 e2 xa xn xk xb xm xt q).mono ?_
    rintro e w' ⟨rfl, hb⟩
    refine ⟨ret_bool ?_, hb⟩
    have hiff : (xn = I ∧ xm = O) ↔ exI (rpup I H O a1 k1 a2 k2 d1 e1 d2 e2) d xn xm = 0 := by
      constructor
      · rintro ⟨rfl, rfl⟩
        unfold exI
        rw [if_pos h0, if_pos ⟨rfl, rfl⟩]
      · intro hz
        obtain ⟨_, h1, h2⟩ := exI_zero hz
        simp only [rpup] at h1 h2
        exact ⟨by omega, by omega⟩
    simp only [hiff]
  · obtain ⟨_, h1⟩ := fwI_zero hf
    simp only [rpup] at h1
    obtain rfl : I = xn := by omega
    refine (rforward_calls I H O a1 k1 a2 k2 d1 e1 d2 e2 d xa xk xs q (hp.below hq (Nat.le_refl _)) (hx.i.below hq (Nat.le_refl _)) i2 j1 j2 o1 o2).mono ?_
    rintro e w' ⟨ah, ch, ay, cy, ⟨gh, gy, rfl, rfl, bh, b'⟩, rfl, hh, hy, hb⟩
    unfold hOut yOut
    rw [if_pos hf, if_pos hf]
    exact ⟨gh, H, ch, gy, O, cy, rfl, j2, o2, bh, b', hh, hy, hb⟩
  · obtain ⟨_, h1, h2⟩ := exI_zero hg
    simp only [rpup] at h1 h2
    obtain rfl : I = xn := by omega
    obtain rfl : O = xm := by omega
    unfold lOut
    rw [if_pos hg]
    exact rloss_calls I H O a1 k1 a2 k2 d1 e1 d2 e2 d xa xk xs xb xt ys q (hp.below hq (Nat.le_refl _)) (hx.i.below hq (Nat.le_refl _)) (hx.o.below hq (Nat.le_refl _)) i2 j1 j2 o1 o2
  · have hg' := hg
    obtain ⟨_, h1, h2⟩ := exI_zero hg
    simp only [rpup] at h1 h2
    obtain rfl : I = xn := by omega
    obtain rfl : O = xm := by omega
    unfold gOut
    rw [if_pos hg]
    refine (rgrad_calls I H O a1 k1 a2 k2 d1 e1 d2 e2 d xa xk xs xb xt ys q (hp.below hq (Nat.le_refl _)) (hx.i.below hq (Nat.le_refl _)) (hx.o.below hq (Nat.le_refl _)) i1 i2 j1 j2 o1 o2).mono ?_
    rintro e w' ⟨x1, t1, x2, t2, y1, s1, y2, s2, ⟨g1, g2, g3, g4, rfl, rfl, rfl, rfl, b1, b2, b3, b4⟩, rfl, hin, hb⟩
    refine ⟨rpup I H O (some ⟨g1, 0, none⟩) t1 (some ⟨g2, 0, none⟩) t2 (some ⟨g3, 0, none⟩) s1 (some ⟨g4, 0, none⟩) s2, rfl, gradP_yes hg' _ _ _ _ _ _ _ _ i2 j2 o2, fun wz b hlt hgr => ⟨?_, ?_, ?_, ?_⟩, hb⟩
    · exact Lst.grown hin.x1 hgr (by omega)
    · exact Lst.grown hin.x2 hgr (by omega)
    · exact Lst.grown hin.b1 hgr (by omega)
    · exact Lst.grown hin.b2 hgr (by omega)

/-- What the law reckons where it makes the pupil's numbers out as wrong, or not. -/
theorem run_bad {p : Pup} {d : PD} {n m : Nat} {xs ys : List Int} (h : pchk p d ≠ 0) : fwI p d n = pchk p d ∧ exI p d n m = pchk p d ∧ hOut p d n xs = [] ∧ yOut p d n xs = [] ∧ lOut p d n m xs ys = 0 ∧ gOut p d n m xs ys = noD ∧ exI p d n m ≠ 0 := by
  have h1 : fwI p d n = pchk p d := by unfold fwI; rw [if_neg h]
  have h2 : exI p d n m = pchk p d := by unfold exI; rw [if_neg h]
  have h3 : fwI p d n ≠ 0 := by rw [h1]; exact h
  have h4 : exI p d n m ≠ 0 := by rw [h2]; exact h
  refine ⟨h1, h2, ?_, ?_, ?_, ?_, h4⟩
  · unfold hOut; rw [if_neg h3]
  · unfold yOut; rw [if_neg h3]
  · unfold lOut; rw [if_neg h4]
  · unfold gOut; rw [if_neg h4]
theorem run_fw {p : Pup} {d : PD} {n : Nat} (h : pchk p d = 0) (h1 : (n : Int) = p.c1) : fwI p d n = 0 := by unfold fwI; rw [if_pos h, if_pos h1]
theorem run_nofw {p : Pup} {d : PD} {n : Nat} (xs : List Int) (h : pchk p d = 0) (h1 : ¬ (n : Int) = p.c1) : fwI p d n = 5 ∧ hOut p d n xs = [] ∧ yOut p d n xs = [] := by
  have h2 : fwI p d n = 5 := by unfold fwI; rw [if_pos h, if_neg h1]
  refine ⟨h2, ?_, ?_⟩
  · unfold hOut; rw [if_neg (by rw [h2]; decide)]
  · unfold yOut; rw [if_neg (by rw [h2]; decide)]
theorem run_noex {p : Pup} {d : PD} {n m : Nat} (xs ys : List Int) (h : pchk p d = 0) (h1 : exI p d n m ≠ 0) : exI p d n m = 5 ∧ lOut p d n m xs ys = 0 ∧ gOut p d n m xs ys = noD := by
  refine ⟨?_, ?_, ?_⟩
  · unfold exI at *
    rw [if_pos h] at *
    by_cases h2 : (n : Int) = p.c1 ∧ (m : Int) = p.r2
    · rw [if_pos h2] at h1; exact absurd rfl h1
    · rw [if_neg h2]
  · unfold lOut; rw [if_neg h1]
  · unfold gOut; rw [if_neg h1]
end Go.Proofs.Ytmoeogecafjcmaa.Fx
