/- What pupil.Forward, Loss and Grad tell, whatever pupil and example lie there, as plain functions. -/
import Derived.Test.YtmoeogecafjcmaaPupH
namespace Go.Proofs.Ytmoeogecafjcmaa.Fx
open Go.RowKit

def hOut (p : Pup) (d : PD) (n : Nat) (xs : List Int) : List Int := if fwI p d n = 0 then hidL d xs p.c1.toNat p.r1.toNat else []
def yOut (p : Pup) (d : PD) (n : Nat) (xs : List Int) : List Int := if fwI p d n = 0 then outYL d xs p.c1.toNat p.r1.toNat p.r2.toNat else []
def lOut (p : Pup) (d : PD) (n m : Nat) (xs ys : List Int) : Int := if exI p d n m = 0 then lossI d xs ys p.c1.toNat p.r1.toNat p.r2.toNat else 0
def noD : PD := ⟨[], [], [], []⟩
def gOut (p : Pup) (d : PD) (n m : Nat) (xs ys : List Int) : PD := if exI p d n m = 0 then graD d xs ys p.c1.toNat p.r1.toNat p.r2.toNat else noD
theorem noPup_any (w : World) : InPup w noPup noD := ⟨Lst.nil _ _ _, Lst.nil _ _ _, Lst.nil _ _ _, Lst.nil _ _ _⟩
/-- A pupil that is told as what is to be learnt: of the same shape, or none. -/
structure GradP (p : Pup) (d : PD) (n m : Nat) (P : Pup) : Prop where
  e1 : P.r1 = if exI p d n m = 0 then p.r1 else 0
  e2 : P.c1 = if exI p d n m = 0 then p.c1 else 0
  e3 : P.r2 = if exI p d n m = 0 then p.r2 else 0
  e4 : P.c2 = if exI p d n m = 0 then p.c2 else 0
  b1 : P.n1 ≤ 1000
  b2 : P.n2 ≤ 1000
  b3 : P.m1 ≤ 1000
  b4 : P.m2 ≤ 1000
theorem gradP_no {p : Pup} {d : PD} {n m : Nat} (h : exI p d n m ≠ 0) : GradP p d n m noPup := by
  refine ⟨?_, ?_, ?_, ?_, Nat.zero_le _, Nat.zero_le _, Nat.zero_le _, Nat.zero_le _⟩ <;> rw [if_neg h] <;> rfl
theorem gradP_yes {I H O : Nat} {a1 : Option Addr} {k1 : Nat} {a2 : Option Addr} {k2 : Nat} {d1 : Option Addr} {e1 : Nat} {d2 : Option Addr} {e2 : Nat} {d : PD} {n m : Nat} (h : exI (rpup I H O a1 k1 a2 k2 d1 e1 d2 e2) d n m = 0) (x1 : Option Addr) (t1 : Nat) (x2 : Option Addr) (t2 : Nat) (y1 : Option Addr) (s1 : Nat) (y2 : Option Addr) (s2 : Nat) (i2 : I ≤ 4) (j2 : H ≤ 4) (o2 : O ≤ 4) :
    GradP (rpup I H O a1 k1 a2 k2 d1 e1 d2 e2) d n m (rpup I H O x1 t1 x2 t2 y1 s1 y2 s2) := by
  have b1 := prod_sideN j2 i2
  have b2 := prod_sideN o2 j2
  refine ⟨by rw [if_pos h]; rfl, by rw [if_pos h]; rfl, by rw [if_pos h]; rfl, by rw [if_pos h]; rfl, ?_, ?_, ?_, ?_⟩
  · show H * I ≤ 1000; omega
  · show O * H ≤ 1000; omega
  · show H ≤ 1000; omega
  · show O ≤ 1000; omega

theorem uF_calls (p : Pup) (d : PD) (x : Exm) (xs ys : List Int) (w : World) (hp : InPup w p d) (hx : InEx w x xs ys) :
    Calls Try.prog 44 #[p.val, .slice x.a x.n x.k] w fun e w' => ∃ ah nh ay ny, e = .returned (.tuple #[.slice ah nh nh, .slice ay ny ny, .int .i64 (fwI p d x.n)]) ∧ nh ≤ 4 ∧ ny ≤ 4 ∧ Lst w' ah nh nh (hOut p d x.n xs) ∧ Lst w' ay ny ny (yOut p d x.n xs) ∧ Below w.heap.size w w' := by
  unfold hOut yOut
  by_cases h : fwI p d x.n = 0
  · rw [if_pos h, if_pos h, h]
    obtain ⟨h0, h1⟩ := fwI_zero h
    obtain ⟨I, H, O, a1, k1, a2, k2, d1, e1, d2, e2, rfl, i1, i2, j1, j2, o1, o2, hr⟩ := pchk_zero h0
    obtain ⟨xa, xn, xk, xb, xm, xt⟩ := x
    simp only [rpup] at h1
    obtain rfl : I = xn := by omega
    refine (pforward_good I H O a1 k1 a2 k2 d1 e1 d2 e2 d xa xk xs w hp hx.i hr i1 i2 j1 j2 o1 o2).mono ?_
    rintro e w' ⟨ah, ay, rfl, hh, hy, hb⟩
    exact ⟨ah, H, ay, O, rfl, j2, o2, hh, hy, hb⟩
  · rw [if_neg h, if_neg h]
    refine (pforward_bad p d x.a x.n x.k w hp h).mono ?_
    rintro e w' ⟨rfl, hb⟩
    exact ⟨none, 0, none, 0, rfl, Nat.zero_le _, Nat.zero_le _, Lst.nil _ _ _, Lst.nil _ _ _, hb⟩

theorem uL_calls (p : Pup) (d : PD) (x : Exm) (xs ys : List Int) (w : World) (hp : InPup w p d) (hx : InEx w x xs ys) :
    Calls Try.prog 45 #[p.val, x.val] w fun e w' => e = .returned (.tuple #[.int .i64 (lOut p d x.n x.m xs ys), .int .i64 (exI p d x.n x.m)]) ∧ Below w.heap.size w w' := by
  unfold lOut
  by_cases h : exI p d x.n x.m = 0
  · rw [if_pos h, h]
    obtain ⟨h0, h1, h2⟩ := exI_zero h
    obtain ⟨I, H, O, a1, k1, a2, k2, d1, e1, d2, e2, rfl, i1, i2, j1, j2, o1, o2, hr⟩ := pchk_zero h0
    obtain ⟨xa, xn, xk, xb, xm, xt⟩ := x
    simp only [rpup] at h1 h2
    obtain rfl : I = xn := by omega
    obtain rfl : O = xm := by omega
    exact ploss_good I H O a1 k1 a2 k2 d1 e1 d2 e2 d xa xk xs xb xt ys w hp hx.i hx.o hr i1 i2 j1 j2 o1 o2
  · rw [if_neg h]
    exact ploss_bad p d x w hp h

theorem uG_calls (p : Pup) (d : PD) (x : Exm) (xs ys : List Int) (w : World) (hp : InPup w p d) (hx : InEx w x xs ys) :
    Calls Try.prog 46 #[p.val, x.val] w fun e w' => ∃ P : Pup, e = .returned (.tuple #[P.val, .int .i64 (exI p d x.n x.m)]) ∧ GradP p d x.n x.m P ∧ InPup w' P (gOut p d x.n x.m xs ys) ∧ Below w.heap.size w w' := by
  unfold gOut
  by_cases h : exI p d x.n x.m = 0
  · have h' := h
    rw [if_pos h]
    obtain ⟨h0, h1, h2⟩ := exI_zero h
    obtain ⟨I, H, O, a1, k1, a2, k2, d1, e1, d2, e2, rfl, i1, i2, j1, j2, o1, o2, hr⟩ := pchk_zero h0
    obtain ⟨xa, xn, xk, xb, xm, xt⟩ := x
    simp only [rpup] at h1 h2
    obtain rfl : I = xn := by omega
    obtain rfl : O = xm := by omega
    refine (pgrad_good I H O a1 k1 a2 k2 d1 e1 d2 e2 d xa xk xs xb xt ys w hp hx.i hx.o hr i1 i2 j1 j2 o1 o2).mono ?_
    rintro e w' ⟨x1, x2, y1, y2, rfl, hin, hb⟩
    exact ⟨_, by rw [h'], gradP_yes h' _ _ _ _ _ _ _ _ i2 j2 o2, hin, hb⟩
  · rw [if_neg h]
    refine (pgrad_bad p d x w hp h).mono ?_
    rintro e w' ⟨rfl, hb⟩
    exact ⟨noPup, rfl, gradP_no h, noPup_any _, hb⟩
end Go.Proofs.Ytmoeogecafjcmaa.Fx
