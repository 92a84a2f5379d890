/- What coachref's SameMatrix and SamePupil return of two that are the same. -/
import Derived.Test.YtmoeogecafjcmaaVecA
import Derived.Test.YtmoeogecafjcmaaPups
namespace Go.Proofs.Ytmoeogecafjcmaa.Fx
open Go.RowKit

theorem rsameM_calls (r c : Int) (a b : Option Addr) (la lb ca cb : Nat) (xs : List Int) (w : World) (ha : Lst w a la ca xs) (hb : Lst w b lb cb xs) (h63 : la ≤ 1000000000000000000) :
    Calls Try.prog 30 #[.agg #[.int .i64 r, .int .i64 c, .slice a la ca], .agg #[.int .i64 r, .int .i64 c, .slice b lb cb]] w fun e w' => e = .returned (.bool true) ∧ Below w.heap.size w w' := by
  have hal := (Below.refl w.heap.size w).alloc (Nat.le_refl _) (.cells #[.int .i64 r, .int .i64 c, .slice a la ca] 37)
  have hal2 := hal.alloc hal.size (.cells #[.int .i64 r, .int .i64 c, .slice b lb cb] 37)
  have ha' := ha.below hal2 (Nat.le_refl _)
  have hb' := hb.below hal2 (Nat.le_refl _)
  clear ha hb hal
  have e1 : (r == r) = true := by simp
  have e2 : (c == c) = true := by simp
  go_enter Try.func30, Try.ntmps30
  go_wp2_with (go_at_call 22; refine (eq_calls _ _ _ _ _ _ xs xs _ ha' hb' h63).mono ?_; rintro e w' ⟨rfl, nd, rfl⟩; rw [decide_eq_true rfl])
  go_ret
  exact ⟨rfl, below_drewN hal2 _⟩

theorem box8_fst {w wr : World} {B : Nat} {v0 v1 v2 v3 v4 v5 v6 v7 : Value} {t : TypeId} {o : Obj} (hb : Below B ((w.alloc (.cells #[v0, v1, v2, v3, v4, v5, v6, v7] t)).alloc o) wr) (hB : w.heap.size < B) :
    Box8 wr w.heap.size v0 v1 v2 v3 v4 v5 v6 v7 :=
  box8 (B := w.heap.size + 1) (((Below.refl _ _).alloc (by simp) o).trans (hb.mono hB)) (Nat.lt_succ_self _)
theorem box8_snd {w wr : World} {B : Nat} {v0 v1 v2 v3 v4 v5 v6 v7 : Value} {t : TypeId} {o : Obj} (hb : Below B ((w.alloc o).alloc (.cells #[v0, v1, v2, v3, v4, v5, v6, v7] t)) wr) (hB : w.heap.size + 1 < B) :
    Box8 wr (w.heap.size + 1) v0 v1 v2 v3 v4 v5 v6 v7 := by
  have h := box8 hb (by simpa using hB)
  simpa using h

set_option maxHeartbeats 800000 in
theorem rsameP_calls (p q : Pup) (d : PD) (w : World) (hp : InPup w p d) (hq : InPup w q d) (e1 : p.r1 = q.r1) (e2 : p.c1 = q.c1) (e3 : p.r2 = q.r2) (e4 : p.c2 = q.c2) (b1 : p.n1 ≤ 1000) (b2 : p.n2 ≤ 1000) (b3 : p.m1 ≤ 1000) (b4 : p.m2 ≤ 1000) :
    Calls Try.prog 39 #[p.val, q.val] w fun e w' => e = .returned (.bool true) ∧ Below w.heap.size w w' := by
  have hal := (Below.refl w.heap.size w).alloc (Nat.le_refl _) (.cells p.cells 47)
  have hal2 := hal.alloc hal.size (.cells q.cells 47)
  have hp := hp.below hal2 (Nat.le_refl _)
  have hq := hq.below hal2 (Nat.le_refl _)
  obtain ⟨r1, c1, a1, n1, k1, r2, c2, a2, n2, k2, d1, m1, t1, d2, m2, t2⟩ := p
  obtain ⟨r1', c1', a1', n1', k1', r2', c2', a2', n2', k2', d1', m1', t1', d2', m2', t2'⟩ := q
  obtain ⟨X1, X2, B1, B2⟩ := d
  dsimp only at e1 e2 e3 e4 b1 b2 b3 b4
  subst e1 e2 e3 e4
  simp only [Pup.val, Pup.cells] at *
  obtain ⟨px1, px2, pb1, pb2⟩ := hp
  obtain ⟨qx1, qx2, qb1, qb2⟩ := hq
  clear hal
  dsimp only at px1 px2 pb1 pb2 qx1 qx2 qb1 qb2
  go_enter Try.func39, Try.ntmps39
  go_wp2_with fail
  refine (rsameM_calls _ _ _ _ _ _ _ _ X1 _ px1 qx1 (by omega)).mono ?_
  rintro e w1 ⟨rfl, hw1⟩
  obtain ⟨f0, f1, f2, f3, f4, f5, f6, f7⟩ := box8_fst hw1 (by simp; omega)
  obtain ⟨g0, g1, g2, g3, g4, g5, g6, g7⟩ := box8_snd hw1 (by simp)
  go_wp2_with fail
  refine (rsameM_calls _ _ _ _ _ _ _ _ X2 _ (px2.below hw1 (Nat.le_refl _)) (qx2.below hw1 (Nat.le_refl _)) (by omega)).mono ?_
  rintro e w2 ⟨rfl, hw2⟩
  have T := hw1.trans (hw2.mono hw1.size)
  clear f0 f1 f2 f3 f4 f5 f6 f7 g0 g1 g2 g3 g4 g5 g6 g7 hw1 hw2
  obtain ⟨f0, f1, f2, f3, f4, f5, f6, f7⟩ := box8_fst T (by simp; omega)
  obtain ⟨g0, g1, g2, g3, g4, g5, g6, g7⟩ := box8_snd T (by simp)
  have pb1 := pb1.below T (Nat.le_refl _)
  have qb1 := qb1.below T (Nat.le_refl _)
  have pb2 := pb2.below T (Nat.le_refl _)
  have qb2 := qb2.below T (Nat.le_refl _)
  go_wp2_with fail
  refine (eq_calls _ _ _ _ _ _ B1 B1 _ pb1 qb1 (by omega)).mono ?_
  rintro e w3 ⟨rfl, k3, rfl⟩
  rw [decide_eq_true rfl]
  go_wp2_with fail
  refine (eq_calls _ _ _ _ _ _ B2 B2 _ (pb2.drewN _) (qb2.drewN _) (by omega)).mono ?_
  rintro e w4 ⟨rfl, k4, rfl⟩
  rw [decide_eq_true rfl]
  go_wp2
  go_ret
  exact ⟨rfl, below_drewN (hal2.trans (T.mono hal2.size)) _⟩
end Go.Proofs.Ytmoeogecafjcmaa.Fx
