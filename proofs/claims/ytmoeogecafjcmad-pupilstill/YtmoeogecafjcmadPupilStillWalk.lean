/- The walk of PupilStill: it returns true, whatever pupil and example lie there, and nothing that was there is written. -/
import Derived.Test.YtmoeogecafjcmadStillA
import Derived.Test.YtmoeogecafjcmadStillB
namespace Go.Proofs.Ytmoeogecafjcmad.Fx
open Go.RowKit

theorem ploss_sign (p : Pup) (d : PD) (x : Exm) (xs ys : List Int) (w : World) (hp : InPup w p d) (hx : InEx w x xs ys) :
    Calls Try.prog 22 #[p.val, x.val] w fun e w' => ∃ L E, e = .returned (.tuple #[.int .i64 L, .int .i64 E]) ∧ ((E == 0) = false ∨ ((E == 0) = true ∧ ¬ L < 0)) ∧ Below w.heap.size w w' := by
  by_cases h : exI p d x.n x.m = 0
  · obtain ⟨h0, h1, h2⟩ := exI_zero h
    obtain ⟨I, H, O, a1, k1, a2, k2, d1, e1, d2, e2, rfl, i1, i2, j1, j2, o1, o2, hr⟩ := pchk_zero h0
    obtain ⟨xa, xn, xk, xb, xm, xt⟩ := x
    simp only [rpup] at h1 h2
    obtain rfl : I = xn := by omega
    obtain rfl : O = xm := by omega
    refine (ploss_good I H O a1 k1 a2 k2 d1 e1 d2 e2 d xa xk xs xb xt ys w hp hx.i hx.o hr i1 i2 j1 j2 o1 o2).mono ?_
    rintro e w' ⟨rfl, hw⟩
    have := lossI_nonneg d xs ys I H O
    exact ⟨_, _, rfl, .inr ⟨rfl, by omega⟩, hw⟩
  · refine (ploss_bad p d x w hp h).mono ?_
    rintro e w' ⟨rfl, hw⟩
    exact ⟨_, _, rfl, .inl (by simpa using h), hw⟩

/-- What is known of a pupil and a list that fits it: what comes out, and that this has no loss, and nothing to learn. -/
structure StillAt (p : Pup) (xa : Option Addr) (xn xk : Nat) (W : World) : Prop where
  all : ∃ (H O I : Nat) (d : PD) (xs : List Int), H ≤ 4 ∧ O ≤ 4 ∧ 1 ≤ I ∧ I ≤ 4 ∧ 1 ≤ H ∧ 1 ≤ O ∧
    (∀ q, Below W.heap.size W q → Calls Try.prog 25 #[p.val, .slice xa xn xk] q fun e w' => ∃ ah ay, e = .returned (.tuple #[.slice ah H H, .slice ay O O, .int .i64 0]) ∧ Lst w' ah H H (hidL d xs I H) ∧ Lst w' ay O O (outYL d xs I H O) ∧ Below q.heap.size q w') ∧
    (∀ q ay, Below W.heap.size W q → Lst q ay O O (outYL d xs I H O) → Calls Try.prog 22 #[p.val, .agg #[.slice xa xn xk, .slice ay O O]] q fun e w' => e = .returned (.tuple #[.int .i64 0, .int .i64 0]) ∧ Below q.heap.size q w') ∧
    (∀ q ay, Below W.heap.size W q → Lst q ay O O (outYL d xs I H O) → Calls Try.prog 24 #[p.val, .agg #[.slice xa xn xk, .slice ay O O]] q fun e w' => ∃ x1 x2 y1 y2, e = .returned (.tuple #[(rpup I H O x1 (H * I) x2 (O * H) y1 H y2 O).val, .int .i64 0]) ∧ InPup w' (rpup I H O x1 (H * I) x2 (O * H) y1 H y2 O) (graD d xs (outYL d xs I H O) I H O) ∧ Below q.heap.size q w')

theorem still_at {p : Pup} {d : PD} {x : Exm} {xs ys : List Int} {W : World} (hp : InPup W p d) (hx : InEx W x xs ys) (h : fwI p d x.n = 0) : StillAt p x.a x.n x.k W := by
  obtain ⟨h0, h1⟩ := fwI_zero h
  obtain ⟨I, H, O, a1, k1, a2, k2, d1, e1, d2, e2, rfl, i1, i2, j1, j2, o1, o2, hr⟩ := pchk_zero h0
  obtain ⟨xa, xn, xk, xb, xm, xt⟩ := x
  simp only [rpup] at h1
  obtain rfl : I = xn := by omega
  refine ⟨H, O, I, d, xs, j2, o2, i1, i2, j1, o1, fun q hq => ?_, fun q ay hq hl => ?_, fun q ay hq hl => ?_⟩
  · exact pforward_good I H O a1 k1 a2 k2 d1 e1 d2 e2 d xa xk xs q (hp.below hq (Nat.le_refl _)) (hx.i.below hq (Nat.le_refl _)) hr i1 i2 j1 j2 o1 o2
  · have hc := ploss_good I H O a1 k1 a2 k2 d1 e1 d2 e2 d xa xk xs ay O _ q (hp.below hq (Nat.le_refl _)) (hx.i.below hq (Nat.le_refl _)) hl hr i1 i2 j1 j2 o1 o2
    rw [lossI_still] at hc
    exact hc
  · exact pgrad_good I H O a1 k1 a2 k2 d1 e1 d2 e2 d xa xk xs ay O _ q (hp.below hq (Nat.le_refl _)) (hx.i.below hq (Nat.le_refl _)) hl hr i1 i2 j1 j2 o1 o2

def pchk_still (D : PD) (X : List Int) (I H O : Nat) : Prop := ∀ (a1 : Option Addr) (k1 : Nat) (a2 : Option Addr) (k2 : Nat) (d1 : Option Addr) (e1 : Nat) (d2 : Option Addr) (e2 : Nat), pchk (rpup I H O a1 k1 a2 k2 d1 e1 d2 e2) (graD D X (outYL D X I H O) I H O) = 0

set_option maxRecDepth 100000 in
set_option maxHeartbeats 3200000 in
theorem pupilStill_any (p : Pup) (d : PD) (x : Exm) (xs ys : List Int) (w : World) (hp : InPup w p d) (hx : InEx w x xs ys) :
    Calls Try.prog 7 #[p.val, x.val] w fun e w' => e = .returned (.bool true) ∧ Below w.heap.size w w' := by
  have hal0 := low_alloc w (.cells p.cells 39)
  have hal := hal0.alloc hal0.size (.cells #[.slice x.a x.n x.k, .slice x.b x.m x.t] 47)
  obtain ⟨W, hW⟩ : ∃ W, W = (w.alloc (.cells p.cells 39)).alloc (.cells #[.slice x.a x.n x.k, .slice x.b x.m x.t] 47) := ⟨_, rfl⟩
  have hWs : W.heap.size = w.heap.size + 1 + 1 := by rw [hW]; simp
  rw [← hW] at hal
  have hpW := hp.below hal (Nat.le_refl _)
  have hxW := hx.below hal (Nat.le_refl _)
  have KW : Hid (∀ q, Below W.heap.size W q → Below w.heap.size w q) := fun q hq => hal.trans (hq.mono hal.size)
  have HLS : Hid (∀ q, Below W.heap.size W q → Calls Try.prog 22 #[p.val, x.val] q fun e w' => ∃ L E, e = .returned (.tuple #[.int .i64 L, .int .i64 E]) ∧ ((E == 0) = false ∨ ((E == 0) = true ∧ ¬ L < 0)) ∧ Below q.heap.size q w') :=
    fun q hq => ploss_sign p d x xs ys q (hpW.below hq (Nat.le_refl _)) (hxW.below hq (Nat.le_refl _))
  have HFW : Hid ((∃ E, (E != 0) = true ∧ ∀ q, Below W.heap.size W q → Calls Try.prog 25 #[p.val, .slice x.a x.n x.k] q fun e w' => e = .returned (.tuple #[.slice none 0 0, .slice none 0 0, .int .i64 E]) ∧ Below q.heap.size q w') ∨ StillAt p x.a x.n x.k W) := by
    by_cases h : fwI p d x.n = 0
    · exact .inr (still_at hpW hxW h)
    · exact .inl ⟨fwI p d x.n, by simpa using h, fun q hq => pforward_bad p d x.a x.n x.k q (hpW.below hq (Nat.le_refl _)) h⟩
  clear hp hx hpW hxW hal hal0
  obtain ⟨r1, c1, a1, n1, k1, r2, c2, a2, n2, k2, d1, m1, t1, d2, m2, t2⟩ := p
  obtain ⟨xa, xn, xk, xb, xm, xt⟩ := x
  have KA : Hid (∀ q, Below W.heap.size W q → Box8 q w.heap.size (.int .i64 r1) (.int .i64 c1) (.slice a1 n1 k1) (.int .i64 r2) (.int .i64 c2) (.slice a2 n2 k2) (.slice d1 m1 t1) (.slice d2 m2 t2)) := by
    intro q hq
    rw [hW] at hq
    exact boxA hq (by simp; omega)
  have KE : Hid (∀ q, Below W.heap.size W q → q.cell? ⟨w.heap.size + 1, 0, none⟩ = some (.slice xa xn xk) ∧ q.cell? ⟨w.heap.size + 1, 1, none⟩ = some (.slice xb xm xt)) := by
    intro q hq
    rw [hW] at hq
    exact boxE hq (by simp)
  simp only [Pup.val, Pup.cells, Exm.val] at hW HLS
  have HW : Hid (W = (w.alloc (.cells #[.int .i64 r1, .int .i64 c1, .slice a1 n1 k1, .int .i64 r2, .int .i64 c2, .slice a2 n2 k2, .slice d1 m1 t1, .slice d2 m2 t2] 39)).alloc (.cells #[.slice xa xn xk, .slice xb xm xt] 47)) := hW
  clear hW
  have hs1 := one_calls W
  rw [show Pup.val ⟨r1, c1, a1, n1, k1, r2, c2, a2, n2, k2, d1, m1, t1, d2, m2, t2⟩ = .agg #[.int .i64 r1, .int .i64 c1, .slice a1 n1 k1, .int .i64 r2, .int .i64 c2, .slice a2 n2 k2, .slice d1 m1 t1, .slice d2 m2 t2] from rfl, show Exm.val ⟨xa, xn, xk, xb, xm, xt⟩ = .agg #[.slice xa xn xk, .slice xb xm xt] from rfl]
  go_enter Try.func7, Try.ntmps7
  go_wp2_with fail
  rw [← HW.out]
  refine hs1.mono ?_
  rintro e q1 ⟨z1, z2, z3, rfl, hin, T1⟩
  rw [show (rpup 1 1 1 z1 1 z1 1 z2 1 z3 1).val = .agg #[.int .i64 1, .int .i64 1, .slice z1 1 1, .int .i64 1, .int .i64 1, .slice z1 1 1, .slice z2 1 1, .slice z3 1 1] from rfl]
  have l1 := (one_lst q1 65536 3).below (low_alloc _ (.cells #[.int .i64 196608] 3)) (Nat.le_refl _)
  have l2 := one_lst (q1.alloc (.cells #[.int .i64 65536] 3)) 196608 3
  have hb := (low_alloc q1 (.cells #[.int .i64 65536] 3)).alloc (by simp) (.cells #[.int .i64 196608] 3)
  have hin2 := hin.below hb (Nat.le_refl _)
  have T2 := T1.trans (hb.mono T1.size)
  simp only [World.size_alloc] at l2
  have hc := ploss_good 1 1 1 z1 1 z1 1 z2 1 z3 1 oneD _ 1 [65536] _ 1 [196608] _ hin2 l1 l2 (by unfold RightD oneD; decide) (by omega) (by omega) (by omega) (by omega) (by omega) (by omega)
  rw [show lossI oneD [65536] [196608] 1 1 1 = 262144 from one_loss] at hc
  clear hs1 T1 hin hin2 hb l1 l2
  go_wp2_with fail
  refine hc.mono ?_
  rintro e q3 ⟨rfl, hq3⟩
  have T3 := T2.trans (hq3.mono T2.size)
  clear hc hq3 T2
  have hs1 := one_calls q3
  go_wp2_with fail
  refine hs1.mono ?_
  rintro e q4 ⟨z1', z2', z3', rfl, hin, hq4⟩
  rw [show (rpup 1 1 1 z1' 1 z1' 1 z2' 1 z3' 1).val = .agg #[.int .i64 1, .int .i64 1, .slice z1' 1 1, .int .i64 1, .int .i64 1, .slice z1' 1 1, .slice z2' 1 1, .slice z3' 1 1] from rfl]
  have T4 := T3.trans (hq4.mono T3.size)
  have l1 := (one_lst q4 65536 3).below (low_alloc _ (.cells #[.int .i64 196608] 3)) (Nat.le_refl _)
  have l2 := one_lst (q4.alloc (.cells #[.int .i64 65536] 3)) 196608 3
  have hb := (low_alloc q4 (.cells #[.int .i64 65536] 3)).alloc (by simp) (.cells #[.int .i64 196608] 3)
  have hin2 := hin.below hb (Nat.le_refl _)
  have T5 := T4.trans (hb.mono T4.size)
  simp only [World.size_alloc] at l2
  have hc := pgrad_good 1 1 1 z1' 1 z1' 1 z2' 1 z3' 1 oneD _ 1 [65536] _ 1 [196608] _ hin2 l1 l2 (by unfold RightD oneD; decide) (by omega) (by omega) (by omega) (by omega) (by omega) (by omega)
  clear hs1 T3 T4 hin hin2 hb l1 l2 hq4
  go_wp2_with fail
  refine hc.mono ?_
  rintro e q6 ⟨v1, v2, y1, y2, rfl, hin6, hq6⟩
  rw [show (rpup 1 1 1 v1 (1 * 1) v2 (1 * 1) y1 1 y2 1).val = .agg #[.int .i64 1, .int .i64 1, .slice v1 1 1, .int .i64 1, .int .i64 1, .slice v2 1 1, .slice y1 1 1, .slice y2 1 1] from rfl]
  have T6 := T5.trans (hq6.mono T5.size)
  have hal6 := low_alloc q6 (.cells #[.int .i64 1, .int .i64 1, .slice v1 1 1, .int .i64 1, .int .i64 1, .slice v2 1 1, .slice y1 1 1, .slice y2 1 1] 39)
  have T7 := T6.trans (hal6.mono T6.size)
  have hB1 : Lst q6 y1 1 1 [-131072] := by have h := hin6.b1; rw [show (graD oneD [65536] [196608] 1 1 1).B1 = [-131072] from one_grad.1] at h; exact h
  have hB2 : Lst q6 y2 1 1 [-131072] := by have h := hin6.b2; rw [show (graD oneD [65536] [196608] 1 1 1).B2 = [-131072] from one_grad.2] at h; exact h
  have hB1 := hB1.below hal6 (Nat.le_refl _)
  have hB2 := hB2.below hal6 (Nat.le_refl _)
  obtain ⟨g1, o1, rfl, _, w1⟩ := hB1.at (by omega)
  obtain ⟨g2, o2, rfl, _, w2⟩ := hB2.at (by omega)
  have w1 : (q6.alloc (.cells #[.int .i64 1, .int .i64 1, .slice v1 1 1, .int .i64 1, .int .i64 1, .slice v2 1 1, .slice (some ⟨g1, o1, none⟩) 1 1, .slice (some ⟨g2, o2, none⟩) 1 1] 39)).cell? ⟨g1, o1, none⟩ = some (.int .i64 (-131072)) := w1 0 (by omega)
  have w2 : (q6.alloc (.cells #[.int .i64 1, .int .i64 1, .slice v1 1 1, .int .i64 1, .int .i64 1, .slice v2 1 1, .slice (some ⟨g1, o1, none⟩) 1 1, .slice (some ⟨g2, o2, none⟩) 1 1] 39)).cell? ⟨g2, o2, none⟩ = some (.int .i64 (-131072)) := w2 0 (by omega)
  clear hc hin6 hq6 hal6 hB1 hB2 T5 T6
  obtain ⟨f0, f1, f2, f3, f4, f5, f6, f7⟩ := KA.out _ T7
  obtain ⟨u0, u1⟩ := KE.out _ T7
  have hc := HLS.out _ T7
  go_wp2_with fail
  refine hc.mono ?_
  rintro e q8 ⟨L, E, rfl, hsg, hq8⟩
  have T8 := T7.trans (hq8.mono T7.size)
  clear hc hq8 T7 f0 f1 f2 f3 f4 f5 f6 f7 u0 u1 w1 w2 HLS
  obtain ⟨f0, f1, f2, f3, f4, f5, f6, f7⟩ := KA.out _ T8
  obtain ⟨u0, u1⟩ := KE.out _ T8
  rcases HFW.out with ⟨F, hF, hfb⟩ | ⟨H, O, I, D, X, j2, o2, i1, i2, j1, o1', hfw, hls, hgr⟩
  · have hc := hfb _ T8
    clear hfb HFW
    rcases hsg with hE | ⟨hE, hL⟩
    all_goals
      go_wp2_with fail
      refine hc.mono ?_
      rintro e q9 ⟨rfl, hq9⟩
      go_wp2
      go_ret
      exact ⟨rfl, KW.out _ (T8.trans (hq9.mono T8.size))⟩
  · have hc := hfw _ T8
    have HL : Hid (∀ q ay, Below W.heap.size W q → Lst q ay O O (outYL D X I H O) → Calls Try.prog 22 #[Pup.val ⟨r1, c1, a1, n1, k1, r2, c2, a2, n2, k2, d1, m1, t1, d2, m2, t2⟩, .agg #[.slice xa xn xk, .slice ay O O]] q fun e w' => e = .returned (.tuple #[.int .i64 0, .int .i64 0]) ∧ Below q.heap.size q w') := hls
    have HG : Hid (∀ q ay, Below W.heap.size W q → Lst q ay O O (outYL D X I H O) → Calls Try.prog 24 #[Pup.val ⟨r1, c1, a1, n1, k1, r2, c2, a2, n2, k2, d1, m1, t1, d2, m2, t2⟩, .agg #[.slice xa xn xk, .slice ay O O]] q fun e w' => ∃ x1 x2 y1 y2, e = .returned (.tuple #[(rpup I H O x1 (H * I) x2 (O * H) y1 H y2 O).val, .int .i64 0]) ∧ InPup w' (rpup I H O x1 (H * I) x2 (O * H) y1 H y2 O) (graD D X (outYL D X I H O) I H O) ∧ Below q.heap.size q w') := hgr
    have hz := graD_still D X I H O
    have HZ : Hid (pchk_still D X I H O) := fun a1 k1 a2 k2 d1 e1 d2 e2 => pchk_right i1 i2 j1 j2 o1' o2 hz.2
    have HF0 : Hid (∀ j, (flatD (graD D X (outYL D X I H O) I H O)).getD j 0 = 0) := hz.1
    have HN : Hid (∀ j, j < H → 0 ≤ (hidL D X I H).getD j 0) := fun j hj => hidL_nonneg D X I H j hj
    clear hfw hls hgr HFW hz
    rcases hsg with hE | ⟨hE, hL⟩
    all_goals
      go_wp2_with fail
      refine hc.mono ?_
      rintro e q9 ⟨ah, ay, rfl, hh, hy, hq9⟩
      have T9 := T8.trans (hq9.mono T8.size)
      have hal9 := low_alloc q9 (.cells #[.slice xa xn xk, .slice ay O O] 47)
      have T10 := T9.trans (hal9.mono T9.size)
      have hh10 := hh.below hal9 (Nat.le_refl _)
      have hy10 := hy.below hal9 (Nat.le_refl _)
      clear hc hq9 T8 hh hy f0 f1 f2 f3 f4 f5 f6 f7 u0 u1
      obtain ⟨f0, f1, f2, f3, f4, f5, f6, f7⟩ := KA.out _ T10
      obtain ⟨u0', u1'⟩ := KE.out _ T9
      have hc := HL.out _ ay T10 hy10
      go_wp2_with fail
      refine hc.mono ?_
      rintro e q11 ⟨rfl, hq11⟩
      have T11 := T10.trans (hq11.mono T10.size)
      have hh11 := hh10.below hq11 (Nat.le_refl _)
      have hy11 := hy10.below hq11 (Nat.le_refl _)
      obtain ⟨b0, b1⟩ := box2 hq11 (by simp)
      clear hc hq11 T10 hh10 hy10 f0 f1 f2 f3 f4 f5 f6 f7 u0' u1' hal9
      obtain ⟨f0, f1, f2, f3, f4, f5, f6, f7⟩ := KA.out _ T11
      have hc := HG.out _ ay T11 hy11
      go_wp2_with fail
      refine hc.mono ?_
      rintro e q12 ⟨v3, v4, v5, v6, rfl, hin12, hq12⟩
      rw [show (rpup I H O v3 (H * I) v4 (O * H) v5 H v6 O).val = .agg #[.int .i64 H, .int .i64 I, .slice v3 (H * I) (H * I), .int .i64 O, .int .i64 H, .slice v4 (O * H) (O * H), .slice v5 H H, .slice v6 O O] from rfl]
      have T12 := T11.trans (hq12.mono T11.size)
      have hal12 := low_alloc q12 (.cells #[.int .i64 H, .int .i64 I, .slice v3 (H * I) (H * I), .int .i64 O, .int .i64 H, .slice v4 (O * H) (O * H), .slice v5 H H, .slice v6 O O] 39)
      have T13 := T12.trans (hal12.mono T12.size)
      have hin13 := hin12.below hal12 (Nat.le_refl _)
      have hh13 := (hh11.below hq12 (Nat.le_refl _)).below hal12 (Nat.le_refl _)
      have hc2 := pflat_calls (rpup I H O v3 (H * I) v4 (O * H) v5 H v6 O) _ _ hin13
      unfold flatL at hc2
      rw [if_pos (HZ.out _ _ _ _ _ _ _ _), HZ.out] at hc2
      clear hc hq12 T11 hh11 hy11 b0 b1 f0 f1 f2 f3 f4 f5 f6 f7 hin12 hin13 hal12 T12
      go_wp2_with fail
      refine hc2.mono ?_
      rintro e q14 ⟨fa, fn, fc, rfl, hfn, hl, hq14⟩
      have T14 := T13.trans (hq14.mono T13.size)
      have hh14 := hh13.below hq14 (Nat.le_refl _)
      have hc3 := has1_calls fa fn fc _ q14 hl (by omega) (fun j _ => HF0.out j)
      have hc4 := has2_calls ah H H _ q14 hh14 (by omega) HN.out
      clear hc2 hq14 T13 hh13 hl hh14
      go_wp2_with fail
      refine hc3.mono ?_
      rintro e w' ⟨rfl, hw'⟩
      replace hw' := hw'.symm
      subst hw'
      go_wp2_with fail
      refine hc4.mono ?_
      rintro e w' ⟨rfl, hw'⟩
      replace hw' := hw'.symm
      subst hw'
      go_wp2
      go_ret
      exact ⟨rfl, KW.out _ T14⟩
end Go.Proofs.Ytmoeogecafjcmad.Fx
