/- The walk of PupilBack: it returns true, whatever pupil lies there, and nothing that was there is written. -/
import Derived.Test.YtmoeogecafjcmadPupC
import Derived.Test.YtmoeogecafjcmadPupD
import Derived.Test.YtmoeogecafjcmadRefSame
namespace Go.Proofs.Ytmoeogecafjcmad.Fx
open Go.RowKit

theorem four_lst (w : World) (x0 x1 x2 x3 : Int) (t : TypeId) : Lst (w.alloc (.cells #[.int .i64 x0, .int .i64 x1, .int .i64 x2, .int .i64 x3] t)) (some ⟨w.heap.size, 0, none⟩) 4 4 [x0, x1, x2, x3] := by
  refine Lst.row (World.rowIs_alloc w #[.int .i64 x0, .int .i64 x1, .int .i64 x2, .int .i64 x3] t (fun i => .int .i64 (four x0 x1 x2 x3 i)) ?_) rfl ?_
  · intro i hi
    rcases lt_four hi with rfl | rfl | rfl | rfl <;> rfl
  · intro i hi
    rcases lt_four hi with rfl | rfl | rfl | rfl <;> rfl

theorem rightB_append (xs ys : List Int) : rightB (xs ++ ys) = (rightB xs && rightB ys) := by unfold rightB; rw [List.all_append]
theorem rightB_flat {d : PD} (h : RightD d) : rightB (flatD d) = true := by
  unfold flatD
  rw [rightB_append, rightB_append, rightB_append, h.1, h.2.1, h.2.2.1, h.2.2.2]; rfl

set_option maxRecDepth 100000 in
set_option maxHeartbeats 3200000 in
theorem pupilBack_any (p : Pup) (d : PD) (w : World) (h : InPup w p d) :
    Calls Try.prog 6 #[p.val] w fun e w' => e = .returned (.bool true) ∧ Below w.heap.size w w' := by
  have hal := (Below.refl w.heap.size w).alloc (Nat.le_refl _) (.cells p.cells 39)
  have KP : Hid (∀ q, Below (w.heap.size + 1) (w.alloc (.cells p.cells 39)) q → InPup q p d) := fun q hq => h.below (hal.trans (hq.mono (by omega))) (Nat.le_refl _)
  have KW : Hid (∀ q, Below (w.heap.size + 1) (w.alloc (.cells p.cells 39)) q → Below w.heap.size w q) := fun q hq => hal.trans (hq.mono (by omega))
  have l1 := four_lst (w.alloc (.cells p.cells 39)) 1 2 3 4 3
  have T0 : Below (w.heap.size + 1) (w.alloc (.cells p.cells 39)) ((w.alloc (.cells p.cells 39)).alloc (.cells #[.int .i64 1, .int .i64 2, .int .i64 3, .int .i64 4] 3)) := (Below.refl _ _).alloc (by simp) _
  clear hal h
  obtain ⟨r1, c1, a1, n1, k1, r2, c2, a2, n2, k2, d1, m1, t1, d2, m2, t2⟩ := p
  have KC : Hid (∀ q, Below (w.heap.size + 1) (w.alloc (.cells (Pup.cells ⟨r1, c1, a1, n1, k1, r2, c2, a2, n2, k2, d1, m1, t1, d2, m2, t2⟩) 39)) q → Box8 q w.heap.size (.int .i64 r1) (.int .i64 c1) (.slice a1 n1 k1) (.int .i64 r2) (.int .i64 c2) (.slice a2 n2 k2) (.slice d1 m1 t1) (.slice d2 m2 t2)) := fun q hq => box8 hq (Nat.lt_succ_self _)
  have hpv : Pup.val ⟨r1, c1, a1, n1, k1, r2, c2, a2, n2, k2, d1, m1, t1, d2, m2, t2⟩ = .agg #[.int .i64 r1, .int .i64 c1, .slice a1 n1 k1, .int .i64 r2, .int .i64 c2, .slice a2 n2 k2, .slice d1 m1 t1, .slice d2 m2 t2] := rfl
  rw [hpv]
  simp only [Pup.cells] at *
  clear hpv
  simp at l1
  go_enter Try.func6, Try.ntmps6
  go_wp2_with fail
  refine (shape_good 1 1 1 _ _ _ [1, 2, 3, 4] _ l1 (by omega) (by omega) (by omega) (by omega) (by omega) (by omega) (by omega) (by decide)).mono ?_
  rintro e p1 ⟨x1, x2, y1, y2, rfl, hx, hp1⟩
  have T1 := T0.trans (hp1.mono (by simp))
  clear T0 hp1 l1
  rw [show (rpup 1 1 1 x1 (1 * 1) x2 (1 * 1) y1 1 y2 1).val = .agg #[.int .i64 1, .int .i64 1, .slice x1 1 1, .int .i64 1, .int .i64 1, .slice x2 1 1, .slice y1 1 1, .slice y2 1 1] from rfl]
  have hal1 := (Below.refl p1.heap.size p1).alloc (Nat.le_refl _) (.cells #[.int .i64 1, .int .i64 1, .slice x1 1 1, .int .i64 1, .int .i64 1, .slice x2 1 1, .slice y1 1 1, .slice y2 1 1] 39)
  have hB1 : Lst p1 y1 1 1 [2] := hx.b1
  have hX2 : Lst p1 x2 1 1 [3] := hx.x2
  have hB1 := hB1.below hal1 (Nat.le_refl _)
  have hX2 := hX2.below hal1 (Nat.le_refl _)
  have T2 := T1.trans (hal1.mono (by have := T1.size; simpa using this))
  obtain ⟨g1, o1, rfl, _, q1⟩ := hB1.at (by omega)
  obtain ⟨g2, o2, rfl, _, q2⟩ := hX2.at (by omega)
  have q1 : (p1.alloc (.cells #[.int .i64 1, .int .i64 1, .slice x1 1 1, .int .i64 1, .int .i64 1, .slice (some ⟨g2, o2, none⟩) 1 1, .slice (some ⟨g1, o1, none⟩) 1 1, .slice y2 1 1] 39)).cell? ⟨g1, o1, none⟩ = some (.int .i64 2) := q1 0 (by omega)
  have q2 : (p1.alloc (.cells #[.int .i64 1, .int .i64 1, .slice x1 1 1, .int .i64 1, .int .i64 1, .slice (some ⟨g2, o2, none⟩) 1 1, .slice (some ⟨g1, o1, none⟩) 1 1, .slice y2 1 1] 39)).cell? ⟨g2, o2, none⟩ = some (.int .i64 3) := q2 0 (by omega)
  clear hal1 hB1 hX2 hx T1
  obtain ⟨f0, f1, f2, f3, f4, f5, f6, f7⟩ := KC.out _ T2
  go_wp2_with fail
  refine (pflat_calls ⟨r1, c1, a1, n1, k1, r2, c2, a2, n2, k2, d1, m1, t1, d2, m2, t2⟩ d _ (KP.out _ T2)).mono ?_
  rintro e p3 ⟨fa, fn, fc, rfl, hfn, hl, hp3⟩
  have hs2 := T2.size
  simp at hs2
  have T3 := T2.trans (hp3.mono (by simpa using hs2))
  clear T2 hp3 hs2 q1 q2 f0 f1 f2 f3 f4 f5 f6 f7
  obtain ⟨f0, f1, f2, f3, f4, f5, f6, f7⟩ := KC.out _ T3
  rcases pchk_cases ⟨r1, c1, a1, n1, k1, r2, c2, a2, n2, k2, d1, m1, t1, d2, m2, t2⟩ d with h0 | ⟨h0, u0, _⟩
  · have H0 : Hid (pchk ⟨r1, c1, a1, n1, k1, r2, c2, a2, n2, k2, d1, m1, t1, d2, m2, t2⟩ d = 0) := h0
    obtain ⟨I, H, O, a1', k1', a2', k2', d1', t1', d2', t2', hp, i1, i2, j1, j2, o1, o2, hr⟩ := pchk_zero h0
    simp only [rpup, Pup.mk.injEq] at hp
    obtain ⟨rfl, rfl, rfl, rfl, rfl, rfl, rfl, rfl, rfl, rfl, rfl, hm1, rfl, rfl, hm2, rfl⟩ := hp
    subst m1
    subst m2
    have hin := KP.out _ T3
    have hlen := flatD_len hin
    unfold flatL at hl
    rw [if_pos h0] at hl
    rw [H0.out]
    clear h0
    have hfl : fn = H * I + H + O * H + O := by rw [← hl.len]; unfold flatD; simp [hlen.1, hlen.2.1, hlen.2.2.1, hlen.2.2.2]; omega
    have hsh := shape_good I H O fa fn fc (flatD d) p3 hl i1 i2 j1 j2 o1 o2 hfl (rightB_flat hr)
    rw [cutD_of hlen.1 hlen.2.1 hlen.2.2.1 hlen.2.2.2] at hsh
    have HF : Hid (fn = H * I + H + O * H + O) := hfl
    clear hfl hin
    go_wp2_with fail
    refine hsh.mono ?_
    rintro e p4 ⟨x1', x2', y1', y2', rfl, hx, hp4⟩
    rw [show (rpup I H O x1' (H * I) x2' (O * H) y1' H y2' O).val = .agg #[.int .i64 H, .int .i64 I, .slice x1' (H * I) (H * I), .int .i64 O, .int .i64 H, .slice x2' (O * H) (O * H), .slice y1' H H, .slice y2' O O] from rfl]
    have hs3 := T3.size
    simp at hs3
    have T4 := T3.trans (hp4.mono hs3)
    have hs4 := T4.size
    simp at hs4
    have hal4 := (Below.refl p4.heap.size p4).alloc (Nat.le_refl _) (.cells #[.int .i64 H, .int .i64 I, .slice x1' (H * I) (H * I), .int .i64 O, .int .i64 H, .slice x2' (O * H) (O * H), .slice y1' H H, .slice y2' O O] 39)
    have T5 := T4.trans (hal4.mono hs4)
    have hx5 := hx.below hal4 (Nat.le_refl _)
    have hm5 := KP.out _ T5
    have s1 := prod_sideN j2 i2
    have s2 := prod_sideN o2 j2
    have hsame := rsameP_calls (rpup I H O x1' (H * I) x2' (O * H) y1' H y2' O) _ d _ hx5 hm5 rfl rfl rfl rfl (by show H * I ≤ 1000; omega) (by show O * H ≤ 1000; omega) (by show H ≤ 1000; omega) (by show O ≤ 1000; omega)
    clear hsh f0 f1 f2 f3 f4 f5 f6 f7 hal4 hx hp4 hl hs3
    obtain ⟨f0, f1, f2, f3, f4, f5, f6, f7⟩ := KC.out _ T5
    go_wp2_with fail
    refine hsame.mono ?_
    rintro e p6 ⟨rfl, hp6⟩
    have hs5 := T5.size
    simp at hs5
    have T6 := T5.trans (hp6.mono (by simpa using hs5))
    go_wp2
    go_ret
    exact ⟨rfl, KW.out _ T6⟩
  · have hfl := hl.len
    unfold flatL at hfl
    rw [if_neg h0] at hfl
    obtain rfl : 0 = fn := hfl
    have u1 : (pchk ⟨r1, c1, a1, n1, k1, r2, c2, a2, n2, k2, d1, m1, t1, d2, m2, t2⟩ d == pchk ⟨r1, c1, a1, n1, k1, r2, c2, a2, n2, k2, d1, m1, t1, d2, m2, t2⟩ d) = true := by simp
    have hck := pcheck_calls ⟨r1, c1, a1, n1, k1, r2, c2, a2, n2, k2, d1, m1, t1, d2, m2, t2⟩ d p3 (KP.out _ T3)
    clear hl
    generalize pchk ⟨r1, c1, a1, n1, k1, r2, c2, a2, n2, k2, d1, m1, t1, d2, m2, t2⟩ d = E at u0 u1 hck ⊢
    go_wp2_with fail
    refine hck.mono ?_
    rintro e p4 ⟨rfl, hp4⟩
    have hs3 := T3.size
    simp at hs3
    have T4 := T3.trans (hp4.mono hs3)
    go_wp2
    go_ret
    exact ⟨rfl, KW.out _ T4⟩
end Go.Proofs.Ytmoeogecafjcmad.Fx
