/- ListsOwn holds: whatever pupil, example and list are handed in, it returns true: what is told shares nothing with what was handed in, which stays as it was; no condition. -/
import Derived.Test.YtimciamfgpdjlaaGreatJ19
import Derived.Test.YtimciamfgpdjlaaGreatJ23
import Derived.Test.YtimciamfgpdjlaaGreatJ08
import Derived.Test.YtimciamfgpdjlaaGreatJ09
import Derived.Deep.DeepCutAuto
import Derived.Deep.CutBlock
import Derived.Deep.QuietTactic
import Derived.BigQuiet
import Derived.Deep.RegionHeld3
import Derived.Test.YtimciamfgpdjlaaGreatJ00
import Derived.WalkKit
namespace Go.Proofs.YtimciamfgpdjlaaGreat.Fx
open Go.RowKit

theorem right_flatD {d : PD} (h : RightD d) : rightB (flatD d) = true := by
  obtain ⟨h1, h2, h3, h4⟩ := h
  unfold flatD rightB at *
  rw [List.all_append, List.all_append, List.all_append, h1, h2, h3, h4]
  rfl
/-- A list that was made by append, one number at least: a row of the program's own. -/
theorem OwnI.rowS {base : Nat} {w : World} {v : Value} {xs : List Int} {n : Nat} (h : OwnI base w v xs) (hl : xs.length = n) (hn : 0 < n) : ∃ g c F, v = .slice (some ⟨g, 0, none⟩) n c ∧ base ≤ g ∧ w.rowIs g 3 c F ∧ n ≤ c ∧ c ≤ 9223372036854775807 := by
  subst hl
  have e : xs = (List.range xs.length).map (fun i => xs.getD i 0) := by
    apply List.ext_getElem (by simp)
    intro i h1 h2
    simp [List.getD_eq_getElem?_getD, h1]
  have h2 : OwnI base w v ((List.range xs.length).map (fun i => xs.getD i 0)) := by rw [← e]; exact h
  obtain ⟨g, c, rfl, hb, ha⟩ := h2.arr hn
  have hm := h.capM
  obtain ⟨hc, F, hr, _⟩ := ha
  exact ⟨g, c, F, rfl, hb, hr, hc, Nat.le_trans hm (by decide)⟩

theorem OwnW.rowS {base : Nat} {w : World} {v : Value} {xs : List Int} (h : OwnW base w v xs) : v = .slice none 0 0 ∨ ∃ g m c F, v = .slice (some ⟨g, 0, none⟩) m c ∧ base ≤ g ∧ w.rowIs g 22 c F ∧ m ≤ c ∧ c ≤ 9223372036854775807 := by
  rcases h.2 with ⟨e, _⟩ | ⟨g, cap, cur, e, hg, hh, hle, hm, hsz, _⟩
  · exact .inl e
  · refine .inr ⟨g, _, cap, fun i => cur[i]?.getD default, e, hg, ⟨cur, hh, by simpa using hsz, fun i hi => ?_⟩, hle, Nat.le_trans hm (by decide)⟩
    show cur[i]? = some (cur[i]?.getD default)
    rw [Array.getElem?_eq_getElem (by omega)]; rfl
theorem OnlyB.lst {g : Nat} {w q : World} (h : OnlyB g w q) {a : Option Addr} {n c : Nat} {xs : List Int} (hl : Lst w a n c xs) (hne : ∀ b o, a = some ⟨b, o, none⟩ → b ≠ g) : Lst q a n c xs := by
  refine ⟨hl.1, hl.2.1, ?_⟩
  rcases hl.2.2 with h0 | ⟨b, off, e, hs, hc⟩
  · exact .inl h0
  · refine .inr ⟨b, off, e, by rw [h.size]; exact hs, fun i hi => ?_⟩
    rw [← hc i hi]
    simp only [World.cell?]
    rw [h.blk b (hne b off e)]
theorem fourteen {i : Nat} (h : i < 14) : i = 0 ∨ i = 1 ∨ i = 2 ∨ i = 3 ∨ i = 4 ∨ i = 5 ∨ i = 6 ∨ i = 7 ∨ i = 8 ∨ i = 9 ∨ i = 10 ∨ i = 11 ∨ i = 12 ∨ i = 13 := by omega

set_option maxRecDepth 100000 in
set_option maxHeartbeats 6400000 in
theorem listsOwn_core (p : Pup) (d : PD) (x : Exm) (IX OX : List Int) (a : Option Addr) (n c : Nat) (xs : List Int) (w : World) (hp : InPup w p d) (hx : InEx w x IX OX) (hl : Lst w a n c xs) :
    Calls Tryz.prog 5 #[p.val, x.val, .slice a n c] w fun e w' => e = .returned (.bool true) ∧ Below w.heap.size w w' := by
  have hal0 := low_alloc w (.cells p.cells 62)
  have hal := hal0.alloc hal0.size (.cells #[.slice x.a x.n x.k, .slice x.b x.m x.t] 64)
  have HRP : Hid (∀ q, Below w.heap.size w q → Calls Tryz.prog 26 #[p.val] q fun e w' => e = .returned (.int .i64 (pchk p d)) ∧ Below q.heap.size q w') := fun q hq => rpupil_calls p d q (hp.below hq (Nat.le_refl _))
  by_cases h0 : pchk p d = 0
  rotate_left
  · have hne : (pchk p d != 0) = true := by rw [bne_iff_ne]; exact h0
    generalize pchk p d = E at *
    clear hp hx hl h0
    obtain ⟨r1, c1, a1, n1, k1, r2, c2, a2, n2, k2, d1, m1, e1, d2, m2, e2⟩ := p
    obtain ⟨xa, xn, xk, xb, xm, xt⟩ := x
    simp only [Pup.val, Pup.cells, Exm.val] at *
    obtain ⟨W, HW⟩ : ∃ q, Hid (q = (w.alloc (.cells #[.int .i64 r1, .int .i64 c1, .slice a1 n1 k1, .int .i64 r2, .int .i64 c2, .slice a2 n2 k2, .slice d1 m1 e1, .slice d2 m2 e2] 62)).alloc (.cells #[.slice xa xn xk, .slice xb xm xt] 64)) := ⟨_, rfl⟩
    have KA : Hid (∀ q, Below W.heap.size W q → Box8 q w.heap.size (.int .i64 r1) (.int .i64 c1) (.slice a1 n1 k1) (.int .i64 r2) (.int .i64 c2) (.slice a2 n2 k2) (.slice d1 m1 e1) (.slice d2 m2 e2)) := fun q hq => by rw [HW.out] at hq; exact boxA hq (by simp; omega)
    rw [← HW.out] at hal
    clear hal0
    go_enter Tryz.func5, Tryz.ntmps5
    go_upto_region 1 with fail
    rw [← HW.out]
    clear HW
    go_wp2_with fail
    refine (grown_calls _).mono ?_
    rintro e w1 ⟨rfl, T1⟩
    go_wp2_with fail
    refine (taught_any _).mono ?_
    rintro e w2 ⟨rfl, hw2⟩
    have T2 := T1.trans (hw2.mono T1.size)
    obtain ⟨f0, f1, f2, f3, f4, f5, f6, f7⟩ := KA.out _ T2
    have RP := HRP.out _ (hal.trans (T2.mono hal.size))
    clear hw2 HRP KA
    go_wp2_with fail
    refine RP.mono ?_
    rintro e w3 ⟨rfl, hw3⟩
    have T3 := T2.trans (hw3.mono T2.size)
    go_wp2_with fail
    go_ret
    exact ⟨rfl, hal.trans (T3.mono hal.size)⟩
  rw [h0] at HRP
  obtain ⟨I, H, O, a1, k1, a2, k2, d1, e1, d2, e2, rfl, i1, i2, j1, j2, o1, o2, hr⟩ := pchk_zero h0
  have KP : Hid (∀ q, Below w.heap.size w q → InPup q (rpup I H O a1 k1 a2 k2 d1 e1 d2 e2) d) := fun q hq => hp.below hq (Nat.le_refl _)
  have KX : Hid (∀ q, Below w.heap.size w q → InEx q x IX OX) := fun q hq => hx.below hq (Nat.le_refl _)
  have KL : Hid (∀ q, Below w.heap.size w q → Lst q a n c xs) := fun q hq => hl.below hq (Nat.le_refl _)
  have H0 : Hid (pchk (rpup I H O a1 k1 a2 k2 d1 e1 d2 e2) d = 0) := h0
  have HR : Hid (RightD d) := hr
  have hix := hx.i.len
  have hox := hx.o.len
  clear hp hx hl h0 hr
  obtain ⟨xa, xn, xk, xb, xm, xt⟩ := x
  dsimp only at hix hox
  simp only [Pup.val, Pup.cells, rpup, Exm.val] at HRP hal hal0 ⊢
  obtain ⟨W, HW⟩ : ∃ q, Hid (q = (w.alloc (.cells #[.int .i64 H, .int .i64 I, .slice a1 (H * I) k1, .int .i64 O, .int .i64 H, .slice a2 (O * H) k2, .slice d1 H e1, .slice d2 O e2] 62)).alloc (.cells #[.slice xa xn xk, .slice xb xm xt] 64)) := ⟨_, rfl⟩
  have KA : Hid (∀ q, Below W.heap.size W q → Box8 q w.heap.size (.int .i64 H) (.int .i64 I) (.slice a1 (H * I) k1) (.int .i64 O) (.int .i64 H) (.slice a2 (O * H) k2) (.slice d1 H e1) (.slice d2 O e2)) := fun q hq => by rw [HW.out] at hq; exact boxA hq (by simp; omega)
  have KE : Hid (∀ q, Below W.heap.size W q → q.cell? ⟨w.heap.size + 1, 0, none⟩ = some (.slice xa xn xk) ∧ q.cell? ⟨w.heap.size + 1, 1, none⟩ = some (.slice xb xm xt)) := fun q hq => by rw [HW.out] at hq; exact boxE hq (by simp)
  rw [← HW.out] at hal
  clear hal0
  go_enter Tryz.func5, Tryz.ntmps5
  go_upto_region 1 with fail
  rw [← HW.out]
  clear HW
  go_wp2_with fail
  refine (grown_calls _).mono ?_
  rintro e w1 ⟨rfl, T1⟩
  go_wp2_with fail
  refine (taught_any _).mono ?_
  rintro e w2 ⟨rfl, hw2⟩
  have T2 := T1.trans (hw2.mono T1.size)
  obtain ⟨f0, f1, f2, f3, f4, f5, f6, f7⟩ := KA.out _ T2
  have RP := HRP.out _ (hal.trans (T2.mono hal.size))
  clear hw2 HRP
  go_wp2_with fail
  refine RP.mono ?_
  rintro e w3 ⟨rfl, hw3⟩
  have T3 := T2.trans (hw3.mono T2.size)
  clear RP hw3 T1 T2 f0 f1 f2 f3 f4 f5 f6 f7
  obtain ⟨f0, f1, f2, f3, f4, f5, f6, f7⟩ := KA.out _ T3
  obtain ⟨x0, x1⟩ := KE.out _ T3
  have hT3 := hal.trans (T3.mono hal.size)
  by_cases hin : xn = I
  rotate_left
  · have hn1 : ((xn : Int) != (I : Int)) = true := by rw [bne_iff_ne]; omega
    clear KP KX KL H0 HR KA KE
    go_wp2_with fail
    go_ret
    exact ⟨rfl, hT3⟩
  by_cases hout : xm = O
  rotate_left
  · have hn1 : ((xn : Int) != (I : Int)) = false := by rw [hin]; simp
    have hn2 : ((xm : Int) != (O : Int)) = true := by rw [bne_iff_ne]; omega
    clear KP KX KL H0 HR KA KE
    go_wp2_with fail
    go_ret
    exact ⟨rfl, hT3⟩
  subst hin hout
  have hn1 : ((xn : Int) != (xn : Int)) = false := by simp
  have hn2 : ((xm : Int) != (xm : Int)) = false := by simp
  have LI := list_calls a n c xs w3 (KL.out _ hT3)
  clear KL
  go_wp2_with fail
  refine LI.mono ?_
  rintro e w4 ⟨a4, n4, c4, ys, rfl, hn4, hn60, l4, hw4⟩
  have T4 := T3.trans (hw4.mono T3.size)
  clear LI hw4 T3 hT3 x0 x1 f0 f1 f2 f3 f4 f5 f6 f7
  have CL := cloneI_any a4 n4 c4 ys w4 l4 (by omega)
  go_wp2_with fail
  refine CL.mono ?_
  rintro e w5 ⟨v5, rfl, hv5, hw5⟩
  have T5 := T4.trans (hw5.mono T4.size)
  obtain ⟨a5, c5, rfl, l5⟩ := hv5.lst' (n := n4) l4.len
  clear CL hw5 T4 hv5 l4
  obtain ⟨f0, f1, f2, f3, f4, f5, f6, f7⟩ := KA.out _ T5
  have RF := rflat_calls xn H xm a1 k1 a2 k2 d1 e1 d2 e2 d w5 (KP.out _ (hal.trans (T5.mono hal.size))) i2 j2 o2
  simp only [Pup.val, Pup.cells, rpup] at RF
  go_wp2_with fail
  refine RF.mono ?_
  rintro e w6 ⟨aF, nF, cF, rfl, hnF, lF, hw6, _⟩
  have T6 := T5.trans (hw6.mono T5.size)
  have l6 := l5.below hw6 (Nat.le_refl _)
  clear RF hw6 l5 T5 f0 f1 f2 f3 f4 f5 f6 f7
  have CL := cloneI_any a5 n4 c5 ys w6 l6 (by omega)
  go_wp2_with fail
  refine CL.mono ?_
  rintro e w7 ⟨v8, rfl, hv8, hw7⟩
  have T7 := T6.trans (hw7.mono T6.size)
  obtain ⟨a8, c8, rfl, l8⟩ := hv8.lst' (n := n4) l6.len
  have l7 := l6.below hw7 (Nat.le_refl _)
  have lF7 := lF.below hw7 (Nat.le_refl _)
  clear CL hw7 T6 hv8 l6 lF
  -- in and out
  have hBd : Below w7.heap.size w7 w7.drew := below_drewN (Below.refl _ _) 1
  have KS : Hid (∀ q, Below w7.heap.size w7 q → q.cell? ⟨w.heap.size + 1, 0, none⟩ = some (.slice xa xn xk) ∧ q.cell? ⟨w.heap.size + 1, 1, none⟩ = some (.slice xb xm xt)) := fun q hq => KE.out _ (T7.trans (hq.mono T7.size))
  have S0 := KS.out _ hBd
  have hX7 := KX.out _ (hal.trans (T7.mono hal.size))
  have CI := cloneI_any xa xn xk IX w7.drew (hX7.i.below hBd (Nat.le_refl _)) (by omega)
  have HCO : Hid (∀ q, Below w7.heap.size w7 q → Calls Tryz.prog 27 #[.slice xb xm xt] q fun e w' => ∃ v, e = .returned v ∧ OwnI q.heap.size w' v OX ∧ Below q.heap.size q w') := fun q hq => cloneI_any xb xm xt OX q (hX7.o.below hq (Nat.le_refl _)) (by omega)
  go_upto_region 7 with fail
  go_cut [9, 10] (fun u v q => ∃ a9 c9 a10 c10, u = .slice a9 xn c9 ∧ v = .slice a10 xm c10 ∧ Lst q a9 xn c9 IX ∧ Lst q a10 xm c10 OX ∧ Below w7.heap.size w7 q)
  case first =>
    clear KP KX KA KE H0 HR l7 l8 lF7 hX7
    go_region_held3 (fun q => q.cell? ⟨w.heap.size + 1, 0, none⟩ = some (.slice xa xn xk) ∧ q.cell? ⟨w.heap.size + 1, 1, none⟩ = some (.slice xb xm xt)) (first | with_reducible exact S9 | with_reducible exact S8 | with_reducible exact S0)
      (first | (go_at_call 27; refine CI.mono ?_; rintro e w8 ⟨v9, rfl, hv9, hw8⟩; obtain ⟨a9, c9, hv9e, l9⟩ := hv9.lst' (n := xn) hix; subst hv9e; have U8 := hBd.trans hw8; have S8 := KS.out _ U8) | (go_at_call 27; refine (HCO.out _ U8).mono ?_; rintro e w9 ⟨v10, rfl, hv10, hw9⟩; obtain ⟨a10, c10, hv10e, l10⟩ := hv10.lst' (n := xm) hox; subst hv10e; have U9 := U8.trans (hw9.mono U8.size); have S9 := KS.out _ U9))
    all_goals
      go_wp2_with fail
      go_meet
      case rel => exact ⟨a9, c9, a10, c10, rfl, rfl, l9.below hw9 (Nat.le_refl _), l10, U9⟩
  case rest =>
  obtain ⟨a9, c9, a10, c10, rfl, rfl, l9, l10, U9⟩ := hcut
  generalize hwc : wc = u1 at *
  clear hwc CI HCO S0 KS hBd hX7
  have l5 := l7.below U9 (Nat.le_refl _)
  have lW := l8.below U9 (Nat.le_refl _)
  have lF := lF7.below U9 (Nat.le_refl _)
  have T := T7.trans (U9.mono T7.size)
  clear l7 l8 lF7 U9 T7
  -- what is told
  obtain ⟨NN, HNN⟩ : ∃ t, Hid (H * xn + H + xm * H + xm = t) := ⟨_, rfl⟩
  have z1 : 0 < H * xn := Nat.mul_pos (by omega) (by omega)
  have z2 : 0 < xm * H := Nat.mul_pos (by omega) (by omega)
  have zNN : 0 < NN := by have := HNN.out; omega
  have hTu := hal.trans (T.mono hal.size)
  have hpu := KP.out _ hTu
  have HFL : Hid ((flatD d).length = NN) := by
    show _ = _
    have q1 := hpu.x1.len
    have q2 := hpu.x2.len
    have q3 := hpu.b1.len
    have q4 := hpu.b2.len
    simp only [rpup] at q1 q2 q3 q4
    unfold flatD
    rw [List.length_append, List.length_append, List.length_append, q1, q2, q3, q4, ← HNN.out]
    omega
  have hnFe : nF = NN := by rw [← lF.len]; exact HFL.out
  subst hnFe
  have PF := pflat_own (rpup xn H xm a1 k1 a2 k2 d1 e1 d2 e2) d u1 hpu H0.out
  simp only [Pup.val, Pup.cells, rpup] at PF
  clear hpu
  obtain ⟨f0, f1, f2, f3, f4, f5, f6, f7⟩ := KA.out _ T
  go_wp2_with fail
  refine PF.mono ?_
  rintro e u2 ⟨vf, rfl, hvf, B2⟩
  obtain ⟨gf, cf, Ff, rfl, hgf, rf, nf, mf⟩ := hvf.rowS HFL.out zNN
  have KF : Hid (∀ q, Below u2.heap.size u2 q → ∃ F, q.rowIs gf 3 cf F) := fun q hq => ⟨Ff, rf.of_block (hq.block _ rf.lt)⟩
  have lf2 := rf.lt
  have T2 := T.trans (B2.mono T.size)
  clear PF hvf rf f0 f1 f2 f3 f4 f5 f6 f7
  obtain ⟨f0, f1, f2, f3, f4, f5, f6, f7⟩ := KA.out _ T2
  have SH := shape_own xn H xm aF nF cF (flatD d) u2 (lF.below B2 (Nat.le_refl _)) i1 i2 j1 j2 o1 o2 HNN.out.symm (right_flatD HR.out)
  simp only [Pup.val, Pup.cells, rpup] at SH
  go_wp2_with fail
  refine SH.mono ?_
  rintro e u3 ⟨s1, s2, s3, s4, rfl, ⟨so1, so2, so3, so4⟩, ⟨y1, y2, y3, y4, r1, r2, r3, r4⟩, hinS, hu3⟩
  obtain ⟨U3, HU3⟩ : ∃ q, Hid (q = u3.alloc (.cells #[.int .i64 H, .int .i64 xn, .slice (some ⟨s1, 0, none⟩) (H * xn) (H * xn), .int .i64 xm, .int .i64 H, .slice (some ⟨s2, 0, none⟩) (xm * H) (xm * H), .slice (some ⟨s3, 0, none⟩) H H, .slice (some ⟨s4, 0, none⟩) xm xm] 62)) := ⟨_, rfl⟩
  have al3 := low_alloc u3 (.cells #[.int .i64 H, .int .i64 xn, .slice (some ⟨s1, 0, none⟩) (H * xn) (H * xn), .int .i64 xm, .int .i64 H, .slice (some ⟨s2, 0, none⟩) (xm * H) (xm * H), .slice (some ⟨s3, 0, none⟩) H H, .slice (some ⟨s4, 0, none⟩) xm xm] 62)
  have sb := fn8_alloc u3 (.int .i64 H) (.int .i64 xn) (.slice (some ⟨s1, 0, none⟩) (H * xn) (H * xn)) (.int .i64 xm) (.int .i64 H) (.slice (some ⟨s2, 0, none⟩) (xm * H) (xm * H)) (.slice (some ⟨s3, 0, none⟩) H H) (.slice (some ⟨s4, 0, none⟩) xm xm) 62
  rw [← HU3.out] at al3 sb
  have KS1 : Hid (∀ q, Below U3.heap.size U3 q → (∃ F, q.rowIs s1 3 (H * xn) F) ∧ (∃ F, q.rowIs s2 3 (xm * H) F) ∧ (∃ F, q.rowIs s3 3 H F) ∧ (∃ F, q.rowIs s4 3 xm F)) := fun q hq => by
    have g1 := (r1.below al3).below hq
    have g2 := (r2.below al3).below hq
    have g3 := (r3.below al3).below hq
    have g4 := (r4.below al3).below hq
    obtain ⟨_, F1, h1, _⟩ := g1
    obtain ⟨_, F2, h2, _⟩ := g2
    obtain ⟨_, F3, h3, _⟩ := g3
    obtain ⟨_, F4, h4, _⟩ := g4
    exact ⟨⟨F1, h1⟩, ⟨F2, h2⟩, ⟨F3, h3⟩, ⟨F4, h4⟩⟩
  have KIS : Hid (∀ q, Below U3.heap.size U3 q → InPup q (rpup xn H xm (some ⟨s1, 0, none⟩) (H * xn) (some ⟨s2, 0, none⟩) (xm * H) (some ⟨s3, 0, none⟩) H (some ⟨s4, 0, none⟩) xm) (cutD xn H xm (flatD d))) := fun q hq => (hinS.below al3 (Nat.le_refl _)).below hq (Nat.le_refl _)
  have KSB : Hid (∀ q, Below U3.heap.size U3 q → q.rowIs u3.heap.size 62 8 (fn8 (.int .i64 H) (.int .i64 xn) (.slice (some ⟨s1, 0, none⟩) (H * xn) (H * xn)) (.int .i64 xm) (.int .i64 H) (.slice (some ⟨s2, 0, none⟩) (xm * H) (xm * H)) (.slice (some ⟨s3, 0, none⟩) H H) (.slice (some ⟨s4, 0, none⟩) xm xm))) := fun q hq => sb.of_block (hq.block _ sb.lt)
  have ls4 := (r4.below al3).lt
  have hu3' := hu3.trans (al3.mono hu3.size)
  have B3 := B2.trans (hu3'.mono B2.size)
  have T3 := T.trans (B3.mono T.size)
  have b2s := B2.size
  have KF3 : Hid (∀ q, Below U3.heap.size U3 q → ∃ F, q.rowIs gf 3 cf F) := fun q hq => KF.out _ (hu3'.trans (hq.mono hu3'.size))
  clear SH hinS r1 r2 r3 r4 sb al3 f0 f1 f2 f3 f4 f5 f6 f7 KF hu3
  go_upto_region 10 with fail
  rw [← HU3.out]
  clear HU3
  obtain ⟨f0, f1, f2, f3, f4, f5, f6, f7⟩ := KA.out _ T3
  obtain ⟨x0, x1⟩ := KE.out _ T3
  have hT3 := hal.trans (T3.mono hal.size)
  have FW := pforward_own xn H xm a1 k1 a2 k2 d1 e1 d2 e2 d xa xk IX U3 (KP.out _ hT3) (KX.out _ hT3).i HR.out i1 i2 j1 j2 o1 o2
  simp only [Pup.val, Pup.cells, rpup] at FW
  go_wp2_with fail
  refine FW.mono ?_
  rintro e u4 ⟨gh, gy, fy, rfl, ⟨ho1, ho2⟩, rh, ry, hu4⟩
  have B4 := B3.trans (hu4.mono B3.size)
  have T4 := T.trans (B4.mono T.size)
  have hT4 := hal.trans (T4.mono hal.size)
  have b3s := B3.size
  clear FW f0 f1 f2 f3 f4 f5 f6 f7 x0 x1
  obtain ⟨f0, f1, f2, f3, f4, f5, f6, f7⟩ := KA.out _ T4
  obtain ⟨x0, x1⟩ := KE.out _ T4
  have GR := pgrad_own xn H xm a1 k1 a2 k2 d1 e1 d2 e2 d xa xk IX xb xt OX u4 (KP.out _ hT4) (KX.out _ hT4).i (KX.out _ hT4).o HR.out i1 i2 j1 j2 o1 o2
  simp only [Pup.val, Pup.cells, rpup] at GR
  go_wp2_with fail
  refine GR.mono ?_
  rintro e u5 ⟨g1, g2, g3, g4, rfl, ⟨go1, go2, go3, go4⟩, ⟨p1, p2, p3, p4, t1, t2, t3, t4⟩, hu5⟩
  obtain ⟨U5, HU5⟩ : ∃ q, Hid (q = u5.alloc (.cells #[.int .i64 H, .int .i64 xn, .slice (some ⟨g1, 0, none⟩) (H * xn) (H * xn), .int .i64 xm, .int .i64 H, .slice (some ⟨g2, 0, none⟩) (xm * H) (xm * H), .slice (some ⟨g3, 0, none⟩) H H, .slice (some ⟨g4, 0, none⟩) xm xm] 62)) := ⟨_, rfl⟩
  have al5 := low_alloc u5 (.cells #[.int .i64 H, .int .i64 xn, .slice (some ⟨g1, 0, none⟩) (H * xn) (H * xn), .int .i64 xm, .int .i64 H, .slice (some ⟨g2, 0, none⟩) (xm * H) (xm * H), .slice (some ⟨g3, 0, none⟩) H H, .slice (some ⟨g4, 0, none⟩) xm xm] 62)
  have gbx := fn8_alloc u5 (.int .i64 H) (.int .i64 xn) (.slice (some ⟨g1, 0, none⟩) (H * xn) (H * xn)) (.int .i64 xm) (.int .i64 H) (.slice (some ⟨g2, 0, none⟩) (xm * H) (xm * H)) (.slice (some ⟨g3, 0, none⟩) H H) (.slice (some ⟨g4, 0, none⟩) xm xm) 62
  rw [← HU5.out] at al5 gbx
  have hu45 := hu5.trans (al5.mono hu5.size)
  have KG : Hid (∀ q, Below U5.heap.size U5 q → (∃ F, q.rowIs gh 3 H F) ∧ (∃ F, q.rowIs gy 3 xm F) ∧ (∃ F, q.rowIs g1 3 (H * xn) F) ∧ (∃ F, q.rowIs g2 3 (xm * H) F) ∧ (∃ F, q.rowIs g3 3 H F) ∧ (∃ F, q.rowIs g4 3 xm F)) := fun q hq => by
    obtain ⟨_, F1, h1, _⟩ := (rh.below hu45).below hq
    obtain ⟨_, F2, h2, _⟩ := (ry.below hu45).below hq
    obtain ⟨_, F3, h3, _⟩ := (t1.below al5).below hq
    obtain ⟨_, F4, h4, _⟩ := (t2.below al5).below hq
    obtain ⟨_, F5, h5, _⟩ := (t3.below al5).below hq
    obtain ⟨_, F6, h6, _⟩ := (t4.below al5).below hq
    exact ⟨⟨F1, h1⟩, ⟨F2, h2⟩, ⟨F3, h3⟩, ⟨F4, h4⟩, ⟨F5, h5⟩, ⟨F6, h6⟩⟩
  have KGB : Hid (∀ q, Below U5.heap.size U5 q → q.rowIs u5.heap.size 62 8 (fn8 (.int .i64 H) (.int .i64 xn) (.slice (some ⟨g1, 0, none⟩) (H * xn) (H * xn)) (.int .i64 xm) (.int .i64 H) (.slice (some ⟨g2, 0, none⟩) (xm * H) (xm * H)) (.slice (some ⟨g3, 0, none⟩) H H) (.slice (some ⟨g4, 0, none⟩) xm xm))) := fun q hq => gbx.of_block (hq.block _ gbx.lt)
  have lgy := ry.lt
  have lg2 := (t2.below al5).lt
  have U35 : Below U3.heap.size U3 U5 := hu4.trans (hu45.mono hu4.size)
  have B5 := B3.trans (U35.mono B3.size)
  have b4s := B4.size
  clear GR rh ry t1 t2 t3 t4 al5 gbx f0 f1 f2 f3 f4 f5 f6 f7 x0 x1 hu5
  go_upto_region 12 with fail
  rw [← HU5.out]
  clear HU5
  have l5U := l5.below B5 (Nat.le_refl _)
  have SM := vSum_at a5 a5 n4 c5 c5 ys ys U5 l5U l5U (by omega)
  go_wp2_with fail
  refine SM.mono ?_
  rintro e u6 ⟨gs, rfl, hgs, rs, hu6⟩
  have l56 := l5U.below hu6 (Nat.le_refl _)
  have CP := clip0_own a5 n4 c5 ys u6 l56 (by omega)
  clear SM l5U
  go_wp2_with fail
  refine CP.mono ?_
  rintro e u7 ⟨gc, rfl, hgc, rc, hu7⟩
  have l57 := l56.below hu7 (Nat.le_refl _)
  have CK : Calls Tryz.prog 23 #[.agg #[.slice a5 n4 c5, .slice none 0 0], .int .i64 0] u7 fun e w' => ∃ v u, e = .returned (.tuple #[v, u, .int .i64 0]) ∧ OwnI u7.heap.size w' v (partL ys n4 0) ∧ OwnW u7.heap.size w' u (wayP (leavesP ys n4) 0) ∧ Below u7.heap.size u7 w' := by
    have h := chunkg_own a5 n4 c5 ys none 0 0 [] 0 u7 l57 (Lst.nil _ _ _) (by omega) (by omega) (by omega)
    rw [List.append_nil, Nat.add_zero] at h
    exact h
  have hplen := partL_len (xs := ys) (n := n4) (i := 0) l57.len (by omega)
  clear CP l56
  go_wp2_with fail
  refine CK.mono ?_
  rintro e u8 ⟨vp, vq, rfl, hvp, hvq, hu8⟩
  obtain ⟨gp, cp, Fp, rfl, hgp, rp, np, mp⟩ := hvp.rowS (n := hiN n4 0 - 0 * 4) hplen (by unfold hiN; omega)
  obtain ⟨pn, HPN⟩ : ∃ t, Hid (hiN n4 0 - 0 * 4 = t) := ⟨_, rfl⟩
  rw [HPN.out] at np ⊢
  have V8 : Below U5.heap.size U5 u8 := by
    have q1 := hu6.trans (hu7.mono hu6.size)
    exact q1.trans (hu8.mono q1.size)
  have W8 : Below U3.heap.size U3 u8 := U35.trans (V8.mono U35.size)
  have B8 := B3.trans (W8.mono B3.size)
  have hPQ := hvq.rowS
  clear CK hvp hvq hplen HPN l57
  obtain ⟨b0, b1, b2, b3, b4, b5, b6, b7⟩ := fn8_box (KSB.out _ W8)
  have RF := rflat_calls xn H xm (some ⟨s1, 0, none⟩) (H * xn) (some ⟨s2, 0, none⟩) (xm * H) (some ⟨s3, 0, none⟩) H (some ⟨s4, 0, none⟩) xm _ u8 (KIS.out _ W8) i2 j2 o2
  rw [cutD_flat (by rw [HFL.out]; exact HNN.out.symm)] at RF
  simp only [Pup.val, Pup.cells, rpup] at RF
  go_wp2_with fail
  refine RF.mono ?_
  rintro e u9 ⟨af, nf2, cf2, rfl, hnf2, lfst, hu9, hfr⟩
  clear RF b0 b1 b2 b3 b4 b5 b6 b7
  have W9 := W8.trans (hu9.mono W8.size)
  have V9 := V8.trans (hu9.mono V8.size)
  have B9 := B8.trans (hu9.mono B8.size)
  obtain ⟨b0, b1, b2, b3, b4, b5, b6, b7⟩ := fn8_box (KSB.out _ W9)
  obtain ⟨v0, v1, v2, v3, v4, v5, v6, v7⟩ := fn8_box (KGB.out _ V9)
  obtain ⟨GG, HGG⟩ : ∃ f : Nat → Nat, Hid (f = fun i => [gf, s1, s3, s2, s4, gh, gy, g1, g3, g2, g4, gs, gc, gp].getD i 0) := ⟨_, rfl⟩
  obtain ⟨NG, HNG⟩ : ∃ f : Nat → Nat, Hid (f = fun i => [nF, H * xn, H, xm * H, xm, H, xm, H * xn, H, xm * H, xm, n4, n4, pn].getD i 0) := ⟨_, rfl⟩
  obtain ⟨DG, HDG⟩ : ∃ f : Nat → Nat, Hid (f = fun i => [cf, H * xn, H, xm * H, xm, H, xm, H * xn, H, xm * H, xm, n4, n4, cp].getD i 0) := ⟨_, rfl⟩
  have alU := low_alloc u9 (.cells #[.slice (some ⟨gf, 0, none⟩) (nF) (cf), .slice (some ⟨s1, 0, none⟩) (H * xn) (H * xn), .slice (some ⟨s3, 0, none⟩) (H) (H), .slice (some ⟨s2, 0, none⟩) (xm * H) (xm * H), .slice (some ⟨s4, 0, none⟩) (xm) (xm), .slice (some ⟨gh, 0, none⟩) (H) (H), .slice (some ⟨gy, 0, none⟩) (xm) (xm), .slice (some ⟨g1, 0, none⟩) (H * xn) (H * xn), .slice (some ⟨g3, 0, none⟩) (H) (H), .slice (some ⟨g2, 0, none⟩) (xm * H) (xm * H), .slice (some ⟨g4, 0, none⟩) (xm) (xm), .slice (some ⟨gs, 0, none⟩) (n4) (n4), .slice (some ⟨gc, 0, none⟩) (n4) (n4), .slice (some ⟨gp, 0, none⟩) (pn) (cp)] 26)
  have arow : (u9.alloc (.cells #[.slice (some ⟨gf, 0, none⟩) (nF) (cf), .slice (some ⟨s1, 0, none⟩) (H * xn) (H * xn), .slice (some ⟨s3, 0, none⟩) (H) (H), .slice (some ⟨s2, 0, none⟩) (xm * H) (xm * H), .slice (some ⟨s4, 0, none⟩) (xm) (xm), .slice (some ⟨gh, 0, none⟩) (H) (H), .slice (some ⟨gy, 0, none⟩) (xm) (xm), .slice (some ⟨g1, 0, none⟩) (H * xn) (H * xn), .slice (some ⟨g3, 0, none⟩) (H) (H), .slice (some ⟨g2, 0, none⟩) (xm * H) (xm * H), .slice (some ⟨g4, 0, none⟩) (xm) (xm), .slice (some ⟨gs, 0, none⟩) (n4) (n4), .slice (some ⟨gc, 0, none⟩) (n4) (n4), .slice (some ⟨gp, 0, none⟩) (pn) (cp)] 26)).rowIs u9.heap.size 26 14 (fun i => .slice (some ⟨GG i, 0, none⟩) (NG i) (DG i)) := by
    rw [HGG.out, HNG.out, HDG.out]
    exact World.rowIs_alloc u9 #[.slice (some ⟨gf, 0, none⟩) (nF) (cf), .slice (some ⟨s1, 0, none⟩) (H * xn) (H * xn), .slice (some ⟨s3, 0, none⟩) (H) (H), .slice (some ⟨s2, 0, none⟩) (xm * H) (xm * H), .slice (some ⟨s4, 0, none⟩) (xm) (xm), .slice (some ⟨gh, 0, none⟩) (H) (H), .slice (some ⟨gy, 0, none⟩) (xm) (xm), .slice (some ⟨g1, 0, none⟩) (H * xn) (H * xn), .slice (some ⟨g3, 0, none⟩) (H) (H), .slice (some ⟨g2, 0, none⟩) (xm * H) (xm * H), .slice (some ⟨g4, 0, none⟩) (xm) (xm), .slice (some ⟨gs, 0, none⟩) (n4) (n4), .slice (some ⟨gc, 0, none⟩) (n4) (n4), .slice (some ⟨gp, 0, none⟩) (pn) (cp)] 26 _ (by
      intro i hi
      rcases fourteen hi with rfl | rfl | rfl | rfl | rfl | rfl | rfl | rfl | rfl | rfl | rfl | rfl | rfl | rfl <;> rfl)
  obtain ⟨U, HU⟩ : ∃ q, Hid (q = u9.alloc (.cells #[.slice (some ⟨gf, 0, none⟩) (nF) (cf), .slice (some ⟨s1, 0, none⟩) (H * xn) (H * xn), .slice (some ⟨s3, 0, none⟩) (H) (H), .slice (some ⟨s2, 0, none⟩) (xm * H) (xm * H), .slice (some ⟨s4, 0, none⟩) (xm) (xm), .slice (some ⟨gh, 0, none⟩) (H) (H), .slice (some ⟨gy, 0, none⟩) (xm) (xm), .slice (some ⟨g1, 0, none⟩) (H * xn) (H * xn), .slice (some ⟨g3, 0, none⟩) (H) (H), .slice (some ⟨g2, 0, none⟩) (xm * H) (xm * H), .slice (some ⟨g4, 0, none⟩) (xm) (xm), .slice (some ⟨gs, 0, none⟩) (n4) (n4), .slice (some ⟨gc, 0, none⟩) (n4) (n4), .slice (some ⟨gp, 0, none⟩) (pn) (cp)] 26)) := ⟨_, rfl⟩
  rw [← HU.out] at alU arow
  have WU := W9.trans (alU.mono W9.size)
  have VU := V9.trans (alU.mono V9.size)
  have BU := B9.trans (alU.mono B9.size)
  have h8U : Below u8.heap.size u8 U := hu9.trans (alU.mono hu9.size)
  have lfU := lfst.below alU (Nat.le_refl _)
  have rsU : ∃ F, U.rowIs gs 3 n4 F := by
    have q1 := (Arr.row rs).below (hu7.trans (hu8.mono hu7.size))
    obtain ⟨_, F, h, _⟩ := q1.below h8U
    exact ⟨F, h⟩
  have rcU : ∃ F, U.rowIs gc 3 n4 F := by
    obtain ⟨_, F, h, _⟩ := (rc.below hu8).below h8U
    exact ⟨F, h⟩
  have rpU : ∃ F, U.rowIs gp 3 cp F := ⟨Fp, rp.of_block (h8U.block _ rp.lt)⟩
  have ls := (Arr.row rs).lt
  have lc := rc.lt
  have lp8 := rp.lt
  have n6 := hu6.size
  have n7 := hu7.size
  have n8 := hu8.size
  have n35 := U35.size
  have n45 := hu45.size
  have n3 := hu3'.size
  have HG : Hid (∀ i, i < 14 → u1.heap.size ≤ GG i ∧ GG i < u8.heap.size ∧ NG i ≤ DG i ∧ DG i ≤ 9223372036854775807 ∧ ∃ F, U.rowIs (GG i) 3 (DG i) F) := fun i hi => by
    obtain ⟨k1', k2', k3', k4'⟩ := KS1.out _ WU
    obtain ⟨k5', k6', k7', k8', k9', k10'⟩ := KG.out _ VU
    have k0' := KF3.out _ WU
    have z1' := prod_sideN j2 i2
    have z2' := prod_sideN o2 j2
    rw [HGG.out, HNG.out, HDG.out]
    rcases fourteen hi with rfl | rfl | rfl | rfl | rfl | rfl | rfl | rfl | rfl | rfl | rfl | rfl | rfl | rfl
    · exact ⟨by show u1.heap.size ≤ gf; omega, by show gf < _; omega, nf, mf, k0'⟩
    · exact ⟨by show u1.heap.size ≤ s1; omega, by show s1 < _; omega, Nat.le_refl _, by show H * xn ≤ _; omega, k1'⟩
    · exact ⟨by show u1.heap.size ≤ s3; omega, by show s3 < _; omega, Nat.le_refl _, by show H ≤ _; omega, k3'⟩
    · exact ⟨by show u1.heap.size ≤ s2; omega, by show s2 < _; omega, Nat.le_refl _, by show xm * H ≤ _; omega, k2'⟩
    · exact ⟨by show u1.heap.size ≤ s4; omega, by show s4 < _; omega, Nat.le_refl _, by show xm ≤ _; omega, k4'⟩
    · exact ⟨by show u1.heap.size ≤ gh; omega, by show gh < _; omega, Nat.le_refl _, by show H ≤ _; omega, k5'⟩
    · exact ⟨by show u1.heap.size ≤ gy; omega, by show gy < _; omega, Nat.le_refl _, by show xm ≤ _; omega, k6'⟩
    · exact ⟨by show u1.heap.size ≤ g1; omega, by show g1 < _; omega, Nat.le_refl _, by show H * xn ≤ _; omega, k7'⟩
    · exact ⟨by show u1.heap.size ≤ g3; omega, by show g3 < _; omega, Nat.le_refl _, by show H ≤ _; omega, k9'⟩
    · exact ⟨by show u1.heap.size ≤ g2; omega, by show g2 < _; omega, Nat.le_refl _, by show xm * H ≤ _; omega, k8'⟩
    · exact ⟨by show u1.heap.size ≤ g4; omega, by show g4 < _; omega, Nat.le_refl _, by show xm ≤ _; omega, k10'⟩
    · exact ⟨by show u1.heap.size ≤ gs; omega, by show gs < _; omega, Nat.le_refl _, by show n4 ≤ _; omega, rsU⟩
    · exact ⟨by show u1.heap.size ≤ gc; omega, by show gc < _; omega, Nat.le_refl _, by show n4 ≤ _; omega, rcU⟩
    · exact ⟨by show u1.heap.size ≤ gp; omega, by show gp < _; omega, np, mp, rpU⟩
  have HSPW : Hid (∀ q, KeepR U q → Lst q af nf2 cf2 (flatD d) → Below u1.heap.size u1 q → Calls Tryz.prog 37 #[vq, .int .u64 9] q fun e w' => e = .returned (.tuple #[]) ∧ Lst w' af nf2 cf2 (flatD d) ∧ Below u1.heap.size u1 w') := fun q hk hl hb => by
    rcases hPQ with e | ⟨gq, mq, cq, Fq, e, hgq, rq, hmq, hcq⟩
    · rw [e]
      refine (spoilW_nil 9 q).mono ?_
      rintro e w' ⟨he, rfl⟩
      exact ⟨he, hl, hb⟩
    · rw [e]
      refine (spoilW_rows gq mq cq 9 q (hk _ _ _ Fq (rq.of_block (h8U.block _ rq.lt))) hmq hcq).mono ?_
      rintro e w' ⟨he, _, ho⟩
      have lq := rq.lt
      refine ⟨he, ho.lst hl (fun b o e => ?_), ho.bel _ _ (by omega) hb⟩
      have := hfr b o e
      omega
  have HFR : Hid (∀ g o, af = some ⟨g, o, none⟩ → u8.heap.size ≤ g) := hfr
  have n9 := hu9.size
  clear KF3 KS1 KG KSB KGB KIS hPQ rs rc rp rsU rcU rpU lfst hfr b2s b3s b4s
  go_wp2_with fail
  rw [← HU.out]
  clear HU
  go_loopw [151] (fun iv wr => ∃ k : Nat, k ≤ 14 ∧ iv = .int .i64 k ∧ KeepR U wr ∧ Lst wr af nf2 cf2 (flatD d) ∧ wr.rowIs u9.heap.size 26 14 (fun i => .slice (some ⟨GG i, 0, none⟩) (NG i) (DG i)) ∧ Below u1.heap.size u1 wr) (fun iv _ => 14 - (intOf iv).toNat)
  case atStart => exact ⟨0, Nat.zero_le _, rfl, KeepR.refl _, lfU, arow, BU⟩
  case round =>
    clear lfU arow BU
    obtain ⟨k, hk, rfl, hkr, hlf, har, hbu⟩ := hrel
    by_cases hlt : k < 14
    · obtain ⟨w1', w2', w3', w4', w5'⟩ := HG.out k hlt
      have c1 := har.cell hlt
      have hrow : ∃ F, wr.rowIs (GG k) 3 (DG k) F := by
        obtain ⟨F, hF⟩ := w5'
        exact hkr _ _ _ F hF
      have SP := spoil_rows (GG k) (NG k) (DG k) 9 wr hrow w3' w4'
      have HNX : Hid (∀ q, KeepR wr q → OnlyB (GG k) wr q → KeepR U q ∧ Lst q af nf2 cf2 (flatD d) ∧ q.rowIs u9.heap.size 26 14 (fun i => .slice (some ⟨GG i, 0, none⟩) (NG i) (DG i)) ∧ Below u1.heap.size u1 q) := fun q h1 h2 => by
        refine ⟨hkr.trans h1, h2.lst hlf (fun b o e => ?_), h2.row har (by omega), h2.bel _ _ w1' hbu⟩
        have := HFR.out b o e
        omega
      have kk0 : (0 : Int) ≤ (k : Int) := by omega
      have kk1 : (k : Int) < 14 := by omega
      have kk2 : k < 14 := hlt
      clear hkr hlf har hbu hrow w1' w2' w3' w4' w5'
      generalize GG k = gk at *
      generalize NG k = nk at *
      generalize DG k = dk at *
      go_wp2_with fail
      refine SP.mono ?_
      rintro e q ⟨rfl, q1, q2⟩
      obtain ⟨z1, z2, z3, z4⟩ := HNX.out q q1 q2
      clear SP HNX
      go_wp2_with fail
      go_roundw
      case rel => exact ⟨k + 1, by omega, by go_num, z1, z2, z3, z4⟩
      case measure => simp [intOf]; omega
    · have hk14 : ¬ (k : Int) < 14 := by omega
      have SW := HSPW.out wr hkr hlf hbu
      clear HSPW HG har hkr hlf
      go_wp2_with fail
      refine SW.mono ?_
      rintro e z1 ⟨rfl, lz, bz⟩
      have Tz := T.trans (bz.mono T.size)
      have hTz := hal.trans (Tz.mono hal.size)
      obtain ⟨f0, f1, f2, f3, f4, f5, f6, f7⟩ := KA.out _ Tz
      have RF := rflat_calls xn H xm a1 k1 a2 k2 d1 e1 d2 e2 d z1 (KP.out _ hTz) i2 j2 o2
      simp only [Pup.val, Pup.cells, rpup] at RF
      clear SW
      go_wp2_with fail
      refine RF.mono ?_
      rintro e z2 ⟨aG, nG, cG, rfl, hnG, lG, hz2, _⟩
      have bz2 := bz.trans (hz2.mono bz.size)
      have lz2 := lz.below hz2 (Nat.le_refl _)
      clear RF f0 f1 f2 f3 f4 f5 f6 f7 bz lz hz2
      go_wp2_with fail
      refine (eq_calls _ _ _ _ _ _ _ _ _ lG (lF.below bz2 (Nat.le_refl _)) (by omega)).mono ?_
      rintro e z3 ⟨rfl, m3, hz3⟩
      rw [decide_eq_true rfl]
      have bz3 : Below u1.heap.size u1 z3 := hz3 ▸ below_drewN bz2 m3
      have lz3 : Lst z3 af nf2 cf2 (flatD d) := hz3 ▸ lz2.drewN m3
      clear hz3 lz2 bz2 lG
      go_wp2_with fail
      refine (eq_calls _ _ _ _ _ _ _ _ _ lz3 (lF.below bz3 (Nat.le_refl _)) (by omega)).mono ?_
      rintro e z4 ⟨rfl, m4, hz4⟩
      rw [decide_eq_true rfl]
      have bz4 : Below u1.heap.size u1 z4 := hz4 ▸ below_drewN bz3 m4
      clear hz4 lz3 bz3
      go_wp2_with fail
      refine (eq_calls _ _ _ _ _ _ _ _ _ (l5.below bz4 (Nat.le_refl _)) (lW.below bz4 (Nat.le_refl _)) (by omega)).mono ?_
      rintro e z5 ⟨rfl, m5, hz5⟩
      rw [decide_eq_true rfl]
      have bz5 : Below u1.heap.size u1 z5 := hz5 ▸ below_drewN bz4 m5
      clear hz5 bz4
      have T5 := T.trans (bz5.mono T.size)
      obtain ⟨x0, x1⟩ := KE.out _ T5
      have hX5 := KX.out _ (hal.trans (T5.mono hal.size))
      go_wp2_with fail
      refine (eq_calls _ _ _ _ _ _ _ _ _ hX5.i (l9.below bz5 (Nat.le_refl _)) (by dsimp only; omega)).mono ?_
      rintro e z6 ⟨rfl, m6, hz6⟩
      rw [decide_eq_true rfl]
      have bz6 : Below u1.heap.size u1 z6 := hz6 ▸ below_drewN bz5 m6
      clear hz6 bz5 x0 x1 hX5 T5
      have T6 := T.trans (bz6.mono T.size)
      obtain ⟨x0, x1⟩ := KE.out _ T6
      have hX6 := KX.out _ (hal.trans (T6.mono hal.size))
      go_wp2_with fail
      refine (eq_calls _ _ _ _ _ _ _ _ _ hX6.o (l10.below bz6 (Nat.le_refl _)) (by dsimp only; omega)).mono ?_
      rintro e z7 ⟨rfl, m7, hz7⟩
      rw [decide_eq_true rfl]
      have bz7 : Below u1.heap.size u1 z7 := hz7 ▸ below_drewN bz6 m7
      have T7 := T.trans (bz7.mono T.size)
      clear hz7
      go_wp2_with fail
      go_ret
      exact ⟨rfl, hal.trans (T7.mono hal.size)⟩
end Go.Proofs.YtimciamfgpdjlaaGreat.Fx

/- ListsOwn returns true, whatever is handed in. -/
namespace Go.Proofs.YtimciamfgpdjlaaGreat.Fx
open Go.RowKit

theorem listsOwn_any (p : Pup) (d : PD) (x : Exm) (IX OX : List Int) (a : Option Addr) (n c : Nat) (xs : List Int) (w : World) (hp : InPup w p d) (hx : InEx w x IX OX) (hl : Lst w a n c xs) :
    Calls Tryz.prog 5 #[p.val, x.val, .slice a n c] w fun e w' => e = .returned (.bool true) ∧ Below w.heap.size w w' := listsOwn_core p d x IX OX a n c xs w hp hx hl
end Go.Proofs.YtimciamfgpdjlaaGreat.Fx

/- ListsOwn holds: whatever pupil, example and list are handed in, it returns true: what is told shares nothing with what was handed in, which stays as it was; no condition. -/
namespace Go.Proofs.YtimciamfgpdjlaaGreat.listsOwn
open Go.ChangeShapes Go.WideShapes Go.ChangeAt Go.RowKit
set_option linter.unusedVariables false

set_option maxRecDepth 100000 in
theorem lifted (os : Os) (started : os.Started) (H : Type) (enc : TypeId × Value → H) :
    ReturnsInHanded {} Tryz.checked os 5 .any (Rows.listsOwnSpec.pre6 enc Tryz.prog Tryz.f5 Rows.listsOwnRow.domain false) (Rows.listsOwnSpec.post enc Tryz.prog Tryz.f5 false true false false) := by
  refine returnsInHanded_of_change (C := Tryz.checked) Fx.own started (by kernel_rfl) Tryz.func5
    (ChangeSpec.witness6 (enc := enc) (C := Tryz.checked) false ⟨#[], #[.agg #[.int .i64 0, .int .i64 0, .slice none 0 0, .int .i64 0, .int .i64 0, .slice none 0 0, .slice none 0 0, .slice none 0 0], .agg #[.slice none 0 0, .slice none 0 0], .slice none 0 0], []⟩ 8 (by kernel_rfl) (by kernel_rfl) (by kernel_rfl) (by kernel_rfl)) ?_
  intro W base args ds gs before hval0 hW hcnd _
  have hval : ∀ (j : Nat) t v, Tryz.f5.params[j]? = some t → args[j]? = some v → Value.okWide Tryz.prog W .any base t v := hval0
  have hW' := hW
  obtain ⟨p, q, hA0, hV, rfl, hfz, hnd⟩ := hW
  have hA : DataW.TrodAll enc Tryz.prog W 0 (fun _ => true) true Tryz.f5.params.toList args.toList ds p := hA0
  skip
  rw [Tryz.params5] at hA hval
  obtain ⟨v0, vs0, d0, ds0, p0, q0, hargs, rfl, rfl, h0, r0⟩ := trodAll_cons hA
  obtain ⟨v1, vs1, d1, ds1, p1, q1, rfl, rfl, rfl, h1, r1⟩ := trodAll_cons r0
  obtain ⟨v2, vs2, d2, ds2, p2, q2, rfl, rfl, rfl, h2, r2⟩ := trodAll_cons r1
  obtain ⟨rfl, rfl, rfl⟩ := trodAll_nil r2
  obtain rfl : args = #[v0, v1, v2] := by cases args; simp_all
  obtain ⟨rfl, rfl⟩ := trodVars_none hV
  have k0 := h0
  have lt0 : ∀ x ∈ p0, x.block < W.heap.size := by obtain ⟨m, hm⟩ := k0; exact DataW.trod_lt m _ _ _ hm
  obtain ⟨P0, D0, rfl, w0⟩ := Fx.openPup (hval 0 62 v0 rfl rfl) h0
  have k1 := h1
  have lt1 : ∀ x ∈ p1, x.block < W.heap.size := by obtain ⟨m, hm⟩ := k1; exact DataW.trod_lt m _ _ _ hm
  obtain ⟨E1, I1, O1, rfl, w1⟩ := Fx.openEx (hval 1 64 v1 rfl rfl) h1
  have k2 := h2
  have lt2 : ∀ x ∈ p2, x.block < W.heap.size := by obtain ⟨m, hm⟩ := k2; exact DataW.trod_lt m _ _ _ hm
  obtain ⟨a2, len2, cap2, z2, rfl, w2⟩ := Fx.openInts (hval 2 26 v2 rfl rfl) h2
  clear hA0 hval0
  refine (Fx.listsOwn_any P0 D0 E1 I1 O1 a2 len2 cap2 z2 W w0 w1 w2.1).mono fun e W' ⟨he, bel⟩ => ?_
  subst he
  exact ⟨_, rfl, _, _, _, [], _, [], hW', trodAll_mk1 (shut_bool Tryz.underlying4 _), (trodAll_cons_mk (Below.trod Fx.laidOut (by kernel_rfl) (of_decide_eq_true (by kernel_rfl)) k0 bel lt0) (trodAll_cons_mk (Below.trod Fx.laidOut (by kernel_rfl) (of_decide_eq_true (by kernel_rfl)) k1 bel lt1) (trodAll_cons_mk (Below.trod Fx.laidOut (by kernel_rfl) (of_decide_eq_true (by kernel_rfl)) k2 bel lt2) trodAll_mk0))), rfl, bel.frame _, fun h => by cases h⟩

theorem over : Rows.listsOwnRow.holds Tryz.pinned (OpenSpec.ofChange Rows.listsOwnSpec) :=
  OpenClaim.holds_of_wide 5 Tryz.f5 rfl rfl rfl rfl rfl rfl rfl ⟨rfl, rfl, rfl, rfl, rfl⟩ rfl rfl rfl rfl rfl (by kernel_rfl) Tryz.func5 (by kernel_rfl)
    (of_decide_eq_true (by kernel_rfl)) (by unfold Func.isWrapper; first | (rw [if_pos (by decide +kernel)]; kernel_rfl) | (rw [if_neg (by decide +kernel)]; exact ⟨rfl, rfl⟩))
    (fun os started H enc _ => lifted os started H enc)
end Go.Proofs.YtimciamfgpdjlaaGreat.listsOwn

namespace Go.Proofs.YtimciamfgpdjlaaGreat
theorem listsOwn_holds : Rows.ListsOwnSaid := listsOwn.over
end Go.Proofs.YtimciamfgpdjlaaGreat
