/- What pupil.Grad returns. -/
import Derived.Test.YtimciamfgpdjlaaGreatJ02
import Derived.Test.YtimciamfgpdjlaaGreatJ03
import Derived.WalkKit
import Derived.Test.YtimciamfgpdjlaaGreatJ00
namespace Go.Proofs.YtimciamfgpdjlaaGreat.Fx
open Go.RowKit

/-- What is to be learnt: of the hidden ones; and all of it. -/
def graG (d : PD) (xs ys : List Int) (I H O k : Nat) : Int := if (hidL d xs I H).getD k 0 = 0 then 0 else backG d.X2 (difL d xs ys I H O) O H k
def graL (d : PD) (xs ys : List Int) (I H O : Nat) : List Int := (List.range H).map (graG d xs ys I H O)
def graD (d : PD) (xs ys : List Int) (I H O : Nat) : PD :=
  ⟨(List.range (H * I)).map (outerG (graL d xs ys I H O) xs I), (List.range (O * H)).map (outerG (difL d xs ys I H O) (hidL d xs I H) H), graL d xs ys I H O, difL d xs ys I H O⟩

theorem grown8 (w : World) (b : Nat) (v0 v1 v2 v3 v4 v5 v6 v7 : Value) :
    w.grownBy ((((((((w.setCell ⟨b, 0, none⟩ v0).setCell ⟨b, 1, none⟩ v1).setCell ⟨b, 2, none⟩ v2).setCell ⟨b, 3, none⟩ v3).setCell ⟨b, 4, none⟩ v4).setCell ⟨b, 5, none⟩ v5).setCell ⟨b, 6, none⟩ v6).setCell ⟨b, 7, none⟩ v7) (some b) :=
  grown1 (grown1 (grown1 (grown1 (grown1 (grown1 (grown1 (grown1 (World.grownBy.refl w _) 0 v0) 1 v1) 2 v2) 3 v3) 4 v4) 5 v5) 6 v6) 7 v7


set_option maxHeartbeats 1600000 in
theorem pgrad_bad (p : Pup) (d : PD) (x : Exm) (w : World) (hp : InPup w p d) (hne : exI p d x.n x.m ≠ 0) :
    Calls Tryz.prog 33 #[p.val, x.val] w fun e w' => e = .returned (.tuple #[noPup.val, .int .i64 (exI p d x.n x.m)]) ∧ Below w.heap.size w w' := by
  have hal0 := low_alloc w (.cells p.cells 62)
  have hal1 := hal0.alloc hal0.size (.cells #[.slice x.a x.n x.k, .slice x.b x.m x.t] 64)
  have hal := hal1.alloc hal1.size (.cells #[.int .i64 0, .int .i64 0, .slice none 0 0, .int .i64 0, .int .i64 0, .slice none 0 0, .slice none 0 0, .slice none 0 0] 62)
  have hcall := pboth_calls p d x _ (hp.below hal (Nat.le_refl _))
  have hst := fn8_alloc ((w.alloc (.cells p.cells 62)).alloc (.cells #[.slice x.a x.n x.k, .slice x.b x.m x.t] 64)) (.int .i64 0) (.int .i64 0) (.slice none 0 0) (.int .i64 0) (.int .i64 0) (.slice none 0 0) (.slice none 0 0) (.slice none 0 0) 62
  clear hal0 hal1 hp
  have hE' : (exI p d x.n x.m != 0) = true := by rw [bne_iff_ne]; exact hne
  generalize exI p d x.n x.m = E at *
  obtain ⟨r1, c1, a1, n1, k1, r2, c2, a2, n2, k2, d1, m1, t1, d2, m2, t2⟩ := p
  obtain ⟨xa, xn, xk, xb, xm, xt⟩ := x
  simp only [Pup.val, Pup.cells, Exm.val] at *
  simp at hst
  go_enter Tryz.func33, Tryz.ntmps33
  go_wp2_with fail
  refine hcall.mono ?_
  rintro e w1 ⟨rfl, hw1⟩
  have hst1 := rowIs_below hst hw1 (by simp)
  obtain ⟨f0, f1, f2, f3, f4, f5, f6, f7⟩ := fn8_box hst1
  have g0 := hst1.frozen 0
  have g1 := hst1.frozen 1
  have g2 := hst1.frozen 2
  have g3 := hst1.frozen 3
  have g4 := hst1.frozen 4
  have g5 := hst1.frozen 5
  have g6 := hst1.frozen 6
  have g7 := hst1.frozen 7
  have hbw := hal.trans (hw1.mono hal.size)
  have hb8 := (((((((hbw.setCell (p := ⟨w.heap.size + 1 + 1, 0, none⟩) (by simp; omega) (.int .i64 0)).setCell (p := ⟨w.heap.size + 1 + 1, 1, none⟩) (by simp; omega) (.int .i64 0)).setCell (p := ⟨w.heap.size + 1 + 1, 2, none⟩) (by simp; omega) (.slice none 0 0)).setCell (p := ⟨w.heap.size + 1 + 1, 3, none⟩) (by simp; omega) (.int .i64 0)).setCell (p := ⟨w.heap.size + 1 + 1, 4, none⟩) (by simp; omega) (.int .i64 0)).setCell (p := ⟨w.heap.size + 1 + 1, 5, none⟩) (by simp; omega) (.slice none 0 0)).setCell (p := ⟨w.heap.size + 1 + 1, 6, none⟩) (by simp; omega) (.slice none 0 0)).setCell (p := ⟨w.heap.size + 1 + 1, 7, none⟩) (by simp; omega) (.slice none 0 0)
  have hst8 := fn8_set8 hst1 (.int .i64 0) (.int .i64 0) (.slice none 0 0) (.int .i64 0) (.int .i64 0) (.slice none 0 0) (.slice none 0 0) (.slice none 0 0)
  clear hcall hw1 hal hst
  go_wp2
  refine (fun (key : ∀ wz : World, wz.rowIs (w.heap.size + 1 + 1) 62 8 (fn8 (.int .i64 0) (.int .i64 0) (.slice none 0 0) (.int .i64 0) (.int .i64 0) (.slice none 0 0) (.slice none 0 0) (.slice none 0 0)) → Below w.heap.size w wz → bodyPost Tryz.prog Tryz.f33 _ Exit.ret _ wz) => (by first | exact key _ hst8 hb8 | exact key _ hst1 hbw)) ?_
  clear hst1 hbw hst8 hb8 f0 f1 f2 f3 f4 f5 f6 f7
  intro wz hq hbq
  obtain ⟨q0, q1, q2, q3, q4, q5, q6, q7⟩ := fn8_box hq
  exact bodyPost_ret (v := .tuple #[noPup.val, .int .i64 E]) (by simp [results, Tryz.results33, go_sem, noPup, Pup.val, Pup.cells, q0, q1, q2, q3, q4, q5, q6, q7]) rfl ⟨rfl, hbq⟩

set_option maxHeartbeats 3200000 in
theorem pgrad_good (I H O : Nat) (a1 : Option Addr) (k1 : Nat) (a2 : Option Addr) (k2 : Nat) (d1 : Option Addr) (e1 : Nat) (d2 : Option Addr) (e2 : Nat) (d : PD) (v : Option Addr) (cv : Nat) (xs : List Int) (u : Option Addr) (cu : Nat) (ys : List Int) (w : World) (h : InPup w (rpup I H O a1 k1 a2 k2 d1 e1 d2 e2) d) (hv : Lst w v I cv xs) (hu : Lst w u O cu ys) (hr : RightD d) (i1 : 1 ≤ I) (i2 : I ≤ 4) (j1 : 1 ≤ H) (j2 : H ≤ 4) (o1 : 1 ≤ O) (o2 : O ≤ 4) :
    Calls Tryz.prog 33 #[(rpup I H O a1 k1 a2 k2 d1 e1 d2 e2).val, .agg #[.slice v I cv, .slice u O cu]] w fun e w' => ∃ x1 x2 y1 y2, e = .returned (.tuple #[(rpup I H O x1 (H * I) x2 (O * H) y1 H y2 O).val, .int .i64 0]) ∧ InPup w' (rpup I H O x1 (H * I) x2 (O * H) y1 H y2 O) (graD d xs ys I H O) ∧ Below w.heap.size w w' := by
  have hal0 := low_alloc w (.cells (rpup I H O a1 k1 a2 k2 d1 e1 d2 e2).cells 62)
  have hal1 := hal0.alloc hal0.size (.cells #[.slice v I cv, .slice u O cu] 64)
  have hal := hal1.alloc hal1.size (.cells #[.int .i64 0, .int .i64 0, .slice none 0 0, .int .i64 0, .int .i64 0, .slice none 0 0, .slice none 0 0, .slice none 0 0] 62)
  have hst := fn8_alloc ((w.alloc (.cells (rpup I H O a1 k1 a2 k2 d1 e1 d2 e2).cells 62)).alloc (.cells #[.slice v I cv, .slice u O cu] 64)) (.int .i64 0) (.int .i64 0) (.slice none 0 0) (.int .i64 0) (.int .i64 0) (.slice none 0 0) (.slice none 0 0) (.slice none 0 0) 62
  have hc0 := pboth_calls _ d ⟨v, I, cv, u, O, cu⟩ _ (h.below hal (Nat.le_refl _))
  have hz : exI (rpup I H O a1 k1 a2 k2 d1 e1 d2 e2) d I O = 0 := by
    unfold exI
    rw [if_pos (pchk_right i1 i2 j1 j2 o1 o2 hr), if_pos ⟨rfl, rfl⟩]
  rw [hz] at hc0
  have HC1 : Hid (∀ q, Below w.heap.size w q → Calls Tryz.prog 83 #[(rpup I H O a1 k1 a2 k2 d1 e1 d2 e2).val, .slice v I cv] q fun e w' => ∃ ah ay, e = .returned (.tuple #[.slice ah H H, .slice ay O O]) ∧ Lst w' ah H H (hidL d xs I H) ∧ Lst w' ay O O (outYL d xs I H O) ∧ Below q.heap.size q w') :=
    fun q hq => forward_calls I H O a1 k1 a2 k2 d1 e1 d2 e2 d v cv xs q (h.below hq (Nat.le_refl _)) (hv.below hq (Nat.le_refl _)) hr i1 i2 j1 j2 o1 o2
  have HC2 : Hid (∀ q ad, Below w.heap.size w q → Lst q ad O O (difL d xs ys I H O) → Calls Tryz.prog 86 #[.agg #[.int .i64 O, .int .i64 H, .slice a2 (O * H) k2], .slice ad O O] q fun e w' => ∃ g, e = .returned (.tuple #[.slice (some ⟨g, 0, none⟩) H H, .int .i64 0]) ∧ q.heap.size ≤ g ∧ w'.rowIs g 3 H (rowTo (backG d.X2 (difL d xs ys I H O) O H) H) ∧ Below q.heap.size q w') :=
    fun q ad hq hl => vBack_row O H a2 k2 d.X2 ad O _ q (h.below hq (Nat.le_refl _)).x2 hl o1 o2 j1 j2 hr.2.1
  have HV : Hid (∀ q, Below w.heap.size w q → Lst q v I cv xs) := fun q hq => hv.below hq (Nat.le_refl _)
  have HU : Hid (∀ q, Below w.heap.size w q → Lst q u O cu ys) := fun q hq => hu.below hq (Nat.le_refl _)
  clear h hv hu hz hal0 hal1
  simp only [Pup.val, Pup.cells, rpup, Exm.val] at *
  simp at hst
  generalize hB : (((w.alloc (.cells #[.int .i64 H, .int .i64 I, .slice a1 (H * I) k1, .int .i64 O, .int .i64 H, .slice a2 (O * H) k2, .slice d1 H e1, .slice d2 O e2] 62)).alloc (.cells #[.slice v I cv, .slice u O cu] 64)).alloc (.cells #[.int .i64 0, .int .i64 0, .slice none 0 0, .int .i64 0, .int .i64 0, .slice none 0 0, .slice none 0 0, .slice none 0 0] 62)) = W3 at hal hst hc0
  have hWs : W3.heap.size = w.heap.size + 1 + 1 + 1 := by rw [← hB]; simp
  have KA : Hid (∀ q, Below W3.heap.size W3 q → Box8 q w.heap.size (.int .i64 H) (.int .i64 I) (.slice a1 (H * I) k1) (.int .i64 O) (.int .i64 H) (.slice a2 (O * H) k2) (.slice d1 H e1) (.slice d2 O e2)) := by
    intro q hq
    rw [hWs, ← hB] at hq
    exact boxA (B := w.heap.size + 1) (((Below.refl _ _).alloc (by simp) _).trans (hq.mono (by omega))) (by omega)
  have KE : Hid (∀ q, Below W3.heap.size W3 q → q.cell? ⟨w.heap.size + 1, 0, none⟩ = some (.slice v I cv) ∧ q.cell? ⟨w.heap.size + 1, 1, none⟩ = some (.slice u O cu)) := by
    intro q hq
    rw [hWs, ← hB] at hq
    exact boxE (B := w.heap.size + 1 + 1) (((Below.refl _ _).alloc (by simp) _).trans (hq.mono (by omega))) (by omega)
  have KR : Hid (∀ q, Below W3.heap.size W3 q → q.rowIs (w.heap.size + 1 + 1) 62 8 (fn8 (.int .i64 0) (.int .i64 0) (.slice none 0 0) (.int .i64 0) (.int .i64 0) (.slice none 0 0) (.slice none 0 0) (.slice none 0 0))) := fun q hq => rowIs_below hst hq (by omega)
  have KW : Hid (∀ q, Below W3.heap.size W3 q → Below w.heap.size w q) := fun q hq => hal.trans (hq.mono hal.size)
  have hB' : (((w.alloc (.cells #[.int .i64 H, .int .i64 I, .slice a1 (H * I) k1, .int .i64 O, .int .i64 H, .slice a2 (O * H) k2, .slice d1 H e1, .slice d2 O e2] 62)).alloc (.cells #[.slice v I cv, .slice u O cu] 64)).alloc (.cells #[.int .i64 0, .int .i64 0, .slice none 0 0, .int .i64 0, .int .i64 0, .slice none 0 0, .slice none 0 0, .slice none 0 0] 62)) = W3 := hB
  have HB : Hid ((((w.alloc (.cells #[.int .i64 H, .int .i64 I, .slice a1 (H * I) k1, .int .i64 O, .int .i64 H, .slice a2 (O * H) k2, .slice d1 H e1, .slice d2 O e2] 62)).alloc (.cells #[.slice v I cv, .slice u O cu] 64)).alloc (.cells #[.int .i64 0, .int .i64 0, .slice none 0 0, .int .i64 0, .int .i64 0, .slice none 0 0, .slice none 0 0, .slice none 0 0] 62)) = W3) := hB
  clear hB hB' hst hal
  have s1 := prod_sideN j2 i2
  have s2 := prod_sideN o2 j2
  go_enter Tryz.func33, Tryz.ntmps33
  go_wp2_with fail
  rw [HB.out]
  refine hc0.mono ?_
  rintro e w1 ⟨rfl, T1⟩
  obtain ⟨f0, f1, f2, f3, f4, f5, f6, f7⟩ := KA.out _ T1
  obtain ⟨x0, x1⟩ := KE.out _ T1
  have hc1 := HC1.out _ (KW.out _ T1)
  clear hc0
  go_wp2_with fail
  refine hc1.mono ?_
  rintro e w2 ⟨ah, ay, rfl, hh, hy, hw2⟩
  have T2 := T1.trans (hw2.mono T1.size)
  clear hc1 hw2 T1 f0 f1 f2 f3 f4 f5 f6 f7 x0 x1
  obtain ⟨x0, x1⟩ := KE.out _ T2
  have hc2 := less_calls ay u O O cu _ ys w2 hy (HU.out _ (KW.out _ T2)) (by omega)
  go_wp2_with fail
  refine hc2.mono ?_
  rintro e w3 ⟨gd, rfl, hgd, hd, hw3⟩
  have hh3 := hh.below hw3 (Nat.le_refl _)
  have T3 := T2.trans (hw3.mono T2.size)
  have hd3 : Lst w3 (some ⟨gd, 0, none⟩) O O (difL d xs ys I H O) := hd
  have hgd' : W3.heap.size ≤ gd := Nat.le_trans T2.size hgd
  have hg3' : W3.heap.size ≤ w3.heap.size := T3.size
  clear hc2 hw3 T2 x0 x1 hh hy hd
  obtain ⟨f0, f1, f2, f3, f4, f5, f6, f7⟩ := KA.out _ T3
  have hc3 := HC2.out _ (some ⟨gd, 0, none⟩) (KW.out _ T3) hd3
  go_wp2_with fail
  refine hc3.mono ?_
  rintro e w4 ⟨g, rfl, hg, hrow, hw4⟩
  clear hc3 f0 f1 f2 f3 f4 f5 f6 f7
  go_wp2
  go_loopw [44] (fun i wr => ∃ k : Nat, k ≤ H ∧ i = .int .i64 k ∧ wr.rowIs g 3 H (midTo (graG d xs ys I H O) (backG d.X2 (difL d xs ys I H O) O H) k) ∧ Below w3.heap.size w3 wr) (fun i _ => H - (intOf i).toNat)
  case atStart => exact ⟨0, Nat.zero_le _, rfl, midTo_start hrow, hw4⟩
  case round =>
    obtain ⟨k, hk, rfl, hrow, hbel⟩ := hrel
    by_cases hlt : k < H
    · have c3 := midTo_cell hrow hlt
      have f3 := hrow.frozen k
      obtain ⟨b1, o1', x, rfl, sb1, c1, HX⟩ := hh3.at1b hbel (Nat.le_refl _) hlt
      by_cases hx : x = 0
      · have hx' : (x == 0) = true := by simpa using hx
        have HG : Hid (graG d xs ys I H O k = 0) := by show (if (hidL d xs I H).getD k 0 = 0 then 0 else backG d.X2 (difL d xs ys I H O) O H k) = 0; rw [HX.out]; exact if_pos hx
        clear hx
        go_wp2
        go_roundw
        case rel =>
          have st := midTo_step hrow
          rw [HG.out] at st
          exact ⟨k + 1, by omega, by go_num, st, hbel.setCell (by exact hg) _⟩
        case measure => simp [intOf]; omega
      · have hx' : (x == 0) = false := by simpa using hx
        have HG : Hid (graG d xs ys I H O k = backG d.X2 (difL d xs ys I H O) O H k) := by show (if (hidL d xs I H).getD k 0 = 0 then 0 else backG d.X2 (difL d xs ys I H O) O H k) = _; rw [HX.out]; exact if_neg hx
        go_wp2
        go_roundw
        case rel => exact ⟨k + 1, by omega, by go_num, midTo_skip hrow HG.out, hbel⟩
        case measure => simp [intOf]; omega
    · obtain rfl : k = H := by omega
      have hgl : Lst wr (some ⟨g, 0, none⟩) k k (graL d xs ys I k O) := midTo_end hrow
      have T5 := T3.trans (hbel.mono T3.size)
      have hh5 := hh3.below hbel (Nat.le_refl _)
      have hd5 := hd3.below hbel (Nat.le_refl _)
      clear hrow hbel hh3 hd3 hw4 T3
      obtain ⟨x0, x1⟩ := KE.out _ T5
      have hc5 := vOuter_good (some ⟨g, 0, none⟩) v k k I cv _ xs wr hgl (HV.out _ (KW.out _ T5)) j1 j2 i1 i2
      go_wp2_with fail
      refine hc5.mono ?_
      rintro e w6 ⟨gw1, rfl, hgw1, hl6, hw6⟩
      have T6 := T5.trans (hw6.mono T5.size)
      have hal6 := low_alloc w6 (.cells #[.int .i64 k, .int .i64 I, .slice (some ⟨gw1, 0, none⟩) (k * I) (k * I)] 60)
      have T7 := T6.trans (hal6.mono T6.size)
      have hb67 := hw6.trans (hal6.mono hw6.size)
      have hc7 := vOuter_good (some ⟨gd, 0, none⟩) ah O O k k _ _ _ (hd5.below hb67 (Nat.le_refl _)) (hh5.below hb67 (Nat.le_refl _)) o1 o2 j1 j2
      clear hc5 x0 x1
      go_wp2_with fail
      refine hc7.mono ?_
      rintro e w8 ⟨gw2, rfl, hgw2, hl8, hw8⟩
      have hal8 := low_alloc w8 (.cells #[.int .i64 O, .int .i64 k, .slice (some ⟨gw2, 0, none⟩) (O * k) (O * k)] 60)
      have T8 := T7.trans (hw8.mono T7.size)
      have T9 := T8.trans (hal8.mono T8.size)
      have hb79 := hw8.trans (hal8.mono hw8.size)
      obtain ⟨m0, m1, m2⟩ := box3 _ _ _ _ hb79 (by simp)
      have hg9 := (hgl.below hb67 (Nat.le_refl _)).below hb79 (Nat.le_refl _)
      have hd9 := (hd5.below hb67 (Nat.le_refl _)).below hb79 (Nat.le_refl _)
      have hl69 := (hl6.below hal6 (Nat.le_refl _)).below hb79 (Nat.le_refl _)
      have hl89 := hl8.below hal8 (Nat.le_refl _)
      have hr9 := KR.out _ T9
      obtain ⟨q0, q1, q2, q3, q4, q5, q6, q7⟩ := fn8_box hr9
      have g0 := hr9.frozen 0
      have g1 := hr9.frozen 1
      have g2 := hr9.frozen 2
      have g3 := hr9.frozen 3
      have g4 := hr9.frozen 4
      have g5 := hr9.frozen 5
      have g6 := hr9.frozen 6
      have g7 := hr9.frozen 7
      have hw1s : W3.heap.size ≤ gw1 := Nat.le_trans T5.size hgw1
      have hw2s : W3.heap.size ≤ gw2 := Nat.le_trans T7.size hgw2
      have hgs : W3.heap.size ≤ g := Nat.le_trans hg3' hg
      clear hc7 hb67 hb79 hgl hd5 hh5 hl6 hl8 T5 T6 T7 T8 hal6 hal8 hw6 hw8
      go_wp2
      have hq := fn8_set8 hr9 (.int .i64 k) (.int .i64 I) (.slice (some ⟨gw1, 0, none⟩) (k * I) (k * I)) (.int .i64 O) (.int .i64 k) (.slice (some ⟨gw2, 0, none⟩) (O * k) (O * k)) (.slice (some ⟨g, 0, none⟩) k k) (.slice (some ⟨gd, 0, none⟩) O O)
      have hgr := grown8 (w8.alloc (.cells #[.int .i64 O, .int .i64 k, .slice (some ⟨gw2, 0, none⟩) (O * k) (O * k)] 60)) (w.heap.size + 1 + 1) (.int .i64 k) (.int .i64 I) (.slice (some ⟨gw1, 0, none⟩) (k * I) (k * I)) (.int .i64 O) (.int .i64 k) (.slice (some ⟨gw2, 0, none⟩) (O * k) (O * k)) (.slice (some ⟨g, 0, none⟩) k k) (.slice (some ⟨gd, 0, none⟩) O O)
      refine (fun (key : ∀ wz : World, wz.rowIs (w.heap.size + 1 + 1) 62 8 (fn8 (.int .i64 k) (.int .i64 I) (.slice (some ⟨gw1, 0, none⟩) (k * I) (k * I)) (.int .i64 O) (.int .i64 k) (.slice (some ⟨gw2, 0, none⟩) (O * k) (O * k)) (.slice (some ⟨g, 0, none⟩) k k) (.slice (some ⟨gd, 0, none⟩) O O)) → (w8.alloc (.cells #[.int .i64 O, .int .i64 k, .slice (some ⟨gw2, 0, none⟩) (O * k) (O * k)] 60)).grownBy wz (some (w.heap.size + 1 + 1)) → bodyPost Tryz.prog Tryz.f33 _ Exit.ret _ wz) => key _ hq hgr) ?_
      clear hq hgr hr9 q0 q1 q2 q3 q4 q5 q6 q7 g0 g1 g2 g3 g4 g5 g6 g7 m0 m1 m2
      intro wz hq hgr
      obtain ⟨q0, q1, q2, q3, q4, q5, q6, q7⟩ := fn8_box hq
      have hbw := KW.out _ T9
      refine bodyPost_ret (v := .tuple #[(rpup I k O (some ⟨gw1, 0, none⟩) (k * I) (some ⟨gw2, 0, none⟩) (O * k) (some ⟨g, 0, none⟩) k (some ⟨gd, 0, none⟩) O).val, .int .i64 0]) (by simp [results, Tryz.results33, go_sem, rpup, Pup.val, Pup.cells, q0, q1, q2, q3, q4, q5, q6, q7]) rfl ⟨some ⟨gw1, 0, none⟩, some ⟨gw2, 0, none⟩, some ⟨g, 0, none⟩, some ⟨gd, 0, none⟩, rfl, ⟨?_, ?_, ?_, ?_⟩, hbw.grown hgr hbw.size (fun k hk => by simp at hk; omega)⟩
      · exact hl69.grown hgr (by omega)
      · exact hl89.grown hgr (by omega)
      · exact hg9.grown hgr (by omega)
      · exact hd9.grown hgr (by omega)
end Go.Proofs.YtimciamfgpdjlaaGreat.Fx

/- What pupil.Grad returns of right things, and where its lists lie. -/
namespace Go.Proofs.YtimciamfgpdjlaaGreat.Fx
open Go.RowKit

set_option maxHeartbeats 3200000 in
theorem pgrad_at (I H O : Nat) (a1 : Option Addr) (k1 : Nat) (a2 : Option Addr) (k2 : Nat) (d1 : Option Addr) (e1 : Nat) (d2 : Option Addr) (e2 : Nat) (d : PD) (v : Option Addr) (cv : Nat) (xs : List Int) (u : Option Addr) (cu : Nat) (ys : List Int) (w : World) (h : InPup w (rpup I H O a1 k1 a2 k2 d1 e1 d2 e2) d) (hv : Lst w v I cv xs) (hu : Lst w u O cu ys) (hr : RightD d) (i1 : 1 ≤ I) (i2 : I ≤ 4) (j1 : 1 ≤ H) (j2 : H ≤ 4) (o1 : 1 ≤ O) (o2 : O ≤ 4) :
    Calls Tryz.prog 33 #[(rpup I H O a1 k1 a2 k2 d1 e1 d2 e2).val, .agg #[.slice v I cv, .slice u O cu]] w fun e w' => ∃ g1 g2 g3 g4 : Nat, e = .returned (.tuple #[(rpup I H O (some ⟨g1, 0, none⟩) (H * I) (some ⟨g2, 0, none⟩) (O * H) (some ⟨g3, 0, none⟩) H (some ⟨g4, 0, none⟩) O).val, .int .i64 0]) ∧ (w.heap.size ≤ g1 ∧ w.heap.size ≤ g2 ∧ w.heap.size ≤ g3 ∧ w.heap.size ≤ g4) ∧ InPup w' (rpup I H O (some ⟨g1, 0, none⟩) (H * I) (some ⟨g2, 0, none⟩) (O * H) (some ⟨g3, 0, none⟩) H (some ⟨g4, 0, none⟩) O) (graD d xs ys I H O) ∧ Below w.heap.size w w' := by
  have hal0 := low_alloc w (.cells (rpup I H O a1 k1 a2 k2 d1 e1 d2 e2).cells 62)
  have hal1 := hal0.alloc hal0.size (.cells #[.slice v I cv, .slice u O cu] 64)
  have hal := hal1.alloc hal1.size (.cells #[.int .i64 0, .int .i64 0, .slice none 0 0, .int .i64 0, .int .i64 0, .slice none 0 0, .slice none 0 0, .slice none 0 0] 62)
  have hst := fn8_alloc ((w.alloc (.cells (rpup I H O a1 k1 a2 k2 d1 e1 d2 e2).cells 62)).alloc (.cells #[.slice v I cv, .slice u O cu] 64)) (.int .i64 0) (.int .i64 0) (.slice none 0 0) (.int .i64 0) (.int .i64 0) (.slice none 0 0) (.slice none 0 0) (.slice none 0 0) 62
  have hc0 := pboth_calls _ d ⟨v, I, cv, u, O, cu⟩ _ (h.below hal (Nat.le_refl _))
  have hz : exI (rpup I H O a1 k1 a2 k2 d1 e1 d2 e2) d I O = 0 := by
    unfold exI
    rw [if_pos (pchk_right i1 i2 j1 j2 o1 o2 hr), if_pos ⟨rfl, rfl⟩]
  rw [hz] at hc0
  have HC1 : Hid (∀ q, Below w.heap.size w q → Calls Tryz.prog 83 #[(rpup I H O a1 k1 a2 k2 d1 e1 d2 e2).val, .slice v I cv] q fun e w' => ∃ ah ay, e = .returned (.tuple #[.slice ah H H, .slice ay O O]) ∧ Lst w' ah H H (hidL d xs I H) ∧ Lst w' ay O O (outYL d xs I H O) ∧ Below q.heap.size q w') :=
    fun q hq => forward_calls I H O a1 k1 a2 k2 d1 e1 d2 e2 d v cv xs q (h.below hq (Nat.le_refl _)) (hv.below hq (Nat.le_refl _)) hr i1 i2 j1 j2 o1 o2
  have HC2 : Hid (∀ q ad, Below w.heap.size w q → Lst q ad O O (difL d xs ys I H O) → Calls Tryz.prog 86 #[.agg #[.int .i64 O, .int .i64 H, .slice a2 (O * H) k2], .slice ad O O] q fun e w' => ∃ g, e = .returned (.tuple #[.slice (some ⟨g, 0, none⟩) H H, .int .i64 0]) ∧ q.heap.size ≤ g ∧ w'.rowIs g 3 H (rowTo (backG d.X2 (difL d xs ys I H O) O H) H) ∧ Below q.heap.size q w') :=
    fun q ad hq hl => vBack_row O H a2 k2 d.X2 ad O _ q (h.below hq (Nat.le_refl _)).x2 hl o1 o2 j1 j2 hr.2.1
  have HV : Hid (∀ q, Below w.heap.size w q → Lst q v I cv xs) := fun q hq => hv.below hq (Nat.le_refl _)
  have HU : Hid (∀ q, Below w.heap.size w q → Lst q u O cu ys) := fun q hq => hu.below hq (Nat.le_refl _)
  clear h hv hu hz hal0 hal1
  simp only [Pup.val, Pup.cells, rpup, Exm.val] at *
  simp at hst
  generalize hB : (((w.alloc (.cells #[.int .i64 H, .int .i64 I, .slice a1 (H * I) k1, .int .i64 O, .int .i64 H, .slice a2 (O * H) k2, .slice d1 H e1, .slice d2 O e2] 62)).alloc (.cells #[.slice v I cv, .slice u O cu] 64)).alloc (.cells #[.int .i64 0, .int .i64 0, .slice none 0 0, .int .i64 0, .int .i64 0, .slice none 0 0, .slice none 0 0, .slice none 0 0] 62)) = W3 at hal hst hc0
  have hWs : W3.heap.size = w.heap.size + 1 + 1 + 1 := by rw [← hB]; simp
  have KA : Hid (∀ q, Below W3.heap.size W3 q → Box8 q w.heap.size (.int .i64 H) (.int .i64 I) (.slice a1 (H * I) k1) (.int .i64 O) (.int .i64 H) (.slice a2 (O * H) k2) (.slice d1 H e1) (.slice d2 O e2)) := by
    intro q hq
    rw [hWs, ← hB] at hq
    exact boxA (B := w.heap.size + 1) (((Below.refl _ _).alloc (by simp) _).trans (hq.mono (by omega))) (by omega)
  have KE : Hid (∀ q, Below W3.heap.size W3 q → q.cell? ⟨w.heap.size + 1, 0, none⟩ = some (.slice v I cv) ∧ q.cell? ⟨w.heap.size + 1, 1, none⟩ = some (.slice u O cu)) := by
    intro q hq
    rw [hWs, ← hB] at hq
    exact boxE (B := w.heap.size + 1 + 1) (((Below.refl _ _).alloc (by simp) _).trans (hq.mono (by omega))) (by omega)
  have KR : Hid (∀ q, Below W3.heap.size W3 q → q.rowIs (w.heap.size + 1 + 1) 62 8 (fn8 (.int .i64 0) (.int .i64 0) (.slice none 0 0) (.int .i64 0) (.int .i64 0) (.slice none 0 0) (.slice none 0 0) (.slice none 0 0))) := fun q hq => rowIs_below hst hq (by omega)
  have KW : Hid (∀ q, Below W3.heap.size W3 q → Below w.heap.size w q) := fun q hq => hal.trans (hq.mono hal.size)
  have hB' : (((w.alloc (.cells #[.int .i64 H, .int .i64 I, .slice a1 (H * I) k1, .int .i64 O, .int .i64 H, .slice a2 (O * H) k2, .slice d1 H e1, .slice d2 O e2] 62)).alloc (.cells #[.slice v I cv, .slice u O cu] 64)).alloc (.cells #[.int .i64 0, .int .i64 0, .slice none 0 0, .int .i64 0, .int .i64 0, .slice none 0 0, .slice none 0 0, .slice none 0 0] 62)) = W3 := hB
  have HB : Hid ((((w.alloc (.cells #[.int .i64 H, .int .i64 I, .slice a1 (H * I) k1, .int .i64 O, .int .i64 H, .slice a2 (O * H) k2, .slice d1 H e1, .slice d2 O e2] 62)).alloc (.cells #[.slice v I cv, .slice u O cu] 64)).alloc (.cells #[.int .i64 0, .int .i64 0, .slice none 0 0, .int .i64 0, .int .i64 0, .slice none 0 0, .slice none 0 0, .slice none 0 0] 62)) = W3) := hB
  clear hB hB' hst hal
  have s1 := prod_sideN j2 i2
  have s2 := prod_sideN o2 j2
  go_enter Tryz.func33, Tryz.ntmps33
  go_wp2_with fail
  rw [HB.out]
  refine hc0.mono ?_
  rintro e w1 ⟨rfl, T1⟩
  obtain ⟨f0, f1, f2, f3, f4, f5, f6, f7⟩ := KA.out _ T1
  obtain ⟨x0, x1⟩ := KE.out _ T1
  have hc1 := HC1.out _ (KW.out _ T1)
  clear hc0
  go_wp2_with fail
  refine hc1.mono ?_
  rintro e w2 ⟨ah, ay, rfl, hh, hy, hw2⟩
  have T2 := T1.trans (hw2.mono T1.size)
  clear hc1 hw2 T1 f0 f1 f2 f3 f4 f5 f6 f7 x0 x1
  obtain ⟨x0, x1⟩ := KE.out _ T2
  have hc2 := less_calls ay u O O cu _ ys w2 hy (HU.out _ (KW.out _ T2)) (by omega)
  go_wp2_with fail
  refine hc2.mono ?_
  rintro e w3 ⟨gd, rfl, hgd, hd, hw3⟩
  have hh3 := hh.below hw3 (Nat.le_refl _)
  have T3 := T2.trans (hw3.mono T2.size)
  have hd3 : Lst w3 (some ⟨gd, 0, none⟩) O O (difL d xs ys I H O) := hd
  have hgd' : W3.heap.size ≤ gd := Nat.le_trans T2.size hgd
  have hg3' : W3.heap.size ≤ w3.heap.size := T3.size
  clear hc2 hw3 T2 x0 x1 hh hy hd
  obtain ⟨f0, f1, f2, f3, f4, f5, f6, f7⟩ := KA.out _ T3
  have hc3 := HC2.out _ (some ⟨gd, 0, none⟩) (KW.out _ T3) hd3
  go_wp2_with fail
  refine hc3.mono ?_
  rintro e w4 ⟨g, rfl, hg, hrow, hw4⟩
  clear hc3 f0 f1 f2 f3 f4 f5 f6 f7
  go_wp2
  go_loopw [44] (fun i wr => ∃ k : Nat, k ≤ H ∧ i = .int .i64 k ∧ wr.rowIs g 3 H (midTo (graG d xs ys I H O) (backG d.X2 (difL d xs ys I H O) O H) k) ∧ Below w3.heap.size w3 wr) (fun i _ => H - (intOf i).toNat)
  case atStart => exact ⟨0, Nat.zero_le _, rfl, midTo_start hrow, hw4⟩
  case round =>
    obtain ⟨k, hk, rfl, hrow, hbel⟩ := hrel
    by_cases hlt : k < H
    · have c3 := midTo_cell hrow hlt
      have f3 := hrow.frozen k
      obtain ⟨b1, o1', x, rfl, sb1, c1, HX⟩ := hh3.at1b hbel (Nat.le_refl _) hlt
      by_cases hx : x = 0
      · have hx' : (x == 0) = true := by simpa using hx
        have HG : Hid (graG d xs ys I H O k = 0) := by show (if (hidL d xs I H).getD k 0 = 0 then 0 else backG d.X2 (difL d xs ys I H O) O H k) = 0; rw [HX.out]; exact if_pos hx
        clear hx
        go_wp2
        go_roundw
        case rel =>
          have st := midTo_step hrow
          rw [HG.out] at st
          exact ⟨k + 1, by omega, by go_num, st, hbel.setCell (by exact hg) _⟩
        case measure => simp [intOf]; omega
      · have hx' : (x == 0) = false := by simpa using hx
        have HG : Hid (graG d xs ys I H O k = backG d.X2 (difL d xs ys I H O) O H k) := by show (if (hidL d xs I H).getD k 0 = 0 then 0 else backG d.X2 (difL d xs ys I H O) O H k) = _; rw [HX.out]; exact if_neg hx
        go_wp2
        go_roundw
        case rel => exact ⟨k + 1, by omega, by go_num, midTo_skip hrow HG.out, hbel⟩
        case measure => simp [intOf]; omega
    · obtain rfl : k = H := by omega
      have hgl : Lst wr (some ⟨g, 0, none⟩) k k (graL d xs ys I k O) := midTo_end hrow
      have T5 := T3.trans (hbel.mono T3.size)
      have hh5 := hh3.below hbel (Nat.le_refl _)
      have hd5 := hd3.below hbel (Nat.le_refl _)
      clear hrow hbel hh3 hd3 hw4 T3
      obtain ⟨x0, x1⟩ := KE.out _ T5
      have hc5 := vOuter_good (some ⟨g, 0, none⟩) v k k I cv _ xs wr hgl (HV.out _ (KW.out _ T5)) j1 j2 i1 i2
      go_wp2_with fail
      refine hc5.mono ?_
      rintro e w6 ⟨gw1, rfl, hgw1, hl6, hw6⟩
      have T6 := T5.trans (hw6.mono T5.size)
      have hal6 := low_alloc w6 (.cells #[.int .i64 k, .int .i64 I, .slice (some ⟨gw1, 0, none⟩) (k * I) (k * I)] 60)
      have T7 := T6.trans (hal6.mono T6.size)
      have hb67 := hw6.trans (hal6.mono hw6.size)
      have hc7 := vOuter_good (some ⟨gd, 0, none⟩) ah O O k k _ _ _ (hd5.below hb67 (Nat.le_refl _)) (hh5.below hb67 (Nat.le_refl _)) o1 o2 j1 j2
      clear hc5 x0 x1
      go_wp2_with fail
      refine hc7.mono ?_
      rintro e w8 ⟨gw2, rfl, hgw2, hl8, hw8⟩
      have hal8 := low_alloc w8 (.cells #[.int .i64 O, .int .i64 k, .slice (some ⟨gw2, 0, none⟩) (O * k) (O * k)] 60)
      have T8 := T7.trans (hw8.mono T7.size)
      have T9 := T8.trans (hal8.mono T8.size)
      have hb79 := hw8.trans (hal8.mono hw8.size)
      obtain ⟨m0, m1, m2⟩ := box3 _ _ _ _ hb79 (by simp)
      have hg9 := (hgl.below hb67 (Nat.le_refl _)).below hb79 (Nat.le_refl _)
      have hd9 := (hd5.below hb67 (Nat.le_refl _)).below hb79 (Nat.le_refl _)
      have hl69 := (hl6.below hal6 (Nat.le_refl _)).below hb79 (Nat.le_refl _)
      have hl89 := hl8.below hal8 (Nat.le_refl _)
      have hr9 := KR.out _ T9
      obtain ⟨q0, q1, q2, q3, q4, q5, q6, q7⟩ := fn8_box hr9
      have g0 := hr9.frozen 0
      have g1 := hr9.frozen 1
      have g2 := hr9.frozen 2
      have g3 := hr9.frozen 3
      have g4 := hr9.frozen 4
      have g5 := hr9.frozen 5
      have g6 := hr9.frozen 6
      have g7 := hr9.frozen 7
      have hw1s : W3.heap.size ≤ gw1 := Nat.le_trans T5.size hgw1
      have hw2s : W3.heap.size ≤ gw2 := Nat.le_trans T7.size hgw2
      have hgs : W3.heap.size ≤ g := Nat.le_trans hg3' hg
      clear hc7 hb67 hb79 hgl hd5 hh5 hl6 hl8 T5 T6 T7 T8 hal6 hal8 hw6 hw8
      go_wp2
      have hq := fn8_set8 hr9 (.int .i64 k) (.int .i64 I) (.slice (some ⟨gw1, 0, none⟩) (k * I) (k * I)) (.int .i64 O) (.int .i64 k) (.slice (some ⟨gw2, 0, none⟩) (O * k) (O * k)) (.slice (some ⟨g, 0, none⟩) k k) (.slice (some ⟨gd, 0, none⟩) O O)
      have hgr := grown8 (w8.alloc (.cells #[.int .i64 O, .int .i64 k, .slice (some ⟨gw2, 0, none⟩) (O * k) (O * k)] 60)) (w.heap.size + 1 + 1) (.int .i64 k) (.int .i64 I) (.slice (some ⟨gw1, 0, none⟩) (k * I) (k * I)) (.int .i64 O) (.int .i64 k) (.slice (some ⟨gw2, 0, none⟩) (O * k) (O * k)) (.slice (some ⟨g, 0, none⟩) k k) (.slice (some ⟨gd, 0, none⟩) O O)
      refine (fun (key : ∀ wz : World, wz.rowIs (w.heap.size + 1 + 1) 62 8 (fn8 (.int .i64 k) (.int .i64 I) (.slice (some ⟨gw1, 0, none⟩) (k * I) (k * I)) (.int .i64 O) (.int .i64 k) (.slice (some ⟨gw2, 0, none⟩) (O * k) (O * k)) (.slice (some ⟨g, 0, none⟩) k k) (.slice (some ⟨gd, 0, none⟩) O O)) → (w8.alloc (.cells #[.int .i64 O, .int .i64 k, .slice (some ⟨gw2, 0, none⟩) (O * k) (O * k)] 60)).grownBy wz (some (w.heap.size + 1 + 1)) → bodyPost Tryz.prog Tryz.f33 _ Exit.ret _ wz) => key _ hq hgr) ?_
      clear hq hgr hr9 q0 q1 q2 q3 q4 q5 q6 q7 g0 g1 g2 g3 g4 g5 g6 g7 m0 m1 m2
      intro wz hq hgr
      obtain ⟨q0, q1, q2, q3, q4, q5, q6, q7⟩ := fn8_box hq
      have hbw := KW.out _ T9
      refine bodyPost_ret (v := .tuple #[(rpup I k O (some ⟨gw1, 0, none⟩) (k * I) (some ⟨gw2, 0, none⟩) (O * k) (some ⟨g, 0, none⟩) k (some ⟨gd, 0, none⟩) O).val, .int .i64 0]) (by simp [results, Tryz.results33, go_sem, rpup, Pup.val, Pup.cells, q0, q1, q2, q3, q4, q5, q6, q7]) rfl ⟨gw1, gw2, g, gd, rfl, ⟨by omega, by omega, by omega, by omega⟩, ⟨?_, ?_, ?_, ?_⟩, hbw.grown hgr hbw.size (fun k hk => by simp at hk; omega)⟩
      · exact hl69.grown hgr (by omega)
      · exact hl89.grown hgr (by omega)
      · exact hg9.grown hgr (by omega)
      · exact hd9.grown hgr (by omega)
end Go.Proofs.YtimciamfgpdjlaaGreat.Fx

/- The plain numbers of package digest: sums, products and powers by P = 2^61 - 1, the mix of three numbers and what is made of a list; and how a number of two words is divided by P, digit by digit. Nothing here speaks of the program. -/
namespace Go.Proofs.YtimciamfgpdjlaaGreat.Fx

def addP (a b : Int) : Int := (a + b) % 2305843009213693951
def mulP (a b : Int) : Int := (a * b) % 2305843009213693951
def sqTo (n : Int) : Nat → Int
  | 0 => n
  | k + 1 => mulP (sqTo n k) (sqTo n k)
/-- the 17th power -/
def powP (n : Int) : Int := mulP (sqTo n 4) n

def okP (n : Int) : Prop := 0 ≤ n ∧ n < 2305843009213693951
def okW (n : Int) : Prop := 0 ≤ n ∧ n < 18446744073709551616
theorem okP_W {a : Int} (h : okP a) : okW a := ⟨h.1, by have := h.2; omega⟩

def okL (xs : List Int) : Prop := ∀ i, i < xs.length → okW (xs.getD i 0)
theorem addP_ok (a b : Int) : okP (addP a b) := by unfold okP addP; omega
theorem mulP_ok (a b : Int) : okP (mulP a b) := by unfold okP mulP; omega
theorem powP_ok (n : Int) : okP (powP n) := mulP_ok _ _
theorem sqTo_ok {n : Int} (h : okP n) : ∀ k, okP (sqTo n k)
  | 0 => h
  | _ + 1 => mulP_ok _ _

structure Tri where
  x : Int
  y : Int
  z : Int
def Tri.ok (s : Tri) : Prop := okP s.x ∧ okP s.y ∧ okP s.z
def Tri.at (s : Tri) (k : Nat) : Int := if k = 0 then s.x else if k = 1 then s.y else s.z

/-- The three powers of a turn. -/
def pows (i : Int) (s : Tri) : Tri := ⟨powP (addP s.x i), powP (addP s.y (2 * i)), powP (addP s.z (3 * i))⟩
theorem pows_ok (i : Int) (s : Tri) : (pows i s).ok := ⟨powP_ok _, powP_ok _, powP_ok _⟩
def sums (t : Tri) : Tri := ⟨addP (addP (addP t.x t.y) t.z) t.x, addP (addP (addP t.x t.y) t.z) t.y, addP (addP (addP t.x t.y) t.z) t.z⟩
theorem sums_ok (t : Tri) : (sums t).ok := ⟨addP_ok _ _, addP_ok _ _, addP_ok _ _⟩
def mixTo (s : Tri) : Nat → Tri
  | 0 => s
  | k + 1 => sums (pows ((k : Int) + 1) (mixTo s k))
def mixP (s : Tri) : Tri := mixTo s 6
theorem mixTo_ok {s : Tri} (h : s.ok) : ∀ k, (mixTo s k).ok
  | 0 => h
  | _ + 1 => sums_ok _
theorem mixP_ok (s : Tri) : (mixP s).ok := sums_ok _
def ofTo (kind : Int) (l : List Int) : Nat → Tri
  | 0 => mixP ⟨kind % 2305843009213693951, l.length, 1⟩
  | k + 1 => mixP ⟨addP (ofTo kind l k).x (l.getD k 0), (ofTo kind l k).y, (ofTo kind l k).z⟩
def ofP (kind : Int) (l : List Int) : Int := (ofTo kind l l.length).y
theorem ofTo_ok (kind : Int) (l : List Int) : ∀ k, (ofTo kind l k).ok
  | 0 => mixP_ok _
  | _ + 1 => mixP_ok _
theorem ofP_ok (kind : Int) (l : List Int) : okP (ofP kind l) := (ofTo_ok kind l _).2.1
def boundP (n : Int) : Int := (if n < -4294967296 then -4294967296 else if 4294967296 < n then 4294967296 else n) + 4294967296
theorem boundP_ok (n : Int) : 0 ≤ boundP n ∧ boundP n ≤ 8589934592 := by unfold boundP; (repeat' split) <;> omega

theorem addP_mod (a b : Int) : addP a (b % 2305843009213693951) = addP a b := by unfold addP; omega
/-- The other way of adding: of the rests, by fours. -/
theorem four_add (x y z t : Int) : addP (addP x y) (addP z t) = addP (addP (addP x y) z) t := by unfold addP; omega
theorem rest_add (a b : Int) : (a % 2305843009213693951 + b % 2305843009213693951) % 2305843009213693951 = addP a b := by unfold addP; omega

/-! Doubling, bit by bit. -/
def dblTo (a b : Int) (k : Nat) : Int := (a * (b / 2 ^ k)) % 2305843009213693951
theorem dbl_top (a b : Int) (h : okP b) : dblTo a b 61 = 0 := by
  obtain ⟨h0, h1⟩ := h
  have e : b / 2 ^ 61 = 0 := by
    have : (2 : Int) ^ 61 = 2305843009213693952 := by decide
    rw [this]; omega
  unfold dblTo; rw [e, Int.mul_zero]; rfl
theorem dbl_end (a b : Int) : dblTo a b 0 = mulP a b := by unfold dblTo mulP; simp
theorem half_pow (b : Int) (k : Nat) : b / 2 ^ (k + 1) = b / 2 ^ k / 2 := by
  rw [Int.pow_succ, Int.ediv_ediv_of_nonneg (Int.pow_nonneg (by omega))]
theorem dbl_step0 (a b : Int) (k : Nat) (h : b / 2 ^ k % 2 = 0) : (dblTo a b (k + 1) + dblTo a b (k + 1)) % 2305843009213693951 = dblTo a b k := by
  unfold dblTo
  rw [half_pow]
  generalize b / 2 ^ k = q at *
  have e : a * q = a * (q / 2) + a * (q / 2) := by
    rw [← Int.mul_add]; congr 1; omega
  rw [e]
  omega
theorem dbl_step1 (a b : Int) (k : Nat) (h : b / 2 ^ k % 2 = 1) : ((dblTo a b (k + 1) + dblTo a b (k + 1)) % 2305843009213693951 + a) % 2305843009213693951 = dblTo a b k := by
  unfold dblTo
  rw [half_pow]
  generalize b / 2 ^ k = q at *
  have e : a * q = a * (q / 2) + a * (q / 2) + a := by
    have e1 : a * q = a * (q / 2 + q / 2 + 1) := by congr 1; omega
    rw [e1, Int.mul_add, Int.mul_add, Int.mul_one]
  rw [e]
  omega
theorem dbl_ok (a b : Int) (k : Nat) : okP (dblTo a b k) := by unfold okP dblTo; omega

/-! A number of two words by P: 8 P = 2^64 - 8 is the divisor that is shifted, its upper half 2^32 - 1, its lower half 2^32 - 8. -/
def Digit (u d q r : Int) : Prop := 0 ≤ q ∧ q ≤ 4294967296 ∧ r = u - q * 4294967295 ∧ 0 ≤ r ∧ r < 4294967296 ∧ (u * 4294967296 + d) / 18446744073709551608 ≤ q
def inU (u d : Int) : Prop := 0 ≤ u ∧ u < 18446744073709551608 ∧ 0 ≤ d ∧ d < 4294967296
theorem digit_first {u d : Int} (h : inU u d) : Digit u d (u / 4294967295) (u - u / 4294967295 * 4294967295) := by
  obtain ⟨h0, h1, h2, h3⟩ := h
  refine ⟨by omega, by omega, rfl, by omega, by omega, by omega⟩
theorem digit_more {u d q r : Int} (h : inU u d) (D : Digit u d q r) (c : 4294967296 ≤ q ∨ 4294967296 * r + d < q * 4294967288) : 1 ≤ q ∧ (r + 4294967295 < 4294967296 → Digit u d (q - 1) (r + 4294967295)) ∧ (4294967296 ≤ r + 4294967295 → q - 1 = (u * 4294967296 + d) / 18446744073709551608) := by
  obtain ⟨h0, h1, h2, h3⟩ := h
  obtain ⟨a0, a1, a2, a3, a4, a5⟩ := D
  have b : (u * 4294967296 + d) / 18446744073709551608 ≤ q - 1 := by omega
  refine ⟨by omega, fun g => ⟨by omega, by omega, by omega, by omega, by omega, b⟩, fun g => by omega⟩
theorem digit_last {u d q r : Int} (D : Digit u d q r) (c : ¬ 4294967296 * r + d < q * 4294967288) : q = (u * 4294967296 + d) / 18446744073709551608 := by
  obtain ⟨a0, a1, a2, a3, a4, a5⟩ := D
  omega
theorem two_digits (hi lo : Int) (h : okP hi) (hl : okW lo) (u d1 d0 v : Int) (hu : u = hi * 8 + lo / 2305843009213693952) (hd1 : d1 = lo * 8 % 18446744073709551616 / 4294967296) (hd0 : d0 = lo * 8 % 18446744073709551616 % 4294967296)
    (hv : v = (u * 4294967296 + d1) % 18446744073709551608) : inU u d1 ∧ inU v d0 ∧ (v * 4294967296 + d0) % 18446744073709551608 / 8 = (hi * 18446744073709551616 + lo) % 2305843009213693951 := by
  obtain ⟨h0, h1⟩ := h
  obtain ⟨l0, l1⟩ := hl
  refine ⟨⟨by omega, by omega, by omega, by omega⟩, ⟨by omega, by omega, by omega, by omega⟩, ?_⟩
  omega

end Go.Proofs.YtimciamfgpdjlaaGreat.Fx

/- Orders and batches as plain numbers, and a row of integers whose cells are changed in whatever order; no program is spoken of. -/
namespace Go.Proofs.YtimciamfgpdjlaaGreat.Fx
open Go.RowKit

/-- The place that place i changes with. -/
def placeP (seed : Int) (epoch i : Nat) : Nat := (ofP 2 [seed, ((64 * epoch + i : Nat) : Int)] % ((i : Int) + 1)).toNat
theorem placeP_le (seed : Int) (epoch i : Nat) : placeP seed epoch i ≤ i := by
  unfold placeP
  have h := Int.emod_lt_of_pos (ofP 2 [seed, ((64 * epoch + i : Nat) : Int)]) (b := (i : Int) + 1) (by omega)
  omega
theorem placeP_eq (seed : Int) (epoch i : Nat) : ofP 2 [seed, ((64 * epoch + i : Nat) : Int)] % ((i : Int) + 1) = (placeP seed epoch i : Int) := by
  unfold placeP
  have h := Int.emod_nonneg (ofP 2 [seed, ((64 * epoch + i : Nat) : Int)]) (b := (i : Int) + 1) (by omega)
  omega

/-- Numbers i and j change places. -/
def swapF (f : Nat → Int) (i j : Nat) : Nat → Int := fun x => if x = j then f i else if x = i then f j else f x
/-- The order behind k changes, from the last place on. -/
def shufTo (seed : Int) (epoch n : Nat) : Nat → Nat → Int
  | 0 => fun x => (x : Int)
  | k + 1 => swapF (shufTo seed epoch n k) (n - 1 - k) (placeP seed epoch (n - 1 - k))
theorem shufTo_step {seed : Int} {epoch n k i : Nat} (h : i + k + 1 = n) : swapF (shufTo seed epoch n k) i (placeP seed epoch i) = shufTo seed epoch n (k + 1) := by
  obtain rfl : i = n - 1 - k := by omega
  rfl
def shufF (seed : Int) (epoch n : Nat) : Nat → Int := shufTo seed epoch n (n - 1)
def shufP (seed : Int) (epoch n : Nat) : List Int := (List.range n).map (shufF seed epoch n)
theorem shufP_len (seed : Int) (epoch n : Nat) : (shufP seed epoch n).length = n := by unfold shufP; simp
theorem getD_range (g : Nat → Int) {n i : Nat} (h : i < n) : ((List.range n).map g).getD i 0 = g i := by
  simp [List.getD_eq_getElem?_getD, h]

/-- Number i of a batch that begins at s. -/
def batchG (seed : Int) (n s i : Nat) : Int := shufF seed ((s + i) / n) n ((s + i) % n)
def batchP (seed : Int) (size n s : Nat) : List Int := (List.range size).map (batchG seed n s)

theorem day_goes {n d r s k t : Nat} (ht : s + k = t) (hdm : n * d + r = t) (hrn : r < n) (hk : k ≠ 0) (hr : r ≠ 0) : (s + (k - 1)) / n = d := by
  rw [show s + (k - 1) = (r - 1) + n * d from by omega, Nat.add_mul_div_left _ _ (by omega), Nat.div_eq_of_lt (by omega), Nat.zero_add]

/-- Block b, of c cells, none of them frozen, holds first the n integers of f. -/
def Arr (w : World) (b c n : Nat) (f : Nat → Int) : Prop := n ≤ c ∧ ∃ F, w.rowIs b 3 c F ∧ ∀ i, i < n → F i = .int .i64 (f i)

namespace Arr
variable {w w' : World} {b c n : Nat} {f g : Nat → Int}
theorem cap (h : Arr w b c n f) : n ≤ c := h.1
theorem cell (h : Arr w b c n f) {i : Nat} (hi : i < n) : w.cell? ⟨b, i, none⟩ = some (.int .i64 (f i)) := by
  obtain ⟨hc, F, hr, hf⟩ := h
  rw [hr.cell (by omega), hf i hi]
theorem frozen (h : Arr w b c n f) (i : Nat) : w.frozen? ⟨b, i, none⟩ = false := by
  obtain ⟨hc, F, hr, hf⟩ := h
  exact hr.frozen i
theorem lt (h : Arr w b c n f) : b < w.heap.size := by
  obtain ⟨hc, F, hr, hf⟩ := h
  exact hr.lt
theorem congr (h : Arr w b c n f) (e : ∀ i, i < n → f i = g i) : Arr w b c n g := by
  obtain ⟨hc, F, hr, hf⟩ := h
  exact ⟨hc, F, hr, fun i hi => by rw [hf i hi, e i hi]⟩
theorem set (h : Arr w b c n f) (i : Nat) (x : Int) : Arr (w.setCell ⟨b, i, none⟩ (.int .i64 x)) b c n (fun j => if j = i then x else f j) := by
  obtain ⟨hc, F, hr, hf⟩ := h
  refine ⟨hc, _, hr.set i _, fun j hj => ?_⟩
  by_cases e : j = i
  · simp [e]
  · simp [e, hf j hj]
theorem swap (h : Arr w b c n f) (i j : Nat) (x y : Int) (hx : f j = x) (hy : f i = y) : Arr ((w.setCell ⟨b, i, none⟩ (.int .i64 x)).setCell ⟨b, j, none⟩ (.int .i64 y)) b c n (swapF f i j) := by
  refine ((h.set i x).set j y).congr (fun k _ => ?_)
  unfold swapF
  rw [hx, hy]
theorem below (h : Arr w b c n f) (hb : Below w.heap.size w w') : Arr w' b c n f := by
  have hlt := h.lt
  obtain ⟨hc, F, hr, hf⟩ := h
  exact ⟨hc, F, hr.of_block (hb.block _ hlt), hf⟩
theorem belowAt {B : Nat} (h : Arr w b c n f) (hb : Below B w w') (hB : b < B) : Arr w' b c n f := by
  obtain ⟨hc, F, hr, hf⟩ := h
  exact ⟨hc, F, hr.of_block (hb.block _ hB), hf⟩
theorem drewN (h : Arr w b c n f) (k : Nat) : Arr (w.drewN k) b c n f := h
theorem drew (h : Arr w b c n f) : Arr w.drew b c n f := h
theorem alloc (h : Arr w b c n f) (o : Obj) : Arr (w.alloc o) b c n f := by
  obtain ⟨hc, F, hr, hf⟩ := h
  exact ⟨hc, F, hr.alloc o, hf⟩
theorem setOther (h : Arr w b c n f) {a : Addr} (ha : b ≠ a.block) (v : Value) : Arr (w.setCell a v) b c n f := by
  obtain ⟨hc, F, hr, hf⟩ := h
  exact ⟨hc, F, hr.setOther ha v, hf⟩
theorem lst (h : Arr w b c n f) : Lst w (some ⟨b, 0, none⟩) n c ((List.range n).map f) :=
  ⟨by simp, h.cap, .inr ⟨b, 0, rfl, h.lt, fun i hi => by rw [Nat.zero_add, h.cell hi, getD_range f hi]⟩⟩
theorem row (h : w.rowIs b 3 n (rowTo f n)) : Arr w b n n f := ⟨Nat.le_refl _, _, h, fun i hi => by unfold rowTo; rw [if_pos hi]⟩
end Arr

/-- A list that was made by append, with one number at least, is such a block. -/
theorem OwnI.arr {base : Nat} {w : World} {v : Value} {n : Nat} {f : Nat → Int} (h : OwnI base w v ((List.range n).map f)) (h1 : 1 ≤ n) :
    ∃ b c, v = .slice (some ⟨b, 0, none⟩) n c ∧ base ≤ b ∧ Arr w b c n f := by
  obtain ⟨hl, h2⟩ := h
  rcases h2 with ⟨_, hn⟩ | ⟨g, cap, cur, rfl, hg, hh, hle, _, hsz, hcur⟩
  · simp at hn; omega
  · simp only [List.length_map, List.length_range, Nat.mul_one] at hle hcur hsz ⊢
    refine ⟨g, cap, rfl, hg, hle, fun i => cur[i]?.getD default, ⟨cur, hh, hsz, fun i hi => ?_⟩, fun i hi => ?_⟩
    · show cur[i]? = some (cur[i]?.getD default)
      rw [Array.getElem?_eq_getElem (by omega)]; rfl
    · have h3 : (((List.range n).map f).map (Value.int .i64))[i]? = some (.int .i64 (f i)) := by simp [hi]
      rw [← hcur, List.getElem?_take_of_lt hi, Array.getElem?_toList] at h3
      show cur[i]?.getD default = _
      rw [h3]; rfl

end Go.Proofs.YtimciamfgpdjlaaGreat.Fx

/- Lists that packages vec and pupil tell, as blocks of their own. -/
namespace Go.Proofs.YtimciamfgpdjlaaGreat.Fx
open Go.RowKit

theorem midTo_arr {w : World} {b n : Nat} {g1 g2 : Nat → Int} (h : w.rowIs b 3 n (midTo g1 g2 n)) : Arr w b n n g1 := ⟨Nat.le_refl _, _, h, fun i hi => by unfold midTo; rw [if_pos hi]⟩
theorem Arr.grownO {w w' : World} {b c n g : Nat} {f : Nat → Int} (h : Arr w b c n f) (hg : w.grownBy w' (some g)) (hne : b ≠ g) : Arr w' b c n f := by
  obtain ⟨hc, F, hr, hf⟩ := h
  exact ⟨hc, F, hr.of_block (hg.block b hr.lt (by simpa using hne)), hf⟩

set_option maxHeartbeats 1600000 in
theorem vOuter_own (a b : Option Addr) (la ca lb cb : Nat) (xs ys : List Int) (w : World) (ha : Lst w a la ca xs) (hb : Lst w b lb cb ys) (ha1 : 1 ≤ la) (ha2 : la ≤ 4) (hb1 : 1 ≤ lb) (hb2 : lb ≤ 4) :
    Calls Tryz.prog 87 #[.slice a la ca, .slice b lb cb] w fun e w' => ∃ g, e = .returned (.tuple #[.agg #[.int .i64 la, .int .i64 lb, .slice (some ⟨g, 0, none⟩) (la * lb) (la * lb)], .int .i64 0]) ∧ w.heap.size ≤ g ∧ Arr w' g (la * lb) (la * lb) (outerG xs ys lb) ∧ Below w.heap.size w w' := by
  have h2 := prod_sideN ha2 hb2
  have i3 : (la : Int) * (lb : Int) ≤ 16 := by exact_mod_cast h2
  have i4 : 0 ≤ (la : Int) * (lb : Int) := by exact_mod_cast Nat.zero_le (la * lb)
  have hmk := run_make_row' (P := Tryz.prog) 26 3 (.int .i64 0) 8 Tryz.underlying26 info3 rfl .i64 .i64 (la * lb) (by omega) (by omega)
  simp only [Int.natCast_mul] at hmk
  have hd : decide (200 < la ∨ 200 < lb) = false := decide_eq_false (by omega)
  have sa : sideB (la : Int) = true := sideB_mk (by omega) (by omega)
  have sb : sideB (lb : Int) = true := sideB_mk (by omega) (by omega)
  go_enter Tryz.func87, Tryz.ntmps87
  go_wp2_with (first | (go_at_call 142; refine (long2 _ _ _ _ _ _ _ _ (by simp)).mono ?_; rintro e w' ⟨rfl, rfl⟩; rw [hd]) | (go_at_call 143; refine (side_calls _ _).mono ?_; rintro e w' ⟨rfl, rfl⟩))
  go_loopw [40] (fun i wr => ∃ k : Nat, k ≤ la ∧ i = .int .i64 k ∧ OutRel w (la * lb) la lb (outerG xs ys lb) (k * lb) wr) (fun i _ => la - (intOf i).toNat)
  case atStart => exact ⟨0, Nat.zero_le _, rfl, by rw [Nat.zero_mul]; exact OutRel.start _ _ _ _ _ _⟩
  case round =>
    obtain ⟨k, hk, rfl, hrel⟩ := hrel
    clear hmk
    by_cases hlt : k < la
    · obtain ⟨b1, o1, x, rfl, s1, c1, HX⟩ := ha.at1b hrel.old (Nat.le_refl _) hlt
      go_wp2
      generalize hwr : wr = w1 at *
      clear hwr
      go_loopw [47] (fun i wr => ∃ j : Nat, j ≤ lb ∧ i = .int .i64 j ∧ OutRel w (la * lb) la lb (outerG xs ys lb) (k * lb + j) wr) (fun i _ => lb - (intOf i).toNat)
      case atStart => exact ⟨0, Nat.zero_le _, rfl, hrel⟩
      case round =>
        rename_i hrel1 _
        obtain ⟨j, hj, rfl, hin⟩ := hrel
        by_cases hlt2 : j < lb
        · obtain ⟨b2, o2, y, rfl, s2, c2, HY⟩ := hb.at1b hin.old (Nat.le_refl _) hlt2
          obtain ⟨_, g1, g2⟩ := fn3_cells hin.mat
          have m1 : (k + 1) * lb ≤ la * lb := Nat.mul_le_mul_right _ hlt
          have m2 : (k + 1) * lb = k * lb + lb := Nat.succ_mul _ _
          have m3 : k * lb + j < la * lb := by omega
          have c3 := rowTo_cell hin.row m3
          have f3 := hin.row.frozen (k * lb + j)
          have i5 : (0 : Int) ≤ (k : Int) * (lb : Int) := by exact_mod_cast Nat.zero_le (k * lb)
          have i6 : (k : Int) * (lb : Int) + (j : Int) < (la : Int) * (lb : Int) := by exact_mod_cast m3
          have HG : Hid (outerG xs ys lb (k * lb + j) = mulI x y) := by rw [outerG_at _ _ _ _ _ hlt2, HX.out, HY.out]; rfl
          have e1 : IntKind.i64.wrap ((k : Int) * (lb : Int)) = (k : Int) * (lb : Int) := wrap_in _ (by omega) (by omega)
          have e2 : IntKind.i64.wrap ((k : Int) * (lb : Int) + (j : Int)) = (k : Int) * (lb : Int) + (j : Int) := wrap_in _ (by omega) (by omega)
          clear m2 ha hb
          go_wp2
          go_region_with ((go_at_call 144; refine (mul_calls _ _ _).mono ?_; rintro e w' ⟨rfl, nd, rfl⟩))
          all_goals
            go_wp2
            go_roundw
            case rel =>
              have st := hin.step (1 + nd)
              rw [HG.out] at st
              exact ⟨j + 1, by omega, by go_num, st⟩
            case measure => simp [intOf]; omega
        · go_wp2
          go_roundw
          case rel =>
            obtain rfl : j = lb := by omega
            exact ⟨k + 1, by omega, by go_num, by rw [Nat.succ_mul]; exact hin⟩
          case measure => simp [intOf]; omega
    · obtain rfl : k = la := by omega
      obtain ⟨g0, g1, g2⟩ := fn3_cells hrel.mat
      obtain ⟨r0, r1, r2⟩ := fn3_cells hrel.res
      have f0 := hrel.res.frozen 0
      have f1 := hrel.res.frozen 1
      have f2 := hrel.res.frozen 2
      go_wp2
      have hq := set3 hrel.res (.int .i64 k) (.int .i64 lb) (.slice (some ⟨w.heap.size + 1 + 1, 0, none⟩) (k * lb) (k * lb))
      obtain ⟨q0, q1, q2⟩ := fn3_cells hq
      refine bodyPost_ret (v := .tuple #[.agg #[.int .i64 k, .int .i64 lb, .slice (some ⟨w.heap.size + 1 + 1, 0, none⟩) (k * lb) (k * lb)], .int .i64 0]) (by simp [results, Tryz.results87, go_sem, q0, q1, q2]) rfl ⟨_, rfl, by omega, ?_, ?_⟩
      · exact Arr.row (((hrel.row.setOther (by simp; omega) _).setOther (by simp; omega) _).setOther (by simp; omega) _)
      · exact ((hrel.old.setCell (Nat.le_refl _) _).setCell (Nat.le_refl _) _).setCell (Nat.le_refl _) _

set_option maxHeartbeats 1600000 in
theorem less_own (a b : Option Addr) (la ca cb : Nat) (xs ys : List Int) (w : World) (ha : Lst w a la ca xs) (hb : Lst w b la cb ys) (hl : la ≤ 200) :
    Calls Tryz.prog 85 #[.slice a la ca, .slice b la cb] w fun e w' => ∃ g, e = .returned (.slice (some ⟨g, 0, none⟩) la la) ∧ w.heap.size ≤ g ∧ Arr w' g la la (lessG xs ys) ∧ Below w.heap.size w w' := by
  have hmk := run_make_row' (P := Tryz.prog) 26 3 (.int .i64 0) 8 Tryz.underlying26 info3 rfl .i64 .i64 la (by omega) (by omega)
  go_enter Tryz.func85, Tryz.ntmps85
  go_wp2
  go_loopw [12] (fun i wr => ∃ k : Nat, k ≤ la ∧ i = .int .i64 k ∧ wr.rowIs w.heap.size 3 la (rowTo (lessG xs ys) k) ∧ Below w.heap.size w wr) (fun i _ => la - (intOf i).toNat)
  case atStart => exact ⟨0, Nat.zero_le _, rfl, rowTo_made (World.rowIs_made _ _ _ _), (Below.refl _ _).alloc (Nat.le_refl _) _⟩
  case round =>
    obtain ⟨k, hk, rfl, hrow, hbel⟩ := hrel
    have ha' := ha.below hbel (Nat.le_refl _)
    have hb' := hb.below hbel (Nat.le_refl _)
    clear ha hb hmk
    by_cases hlt : k < la
    · obtain ⟨b1, o1, x, rfl, _, c1, HX⟩ := ha'.at1 hlt
      obtain ⟨b2, o2, y, rfl, _, c2, HY⟩ := hb'.at1 hlt
      have c3 := rowTo_cell hrow hlt
      have f3 := hrow.frozen k
      go_wp2
      go_region_with ((go_at_call 138; refine (sub_calls _ _ _).mono ?_; rintro e w' ⟨rfl, rfl⟩))
      all_goals go_wp2
      all_goals
        go_roundw
        case rel =>
          have st := rowTo_step (g := lessG xs ys) hrow
          simp only [lessG, HX.out, HY.out] at st
          exact ⟨k + 1, by omega, by go_num, st, (hbel.setCell (Nat.le_refl _) _).drew⟩
        case measure => simp [intOf]; omega
    · go_wp2
      go_ret
      obtain rfl : k = la := by omega
      exact ⟨_, rfl, Nat.le_refl _, Arr.row hrow, hbel⟩

set_option maxHeartbeats 1600000 in
theorem forward_own (I H O : Nat) (a1 : Option Addr) (k1 : Nat) (a2 : Option Addr) (k2 : Nat) (d1 : Option Addr) (e1 : Nat) (d2 : Option Addr) (e2 : Nat) (d : PD) (v : Option Addr) (cv : Nat) (xs : List Int) (w : World) (h : InPup w (rpup I H O a1 k1 a2 k2 d1 e1 d2 e2) d) (hv : Lst w v I cv xs) (hr : RightD d) (i1 : 1 ≤ I) (i2 : I ≤ 4) (j1 : 1 ≤ H) (j2 : H ≤ 4) (o1 : 1 ≤ O) (o2 : O ≤ 4) :
    Calls Tryz.prog 83 #[(rpup I H O a1 k1 a2 k2 d1 e1 d2 e2).val, .slice v I cv] w fun e w' => ∃ gh gy fy, e = .returned (.tuple #[.slice (some ⟨gh, 0, none⟩) H H, .slice (some ⟨gy, 0, none⟩) O O]) ∧ (w.heap.size ≤ gh ∧ gh < gy) ∧ Arr w' gh H H (hidG d xs I) ∧ Arr w' gy O O fy ∧ Below w.heap.size w w' := by
  have hal := (Below.refl w.heap.size w).alloc (Nat.le_refl _) (.cells (rpup I H O a1 k1 a2 k2 d1 e1 d2 e2).cells 62)
  have h1 := h.below hal (Nat.le_refl _)
  have hcall := layer_calls H I a1 k1 d.X1 d1 e1 d.B1 v cv xs _ h1.x1 h1.b1 (hv.below hal (Nat.le_refl _)) j1 j2 i1 i2 hr.1
  have hc2 : ∀ q g, Below w.heap.size w q → Lst q (some ⟨g, 0, none⟩) H H (hidL d xs I H) → Calls Tryz.prog 137 #[.agg #[.int .i64 O, .int .i64 H, .slice a2 (O * H) k2], .slice d2 O e2, .slice (some ⟨g, 0, none⟩) H H] q fun e w' => ∃ g, e = .returned (.slice (some ⟨g, 0, none⟩) O O) ∧ q.heap.size ≤ g ∧ w'.rowIs g 3 O (rowTo (layG d.X2 d.B2 (hidL d xs I H) H) O) ∧ Below q.heap.size q w' := by
    intro q g hq hl
    have hin := h.below hq (Nat.le_refl _)
    exact layer_calls O H a2 k2 d.X2 d2 e2 d.B2 _ H _ q hin.x2 hin.b2 hl o1 o2 j1 j2 hr.2.1
  have HC : Hid (∀ q g, Below w.heap.size w q → Lst q (some ⟨g, 0, none⟩) H H (hidL d xs I H) → Calls Tryz.prog 137 #[.agg #[.int .i64 O, .int .i64 H, .slice a2 (O * H) k2], .slice d2 O e2, .slice (some ⟨g, 0, none⟩) H H] q fun e w' => ∃ g, e = .returned (.slice (some ⟨g, 0, none⟩) O O) ∧ q.heap.size ≤ g ∧ w'.rowIs g 3 O (rowTo (layG d.X2 d.B2 (hidL d xs I H) H) O) ∧ Below q.heap.size q w') := hc2
  clear hc2 h1 h hv
  simp only [Pup.val, Pup.cells, rpup] at *
  go_enter Tryz.func83, Tryz.ntmps83
  go_wp2_with fail
  refine hcall.mono ?_
  rintro e w1 ⟨g, rfl, hg, hrow, hw1⟩
  have hg1 : w.heap.size + 1 ≤ g := by simpa using hg
  have T1 : Below (w.heap.size + 1) _ w1 := hw1.mono (by simp)
  clear hcall hw1 hg
  go_wp2
  go_loopw [16] (fun i wr => ∃ k : Nat, k ≤ H ∧ i = .int .i64 k ∧ wr.rowIs g 3 H (midTo (hidG d xs I) (layG d.X1 d.B1 xs I) k) ∧ Below (w.heap.size + 1) (w.alloc (.cells #[.int .i64 H, .int .i64 I, .slice a1 (H * I) k1, .int .i64 O, .int .i64 H, .slice a2 (O * H) k2, .slice d1 H e1, .slice d2 O e2] 62)) wr) (fun i _ => H - (intOf i).toNat)
  case atStart => exact ⟨0, Nat.zero_le _, rfl, midTo_start hrow, T1⟩
  case round =>
    obtain ⟨k, hk, rfl, hrow, hbel⟩ := hrel
    by_cases hlt : k < H
    · have c3 := midTo_cell hrow hlt
      have f3 := hrow.frozen k
      obtain ⟨x, HX⟩ : ∃ x, Hid (layG d.X1 d.B1 xs I k = x) := ⟨_, rfl⟩
      rw [HX.out] at c3
      by_cases hx : x < 0
      · have HG : Hid (hidG d xs I k = 0) := by show pos0 (layG d.X1 d.B1 xs I k) = 0; rw [HX.out]; exact if_pos hx
        go_wp2
        go_roundw
        case rel =>
          have st := midTo_step hrow
          rw [HG.out] at st
          exact ⟨k + 1, by omega, by go_num, st, hbel.setCell (by exact hg1) _⟩
        case measure => simp [intOf]; omega
      · have HG : Hid (hidG d xs I k = x) := by show pos0 (layG d.X1 d.B1 xs I k) = x; rw [HX.out]; exact if_neg hx
        go_wp2
        go_roundw
        case rel =>
          have st := midTo_step hrow
          rw [HG.out] at st
          exact ⟨k + 1, by omega, by go_num, st, hbel.setCell (by exact hg1) _⟩
        case measure => simp [intOf]; omega
    · obtain rfl : k = H := by omega
      have hh := midTo_end hrow
      have ha := midTo_arr hrow
      obtain ⟨f0, f1, f2, f3, f4, f5, f6, f7⟩ := box8 hbel (Nat.lt_succ_self _)
      have hbw := hal.trans (hbel.mono (by omega))
      have hcall := HC.out wr g hbw hh
      clear hrow
      go_wp2_with fail
      refine hcall.mono ?_
      rintro e w2 ⟨g2, rfl, hg2, hrow2, hw2⟩
      go_wp2
      go_ret2
      exact ⟨_, _, _, rfl, ⟨by omega, Nat.lt_of_lt_of_le ha.lt hg2⟩, ha.below hw2, Arr.row hrow2, hbw.trans (hw2.mono hbw.size)⟩

set_option maxHeartbeats 1600000 in
theorem pforward_own (I H O : Nat) (a1 : Option Addr) (k1 : Nat) (a2 : Option Addr) (k2 : Nat) (d1 : Option Addr) (e1 : Nat) (d2 : Option Addr) (e2 : Nat) (d : PD) (v : Option Addr) (cv : Nat) (xs : List Int) (w : World) (h : InPup w (rpup I H O a1 k1 a2 k2 d1 e1 d2 e2) d) (hv : Lst w v I cv xs) (hr : RightD d) (i1 : 1 ≤ I) (i2 : I ≤ 4) (j1 : 1 ≤ H) (j2 : H ≤ 4) (o1 : 1 ≤ O) (o2 : O ≤ 4) :
    Calls Tryz.prog 32 #[(rpup I H O a1 k1 a2 k2 d1 e1 d2 e2).val, .slice v I cv] w fun e w' => ∃ gh gy fy, e = .returned (.tuple #[.slice (some ⟨gh, 0, none⟩) H H, .slice (some ⟨gy, 0, none⟩) O O, .int .i64 0]) ∧ (w.heap.size ≤ gh ∧ gh < gy) ∧ Arr w' gh H H (hidG d xs I) ∧ Arr w' gy O O fy ∧ Below w.heap.size w w' := by
  have hal := (Below.refl w.heap.size w).alloc (Nat.le_refl _) (.cells (rpup I H O a1 k1 a2 k2 d1 e1 d2 e2).cells 62)
  have hcall := pcheck_calls _ d _ (h.below hal (Nat.le_refl _))
  rw [pchk_right i1 i2 j1 j2 o1 o2 hr] at hcall
  have hc2 : ∀ q, Below w.heap.size w q → Calls Tryz.prog 83 #[(rpup I H O a1 k1 a2 k2 d1 e1 d2 e2).val, .slice v I cv] q fun e w' => ∃ gh gy fy, e = .returned (.tuple #[.slice (some ⟨gh, 0, none⟩) H H, .slice (some ⟨gy, 0, none⟩) O O]) ∧ (q.heap.size ≤ gh ∧ gh < gy) ∧ Arr w' gh H H (hidG d xs I) ∧ Arr w' gy O O fy ∧ Below q.heap.size q w' :=
    fun q hq => forward_own I H O a1 k1 a2 k2 d1 e1 d2 e2 d v cv xs q (h.below hq (Nat.le_refl _)) (hv.below hq (Nat.le_refl _)) hr i1 i2 j1 j2 o1 o2
  clear h hv
  simp only [Pup.val, Pup.cells, rpup] at *
  have u1 : ((I : Int) != (I : Int)) = false := by simp
  go_enter Tryz.func32, Tryz.ntmps32
  go_wp2_with fail
  refine hcall.mono ?_
  rintro e w1 ⟨rfl, hw1⟩
  have hbw := hal.trans (hw1.mono hal.size)
  obtain ⟨f0, f1, f2, f3, f4, f5, f6, f7⟩ := box8 hw1 (by simp)
  have hcall2 := hc2 w1 hbw
  clear hcall hw1 hal hc2
  go_wp2_with fail
  refine hcall2.mono ?_
  rintro e w2 ⟨gh, gy, fy, rfl, hgg, hh, hy, hw2⟩
  have hbs := hbw.size
  go_wp2
  exact bodyPost_ret (v := .tuple #[.slice (some ⟨gh, 0, none⟩) H H, .slice (some ⟨gy, 0, none⟩) O O, .int .i64 0]) (by simp [results, Tryz.results32, go_sem]) rfl ⟨gh, gy, fy, rfl, ⟨by omega, hgg.2⟩, hh, hy, hbw.trans (hw2.mono hbw.size)⟩

set_option maxHeartbeats 3200000 in
theorem pgrad_own (I H O : Nat) (a1 : Option Addr) (k1 : Nat) (a2 : Option Addr) (k2 : Nat) (d1 : Option Addr) (e1 : Nat) (d2 : Option Addr) (e2 : Nat) (d : PD) (v : Option Addr) (cv : Nat) (xs : List Int) (u : Option Addr) (cu : Nat) (ys : List Int) (w : World) (h : InPup w (rpup I H O a1 k1 a2 k2 d1 e1 d2 e2) d) (hv : Lst w v I cv xs) (hu : Lst w u O cu ys) (hr : RightD d) (i1 : 1 ≤ I) (i2 : I ≤ 4) (j1 : 1 ≤ H) (j2 : H ≤ 4) (o1 : 1 ≤ O) (o2 : O ≤ 4) :
    Calls Tryz.prog 33 #[(rpup I H O a1 k1 a2 k2 d1 e1 d2 e2).val, .agg #[.slice v I cv, .slice u O cu]] w fun e w' => ∃ g1 g2 g3 g4 : Nat, e = .returned (.tuple #[(rpup I H O (some ⟨g1, 0, none⟩) (H * I) (some ⟨g2, 0, none⟩) (O * H) (some ⟨g3, 0, none⟩) H (some ⟨g4, 0, none⟩) O).val, .int .i64 0]) ∧ (w.heap.size ≤ g4 ∧ g4 < g3 ∧ g3 < g1 ∧ g1 < g2) ∧ (∃ f1 f2 f3 f4, Arr w' g1 (H * I) (H * I) f1 ∧ Arr w' g2 (O * H) (O * H) f2 ∧ Arr w' g3 H H f3 ∧ Arr w' g4 O O f4) ∧ Below w.heap.size w w' := by
  have hal0 := low_alloc w (.cells (rpup I H O a1 k1 a2 k2 d1 e1 d2 e2).cells 62)
  have hal1 := hal0.alloc hal0.size (.cells #[.slice v I cv, .slice u O cu] 64)
  have hal := hal1.alloc hal1.size (.cells #[.int .i64 0, .int .i64 0, .slice none 0 0, .int .i64 0, .int .i64 0, .slice none 0 0, .slice none 0 0, .slice none 0 0] 62)
  have hst := fn8_alloc ((w.alloc (.cells (rpup I H O a1 k1 a2 k2 d1 e1 d2 e2).cells 62)).alloc (.cells #[.slice v I cv, .slice u O cu] 64)) (.int .i64 0) (.int .i64 0) (.slice none 0 0) (.int .i64 0) (.int .i64 0) (.slice none 0 0) (.slice none 0 0) (.slice none 0 0) 62
  have hc0 := pboth_calls _ d ⟨v, I, cv, u, O, cu⟩ _ (h.below hal (Nat.le_refl _))
  have hz : exI (rpup I H O a1 k1 a2 k2 d1 e1 d2 e2) d I O = 0 := by
    unfold exI
    rw [if_pos (pchk_right i1 i2 j1 j2 o1 o2 hr), if_pos ⟨rfl, rfl⟩]
  rw [hz] at hc0
  have HC1 : Hid (∀ q, Below w.heap.size w q → Calls Tryz.prog 83 #[(rpup I H O a1 k1 a2 k2 d1 e1 d2 e2).val, .slice v I cv] q fun e w' => ∃ ah ay, e = .returned (.tuple #[.slice ah H H, .slice ay O O]) ∧ Lst w' ah H H (hidL d xs I H) ∧ Lst w' ay O O (outYL d xs I H O) ∧ Below q.heap.size q w') :=
    fun q hq => forward_calls I H O a1 k1 a2 k2 d1 e1 d2 e2 d v cv xs q (h.below hq (Nat.le_refl _)) (hv.below hq (Nat.le_refl _)) hr i1 i2 j1 j2 o1 o2
  have HC2 : Hid (∀ q ad, Below w.heap.size w q → Lst q ad O O (difL d xs ys I H O) → Calls Tryz.prog 86 #[.agg #[.int .i64 O, .int .i64 H, .slice a2 (O * H) k2], .slice ad O O] q fun e w' => ∃ g, e = .returned (.tuple #[.slice (some ⟨g, 0, none⟩) H H, .int .i64 0]) ∧ q.heap.size ≤ g ∧ w'.rowIs g 3 H (rowTo (backG d.X2 (difL d xs ys I H O) O H) H) ∧ Below q.heap.size q w') :=
    fun q ad hq hl => vBack_row O H a2 k2 d.X2 ad O _ q (h.below hq (Nat.le_refl _)).x2 hl o1 o2 j1 j2 hr.2.1
  have HV : Hid (∀ q, Below w.heap.size w q → Lst q v I cv xs) := fun q hq => hv.below hq (Nat.le_refl _)
  have HU : Hid (∀ q, Below w.heap.size w q → Lst q u O cu ys) := fun q hq => hu.below hq (Nat.le_refl _)
  clear h hv hu hz hal0 hal1
  simp only [Pup.val, Pup.cells, rpup, Exm.val] at *
  simp at hst
  generalize hB : (((w.alloc (.cells #[.int .i64 H, .int .i64 I, .slice a1 (H * I) k1, .int .i64 O, .int .i64 H, .slice a2 (O * H) k2, .slice d1 H e1, .slice d2 O e2] 62)).alloc (.cells #[.slice v I cv, .slice u O cu] 64)).alloc (.cells #[.int .i64 0, .int .i64 0, .slice none 0 0, .int .i64 0, .int .i64 0, .slice none 0 0, .slice none 0 0, .slice none 0 0] 62)) = W3 at hal hst hc0
  have hWs : W3.heap.size = w.heap.size + 1 + 1 + 1 := by rw [← hB]; simp
  have KA : Hid (∀ q, Below W3.heap.size W3 q → Box8 q w.heap.size (.int .i64 H) (.int .i64 I) (.slice a1 (H * I) k1) (.int .i64 O) (.int .i64 H) (.slice a2 (O * H) k2) (.slice d1 H e1) (.slice d2 O e2)) := by
    intro q hq
    rw [hWs, ← hB] at hq
    exact boxA (B := w.heap.size + 1) (((Below.refl _ _).alloc (by simp) _).trans (hq.mono (by omega))) (by omega)
  have KE : Hid (∀ q, Below W3.heap.size W3 q → q.cell? ⟨w.heap.size + 1, 0, none⟩ = some (.slice v I cv) ∧ q.cell? ⟨w.heap.size + 1, 1, none⟩ = some (.slice u O cu)) := by
    intro q hq
    rw [hWs, ← hB] at hq
    exact boxE (B := w.heap.size + 1 + 1) (((Below.refl _ _).alloc (by simp) _).trans (hq.mono (by omega))) (by omega)
  have KR : Hid (∀ q, Below W3.heap.size W3 q → q.rowIs (w.heap.size + 1 + 1) 62 8 (fn8 (.int .i64 0) (.int .i64 0) (.slice none 0 0) (.int .i64 0) (.int .i64 0) (.slice none 0 0) (.slice none 0 0) (.slice none 0 0))) := fun q hq => rowIs_below hst hq (by omega)
  have KW : Hid (∀ q, Below W3.heap.size W3 q → Below w.heap.size w q) := fun q hq => hal.trans (hq.mono hal.size)
  have hB' : (((w.alloc (.cells #[.int .i64 H, .int .i64 I, .slice a1 (H * I) k1, .int .i64 O, .int .i64 H, .slice a2 (O * H) k2, .slice d1 H e1, .slice d2 O e2] 62)).alloc (.cells #[.slice v I cv, .slice u O cu] 64)).alloc (.cells #[.int .i64 0, .int .i64 0, .slice none 0 0, .int .i64 0, .int .i64 0, .slice none 0 0, .slice none 0 0, .slice none 0 0] 62)) = W3 := hB
  have HB : Hid ((((w.alloc (.cells #[.int .i64 H, .int .i64 I, .slice a1 (H * I) k1, .int .i64 O, .int .i64 H, .slice a2 (O * H) k2, .slice d1 H e1, .slice d2 O e2] 62)).alloc (.cells #[.slice v I cv, .slice u O cu] 64)).alloc (.cells #[.int .i64 0, .int .i64 0, .slice none 0 0, .int .i64 0, .int .i64 0, .slice none 0 0, .slice none 0 0, .slice none 0 0] 62)) = W3) := hB
  clear hB hB' hst hal
  have s1 := prod_sideN j2 i2
  have s2 := prod_sideN o2 j2
  go_enter Tryz.func33, Tryz.ntmps33
  go_wp2_with fail
  rw [HB.out]
  refine hc0.mono ?_
  rintro e w1 ⟨rfl, T1⟩
  obtain ⟨f0, f1, f2, f3, f4, f5, f6, f7⟩ := KA.out _ T1
  obtain ⟨x0, x1⟩ := KE.out _ T1
  have hc1 := HC1.out _ (KW.out _ T1)
  clear hc0
  go_wp2_with fail
  refine hc1.mono ?_
  rintro e w2 ⟨ah, ay, rfl, hh, hy, hw2⟩
  have T2 := T1.trans (hw2.mono T1.size)
  clear hc1 hw2 T1 f0 f1 f2 f3 f4 f5 f6 f7 x0 x1
  obtain ⟨x0, x1⟩ := KE.out _ T2
  have hc2 := less_own ay u O O cu _ ys w2 hy (HU.out _ (KW.out _ T2)) (by omega)
  go_wp2_with fail
  refine hc2.mono ?_
  rintro e w3 ⟨gd, rfl, hgd, hd, hw3⟩
  have hh3 := hh.below hw3 (Nat.le_refl _)
  have T3 := T2.trans (hw3.mono T2.size)
  have hd3 : Lst w3 (some ⟨gd, 0, none⟩) O O (difL d xs ys I H O) := hd.lst
  have had3 := hd
  have hgd' : W3.heap.size ≤ gd := Nat.le_trans T2.size hgd
  have hg3' : W3.heap.size ≤ w3.heap.size := T3.size
  clear hc2 hw3 T2 x0 x1 hh hy hd
  obtain ⟨f0, f1, f2, f3, f4, f5, f6, f7⟩ := KA.out _ T3
  have hc3 := HC2.out _ (some ⟨gd, 0, none⟩) (KW.out _ T3) hd3
  go_wp2_with fail
  refine hc3.mono ?_
  rintro e w4 ⟨g, rfl, hg, hrow, hw4⟩
  clear hc3 f0 f1 f2 f3 f4 f5 f6 f7
  go_wp2
  go_loopw [44] (fun i wr => ∃ k : Nat, k ≤ H ∧ i = .int .i64 k ∧ wr.rowIs g 3 H (midTo (graG d xs ys I H O) (backG d.X2 (difL d xs ys I H O) O H) k) ∧ Below w3.heap.size w3 wr) (fun i _ => H - (intOf i).toNat)
  case atStart => exact ⟨0, Nat.zero_le _, rfl, midTo_start hrow, hw4⟩
  case round =>
    obtain ⟨k, hk, rfl, hrow, hbel⟩ := hrel
    by_cases hlt : k < H
    · have c3 := midTo_cell hrow hlt
      have f3 := hrow.frozen k
      obtain ⟨b1, o1', x, rfl, sb1, c1, HX⟩ := hh3.at1b hbel (Nat.le_refl _) hlt
      by_cases hx : x = 0
      · have hx' : (x == 0) = true := by simpa using hx
        have HG : Hid (graG d xs ys I H O k = 0) := by show (if (hidL d xs I H).getD k 0 = 0 then 0 else backG d.X2 (difL d xs ys I H O) O H k) = 0; rw [HX.out]; exact if_pos hx
        clear hx
        go_wp2
        go_roundw
        case rel =>
          have st := midTo_step hrow
          rw [HG.out] at st
          exact ⟨k + 1, by omega, by go_num, st, hbel.setCell (by exact hg) _⟩
        case measure => simp [intOf]; omega
      · have hx' : (x == 0) = false := by simpa using hx
        have HG : Hid (graG d xs ys I H O k = backG d.X2 (difL d xs ys I H O) O H k) := by show (if (hidL d xs I H).getD k 0 = 0 then 0 else backG d.X2 (difL d xs ys I H O) O H k) = _; rw [HX.out]; exact if_neg hx
        go_wp2
        go_roundw
        case rel => exact ⟨k + 1, by omega, by go_num, midTo_skip hrow HG.out, hbel⟩
        case measure => simp [intOf]; omega
    · obtain rfl : k = H := by omega
      have hgl : Lst wr (some ⟨g, 0, none⟩) k k (graL d xs ys I k O) := midTo_end hrow
      have hga := midTo_arr hrow
      have hda := had3.below hbel
      have o34 : gd < g := Nat.lt_of_lt_of_le had3.lt hg
      have T5 := T3.trans (hbel.mono T3.size)
      have hh5 := hh3.below hbel (Nat.le_refl _)
      have hd5 := hd3.below hbel (Nat.le_refl _)
      clear hrow hbel hh3 hd3 hw4 T3
      obtain ⟨x0, x1⟩ := KE.out _ T5
      have hc5 := vOuter_own (some ⟨g, 0, none⟩) v k k I cv _ xs wr hgl (HV.out _ (KW.out _ T5)) j1 j2 i1 i2
      go_wp2_with fail
      refine hc5.mono ?_
      rintro e w6 ⟨gw1, rfl, hgw1, hl6, hw6⟩
      have T6 := T5.trans (hw6.mono T5.size)
      have hal6 := low_alloc w6 (.cells #[.int .i64 k, .int .i64 I, .slice (some ⟨gw1, 0, none⟩) (k * I) (k * I)] 60)
      have T7 := T6.trans (hal6.mono T6.size)
      have hb67 := hw6.trans (hal6.mono hw6.size)
      have hc7 := vOuter_own (some ⟨gd, 0, none⟩) ah O O k k _ _ _ (hd5.below hb67 (Nat.le_refl _)) (hh5.below hb67 (Nat.le_refl _)) o1 o2 j1 j2
      clear hc5 x0 x1
      go_wp2_with fail
      refine hc7.mono ?_
      rintro e w8 ⟨gw2, rfl, hgw2, hl8, hw8⟩
      have hal8 := low_alloc w8 (.cells #[.int .i64 O, .int .i64 k, .slice (some ⟨gw2, 0, none⟩) (O * k) (O * k)] 60)
      have T8 := T7.trans (hw8.mono T7.size)
      have T9 := T8.trans (hal8.mono T8.size)
      have hb79 := hw8.trans (hal8.mono hw8.size)
      obtain ⟨m0, m1, m2⟩ := box3 _ _ _ _ hb79 (by simp)
      have hg9 := (hga.below hb67).below hb79
      have hd9 := (hda.below hb67).below hb79
      have hl69 := (hl6.below hal6).below hb79
      have hl89 := hl8.below hal8
      have o31 : g < gw1 := Nat.lt_of_lt_of_le hga.lt hgw1
      have o12 : gw1 < gw2 := Nat.lt_of_lt_of_le (hl6.below hal6).lt hgw2
      have hr9 := KR.out _ T9
      obtain ⟨q0, q1, q2, q3, q4, q5, q6, q7⟩ := fn8_box hr9
      have g0 := hr9.frozen 0
      have g1 := hr9.frozen 1
      have g2 := hr9.frozen 2
      have g3 := hr9.frozen 3
      have g4 := hr9.frozen 4
      have g5 := hr9.frozen 5
      have g6 := hr9.frozen 6
      have g7 := hr9.frozen 7
      have hw1s : W3.heap.size ≤ gw1 := Nat.le_trans T5.size hgw1
      have hw2s : W3.heap.size ≤ gw2 := Nat.le_trans T7.size hgw2
      have hgs : W3.heap.size ≤ g := Nat.le_trans hg3' hg
      clear hc7 hb67 hb79 hgl hd5 hh5 hl6 hl8 T5 T6 T7 T8 hal6 hal8 hw6 hw8
      go_wp2
      have hq := fn8_set8 hr9 (.int .i64 k) (.int .i64 I) (.slice (some ⟨gw1, 0, none⟩) (k * I) (k * I)) (.int .i64 O) (.int .i64 k) (.slice (some ⟨gw2, 0, none⟩) (O * k) (O * k)) (.slice (some ⟨g, 0, none⟩) k k) (.slice (some ⟨gd, 0, none⟩) O O)
      have hgr := grown8 (w8.alloc (.cells #[.int .i64 O, .int .i64 k, .slice (some ⟨gw2, 0, none⟩) (O * k) (O * k)] 60)) (w.heap.size + 1 + 1) (.int .i64 k) (.int .i64 I) (.slice (some ⟨gw1, 0, none⟩) (k * I) (k * I)) (.int .i64 O) (.int .i64 k) (.slice (some ⟨gw2, 0, none⟩) (O * k) (O * k)) (.slice (some ⟨g, 0, none⟩) k k) (.slice (some ⟨gd, 0, none⟩) O O)
      refine (fun (key : ∀ wz : World, wz.rowIs (w.heap.size + 1 + 1) 62 8 (fn8 (.int .i64 k) (.int .i64 I) (.slice (some ⟨gw1, 0, none⟩) (k * I) (k * I)) (.int .i64 O) (.int .i64 k) (.slice (some ⟨gw2, 0, none⟩) (O * k) (O * k)) (.slice (some ⟨g, 0, none⟩) k k) (.slice (some ⟨gd, 0, none⟩) O O)) → (w8.alloc (.cells #[.int .i64 O, .int .i64 k, .slice (some ⟨gw2, 0, none⟩) (O * k) (O * k)] 60)).grownBy wz (some (w.heap.size + 1 + 1)) → bodyPost Tryz.prog Tryz.f33 _ Exit.ret _ wz) => key _ hq hgr) ?_
      clear hq hgr hr9 q0 q1 q2 q3 q4 q5 q6 q7 g0 g1 g2 g3 g4 g5 g6 g7 m0 m1 m2
      intro wz hq hgr
      obtain ⟨q0, q1, q2, q3, q4, q5, q6, q7⟩ := fn8_box hq
      have hbw := KW.out _ T9
      refine bodyPost_ret (v := .tuple #[(rpup I k O (some ⟨gw1, 0, none⟩) (k * I) (some ⟨gw2, 0, none⟩) (O * k) (some ⟨g, 0, none⟩) k (some ⟨gd, 0, none⟩) O).val, .int .i64 0]) (by simp [results, Tryz.results33, go_sem, rpup, Pup.val, Pup.cells, q0, q1, q2, q3, q4, q5, q6, q7]) rfl ⟨gw1, gw2, g, gd, rfl, ⟨by omega, o34, o31, o12⟩, ⟨_, _, _, _, hl69.grownO hgr (by omega), hl89.grownO hgr (by omega), hg9.grownO hgr (by omega), hd9.grownO hgr (by omega)⟩, hbw.grown hgr hbw.size (fun k hk => by simp at hk; omega)⟩
end Go.Proofs.YtimciamfgpdjlaaGreat.Fx

/- Package optim in plain numbers: what Check, Rate, Clip and Step tell of whatever is handed in; and how a config lies in memory; no function of the program is spoken of. -/
namespace Go.Proofs.YtimciamfgpdjlaaGreat.Fx
open Go.RowKit

/-- A config's numbers. -/
structure Cfg where
  i : Int
  h : Int
  o : Int
  seed : Int
  batch : Int
  steps : Int
  rate : Int
  decay : Int
  how : Int
  keep : Int
  clip : Int
def Cfg.cells (c : Cfg) : Array Value := #[.int .i64 c.i, .int .i64 c.h, .int .i64 c.o, .int .u64 c.seed, .int .i64 c.batch, .int .i64 c.steps, .int .i64 c.rate, .int .i64 c.decay, .int .i64 c.how, .int .i64 c.keep, .int .i64 c.clip]
def Cfg.val (c : Cfg) : Value := .agg c.cells
/-- A config that was laid, in whatever world that left it. -/
structure BoxC (w : World) (b : Nat) (c : Cfg) : Prop where
  c0 : w.cell? ⟨b, 0, none⟩ = some (.int .i64 c.i)
  c1 : w.cell? ⟨b, 1, none⟩ = some (.int .i64 c.h)
  c2 : w.cell? ⟨b, 2, none⟩ = some (.int .i64 c.o)
  c3 : w.cell? ⟨b, 3, none⟩ = some (.int .u64 c.seed)
  c4 : w.cell? ⟨b, 4, none⟩ = some (.int .i64 c.batch)
  c5 : w.cell? ⟨b, 5, none⟩ = some (.int .i64 c.steps)
  c6 : w.cell? ⟨b, 6, none⟩ = some (.int .i64 c.rate)
  c7 : w.cell? ⟨b, 7, none⟩ = some (.int .i64 c.decay)
  c8 : w.cell? ⟨b, 8, none⟩ = some (.int .i64 c.how)
  c9 : w.cell? ⟨b, 9, none⟩ = some (.int .i64 c.keep)
  c10 : w.cell? ⟨b, 10, none⟩ = some (.int .i64 c.clip)
theorem boxC {w wr : World} {B : Nat} {c : Cfg} {t : TypeId} (hb : Below B (w.alloc (.cells c.cells t)) wr) (hB : w.heap.size < B) : BoxC wr w.heap.size c :=
  ⟨boxN _ _ hb hB 0, boxN _ _ hb hB 1, boxN _ _ hb hB 2, boxN _ _ hb hB 3, boxN _ _ hb hB 4, boxN _ _ hb hB 5, boxN _ _ hb hB 6, boxN _ _ hb hB 7, boxN _ _ hb hB 8, boxN _ _ hb hB 9, boxN _ _ hb hB 10⟩

/-- Whether a config is such as may be. -/
def cfgB (c : Cfg) : Bool :=
  inB c.i 1 4 && inB c.h 1 4 && inB c.o 1 4 && inB c.batch 1 8 && inB c.steps 1 40 && inB c.rate 0 2147483647 && inB c.decay 0 1 && inB c.how 0 1 && inB c.keep 0 65536 && inB c.clip 0 2147483647
def cfgI (c : Cfg) : Int := if cfgB c = true then 0 else 1
theorem cfgB_is {c : Cfg} (h : cfgB c = true) : (1 ≤ c.i ∧ c.i ≤ 4) ∧ (1 ≤ c.h ∧ c.h ≤ 4) ∧ (1 ≤ c.o ∧ c.o ≤ 4) ∧ (1 ≤ c.batch ∧ c.batch ≤ 8) ∧ (1 ≤ c.steps ∧ c.steps ≤ 40) ∧ (0 ≤ c.rate ∧ c.rate ≤ 2147483647) ∧ (0 ≤ c.decay ∧ c.decay ≤ 1) ∧ (0 ≤ c.how ∧ c.how ≤ 1) ∧ (0 ≤ c.keep ∧ c.keep ≤ 65536) ∧ (0 ≤ c.clip ∧ c.clip ≤ 2147483647) := by
  simp only [cfgB, Bool.and_eq_true] at h
  obtain ⟨⟨⟨⟨⟨⟨⟨⟨⟨h1, h2⟩, h3⟩, h4⟩, h5⟩, h6⟩, h7⟩, h8⟩, h9⟩, h10⟩ := h
  exact ⟨in_is h1, in_is h2, in_is h3, in_is h4, in_is h5, in_is h6, in_is h7, in_is h8, in_is h9, in_is h10⟩
theorem cfgI_yes {c : Cfg} (h : cfgB c = true) : cfgI c = 0 := by unfold cfgI; rw [if_pos h]
theorem cfgI_no {c : Cfg} (h : cfgB c = false) : cfgI c = 1 := by unfold cfgI; rw [if_neg (by rw [h]; decide)]

/-! Rate. -/
def rateE (c : Cfg) (step : Int) : Int := if cfgB c = true ∧ inB step 0 (c.steps - 1) = true then 0 else 1
def rateV (c : Cfg) (step : Int) : Int := if c.decay = 1 then mulI c.rate (divI (c.steps - step) c.steps) else c.rate
def rateI (c : Cfg) (step : Int) : Int := if cfgB c = true ∧ inB step 0 (c.steps - 1) = true then rateV c step else 0

/-! Clip. -/
def absI (n : Int) : Int := if n < 0 then -n else n
theorem absI_neg (n : Int) : absI (-n) = absI n := by unfold absI; (repeat' split) <;> omega
theorem absI_bd {n B : Int} (h0 : -B ≤ n) (h1 : n ≤ B) : 0 ≤ absI n ∧ absI n ≤ B := by unfold absI; split <;> omega
/-- The greatest of the first k, without signs. -/
def topTo (g : Nat → Int) : Nat → Int
  | 0 => 0
  | k + 1 => if topTo g k < absI (g k) then absI (g k) else topTo g k
theorem topTo_bd {g : Nat → Int} {n : Nat} (h : ∀ i, i < n → -2147483647 ≤ g i ∧ g i ≤ 2147483647) : 0 ≤ topTo g n ∧ topTo g n ≤ 2147483647 := by
  induction n with
  | zero => exact ⟨Int.le_refl _, by show (0 : Int) ≤ 2147483647; omega⟩
  | succ k ih =>
    have a := absI_bd (h k (by omega)).1 (h k (by omega)).2
    have b := ih (fun i hi => h i (by omega))
    unfold topTo
    split <;> omega
theorem topTo_congr {f g : Nat → Int} {n : Nat} (h : ∀ i, i < n → f i = g i) : topTo f n = topTo g n := by
  induction n with
  | zero => rfl
  | succ k ih =>
    unfold topTo
    rw [ih (fun i hi => h i (by omega)), h k (by omega)]
theorem topTo_neg {f g : Nat → Int} {n : Nat} (h : ∀ i, i < n → f i = -g i) : topTo f n = topTo g n := by
  induction n with
  | zero => rfl
  | succ k ih =>
    unfold topTo
    rw [ih (fun i hi => h i (by omega)), h k (by omega), absI_neg]
def clampG (xs : List Int) (i : Nat) : Int := clampI (xs.getD i 0)
theorem clampG_bd (xs : List Int) (i : Nat) : -2147483647 ≤ clampG xs i ∧ clampG xs i ≤ 2147483647 := clampI_bd _
def topL (xs : List Int) (la : Nat) : Int := topTo (clampG xs) la
theorem topL_bd (xs : List Int) (la : Nat) : 0 ≤ topL xs la ∧ topL xs la ≤ 2147483647 := topTo_bd fun i _ => clampG_bd xs i
def clipE (la : Nat) (most : Int) : Int := if 200 < la then 2 else if inB most 0 2147483647 = true then 0 else 1
def clipG (xs : List Int) (most : Int) (la i : Nat) : Int := if most ≠ 0 ∧ most < topL xs la then mulI (xs.getD i 0) (divI most (topL xs la)) else clampI (xs.getD i 0)
def clipL (xs : List Int) (most : Int) (la : Nat) : List Int := if clipE la most = 0 then (List.range la).map (clipG xs most la) else []
theorem mulI_clamp (a b : Int) : mulI (clampI a) b = mulI a b := by unfold mulI; rw [clampI_idem]
theorem mulI_clamp' (a b : Int) : mulI b (clampI a) = mulI b a := by unfold mulI; rw [clampI_idem]

/-! Step. -/
def sizeN (c : Cfg) : Int := c.h * c.i + c.h + c.o * c.h + c.o
def fitB (c : Cfg) (len : Nat) (xs : List Int) : Bool := decide ((len : Int) = sizeN c) && rightB xs
def stepF (c : Cfg) (ws ms : List Int) (nw nm ng : Nat) : Bool := fitB c nw ws && fitB c nm ms && decide (ng = nw)
def stepE (c : Cfg) (ws ms : List Int) (nw nm ng : Nat) (rate : Int) : Int := if cfgB c = true then (if stepF c ws ms nw nm ng = true then (if inB rate 0 2147483647 = true then 0 else 1) else 5) else 1
def moveG (c : Cfg) (ms gs : List Int) (i : Nat) : Int := if c.how = 1 then addI (mulI c.keep (ms.getD i 0)) (gs.getD i 0) else clampI (gs.getD i 0)
def keptG (c : Cfg) (ms gs : List Int) (i : Nat) : Int := if c.how = 1 then moveG c ms gs i else ms.getD i 0
def goneG (c : Cfg) (ws ms gs : List Int) (rate : Int) (i : Nat) : Int := subI (ws.getD i 0) (mulI rate (moveG c ms gs i))
def stepW (c : Cfg) (ws ms gs : List Int) (nw nm ng : Nat) (rate : Int) : List Int := if stepE c ws ms nw nm ng rate = 0 then (List.range ng).map (goneG c ws ms gs rate) else []
def stepM (c : Cfg) (ws ms gs : List Int) (nw nm ng : Nat) (rate : Int) : List Int := if stepE c ws ms nw nm ng rate = 0 then (List.range ng).map (keptG c ms gs) else []
theorem sizeN_bd {c : Cfg} (h : cfgB c = true) : 4 ≤ sizeN c ∧ sizeN c ≤ 40 := by
  obtain ⟨⟨i1, i2⟩, ⟨h1, h2⟩, ⟨o1, o2⟩, _⟩ := cfgB_is h
  have a1 := Int.mul_le_mul_of_nonneg_right (c := c.i) h2 (by omega)
  have a2 := Int.mul_le_mul_of_nonneg_right (c := c.i) h1 (by omega)
  have b1 := Int.mul_le_mul_of_nonneg_right (c := c.h) o2 (by omega)
  have b2 := Int.mul_le_mul_of_nonneg_right (c := c.h) o1 (by omega)
  unfold sizeN
  omega
theorem fit_len {c : Cfg} (h : cfgB c = true) {len : Nat} {xs : List Int} (hf : fitB c len xs = true) : (len : Int) = sizeN c ∧ len ≤ 40 ∧ 4 ≤ len ∧ rightB xs = true := by
  simp only [fitB, Bool.and_eq_true, decide_eq_true_eq] at hf
  have := sizeN_bd h
  exact ⟨hf.1, by omega, by omega, hf.2⟩
end Go.Proofs.YtimciamfgpdjlaaGreat.Fx
