/- What pupil.Grad returns. -/
import Derived.Test.YtmoeogecafjcmaaPupG
import Derived.Test.YtmoeogecafjcmaaPupD
import Derived.Test.YtmoeogecafjcmaaVecE
namespace Go.Proofs.Ytmoeogecafjcmaa.Fx
open Go.RowKit

/-- What is to be learnt: of the hidden ones; and all of it. -/
def graG (d : PD) (xs ys : List Int) (I H O k : Nat) : Int := if (hidL d xs I H).getD k 0 = 0 then 0 else backG d.X2 (difL d xs ys I H O) O H k
def graL (d : PD) (xs ys : List Int) (I H O : Nat) : List Int := (List.range H).map (graG d xs ys I H O)
def graD (d : PD) (xs ys : List Int) (I H O : Nat) : PD :=
  ⟨(List.range (H * I)).map (outerG (graL d xs ys I H O) xs I), (List.range (O * H)).map (outerG (difL d xs ys I H O) (hidL d xs I H) H), graL d xs ys I H O, difL d xs ys I H O⟩

theorem grown1 {w w1 : World} {b : Nat} (h : w.grownBy w1 (some b)) (i : Nat) (v : Value) : w.grownBy (w1.setCell ⟨b, i, none⟩ v) (some b) :=
  ⟨h.os, h.tape, h.output, by simpa using h.size, fun k hk hne => (Go.Deep.blk_setCell_other _ _ _ _ (by simpa using hne)).trans (h.block k hk hne)⟩
theorem grown8 (w : World) (b : Nat) (v0 v1 v2 v3 v4 v5 v6 v7 : Value) :
    w.grownBy ((((((((w.setCell ⟨b, 0, none⟩ v0).setCell ⟨b, 1, none⟩ v1).setCell ⟨b, 2, none⟩ v2).setCell ⟨b, 3, none⟩ v3).setCell ⟨b, 4, none⟩ v4).setCell ⟨b, 5, none⟩ v5).setCell ⟨b, 6, none⟩ v6).setCell ⟨b, 7, none⟩ v7) (some b) :=
  grown1 (grown1 (grown1 (grown1 (grown1 (grown1 (grown1 (grown1 (World.grownBy.refl w _) 0 v0) 1 v1) 2 v2) 3 v3) 4 v4) 5 v5) 6 v6) 7 v7
theorem Lst.grown {w w' : World} {g off n c b : Nat} {xs : List Int} (h : Lst w (some ⟨g, off, none⟩) n c xs) (hg : w.grownBy w' (some b)) (hne : g ≠ b) : Lst w' (some ⟨g, off, none⟩) n c xs := by
  refine ⟨h.1, h.2.1, ?_⟩
  rcases h.2.2 with h0 | ⟨b', off', e, hs, hc⟩
  · exact .inl h0
  · simp only [Option.some.injEq, Addr.mk.injEq, and_true] at e
    obtain ⟨rfl, rfl⟩ := e
    exact .inr ⟨g, off, rfl, Nat.lt_of_lt_of_le hs hg.size, fun i hi => hg.cell (hc i hi) (by simpa using hne)⟩

theorem low_alloc (w : World) (o : Obj) : Below w.heap.size w (w.alloc o) := (Below.refl _ _).alloc (Nat.le_refl _) o

set_option maxHeartbeats 1600000 in
theorem pgrad_bad (p : Pup) (d : PD) (x : Exm) (w : World) (hp : InPup w p d) (hne : exI p d x.n x.m ≠ 0) :
    Calls Try.prog 46 #[p.val, x.val] w fun e w' => e = .returned (.tuple #[noPup.val, .int .i64 (exI p d x.n x.m)]) ∧ Below w.heap.size w w' := by
  have hal0 := low_alloc w (.cells p.cells 47)
  have hal1 := hal0.alloc hal0.size (.cells #[.slice x.a x.n x.k, .slice x.b x.m x.t] 59)
  have hal := hal1.alloc hal1.size (.cells #[.int .i64 0, .int .i64 0, .slice none 0 0, .int .i64 0, .int .i64 0, .slice none 0 0, .slice none 0 0, .slice none 0 0] 47)
  have hcall := pboth_calls p d x _ (hp.below hal (Nat.le_refl _))
  have hst := fn8_alloc ((w.alloc (.cells p.cells 47)).alloc (.cells #[.slice x.a x.n x.k, .slice x.b x.m x.t] 59)) (.int .i64 0) (.int .i64 0) (.slice none 0 0) (.int .i64 0) (.int .i64 0) (.slice none 0 0) (.slice none 0 0) (.slice none 0 0) 47
  clear hal0 hal1 hp
  have hE' : (exI p d x.n x.m != 0) = true := by rw [bne_iff_ne]; exact hne
  generalize exI p d x.n x.m = E at *
  obtain ⟨r1, c1, a1, n1, k1, r2, c2, a2, n2, k2, d1, m1, t1, d2, m2, t2⟩ := p
  obtain ⟨xa, xn, xk, xb, xm, xt⟩ := x
  simp only [Pup.val, Pup.cells, Exm.val] at *
  simp at hst
  go_enter Try.func46, Try.ntmps46
  go_wp2_with fail
  refine hcall.mono ?_
  rintro e w1 ⟨rfl, hw1⟩
  have hst1 := rowIs_below hst hw1 (by simp)
  obtain ⟨f0, f1, f2, f3, f4, f5, f6, f7⟩ := fn8_box hst1
  have g0 := hst1.frozen 0
  have g1 := hst1.frozen 1
  have g2 := hst1.frozen 2
  have g3 := hst1.frozen 3
  have g4 := hst1.frozen 4
  have g5 := hst1.frozen 5
  have g6 := hst1.frozen 6
  have g7 := hst1.frozen 7
  have hbw := hal.trans (hw1.mono hal.size)
  have hb8 := (((((((hbw.setCell (p := ⟨w.heap.size + 1 + 1, 0, none⟩) (by simp; omega) (.int .i64 0)).setCell (p := ⟨w.heap.size + 1 + 1, 1, none⟩) (by simp; omega) (.int .i64 0)).setCell (p := ⟨w.heap.size + 1 + 1, 2, none⟩) (by simp; omega) (.slice none 0 0)).setCell (p := ⟨w.heap.size + 1 + 1, 3, none⟩) (by simp; omega) (.int .i64 0)).setCell (p := ⟨w.heap.size + 1 + 1, 4, none⟩) (by simp; omega) (.int .i64 0)).setCell (p := ⟨w.heap.size + 1 + 1, 5, none⟩) (by simp; omega) (.slice none 0 0)).setCell (p := ⟨w.heap.size + 1 + 1, 6, none⟩) (by simp; omega) (.slice none 0 0)).setCell (p := ⟨w.heap.size + 1 + 1, 7, none⟩) (by simp; omega) (.slice none 0 0)
  have hst8 := fn8_set8 hst1 (.int .i64 0) (.int .i64 0) (.slice none 0 0) (.int .i64 0) (.int .i64 0) (.slice none 0 0) (.slice none 0 0) (.slice none 0 0)
  clear hcall hw1 hal hst
  go_wp2
  refine (fun (key : ∀ wz : World, wz.rowIs (w.heap.size + 1 + 1) 47 8 (fn8 (.int .i64 0) (.int .i64 0) (.slice none 0 0) (.int .i64 0) (.int .i64 0) (.slice none 0 0) (.slice none 0 0) (.slice none 0 0)) → Below w.heap.size w wz → bodyPost Try.prog Try.f46 _ Exit.ret _ wz) => (by first | exact key _ hst8 hb8 | exact key _ hst1 hbw)) ?_
  clear hst1 hbw hst8 hb8 f0 f1 f2 f3 f4 f5 f6 f7
  intro wz hq hbq
  obtain ⟨q0, q1, q2, q3, q4, q5, q6, q7⟩ := fn8_box hq
  exact bodyPost_ret (v := .tuple #[noPup.val, .int .i64 E]) (by simp [results, Try.results46, go_sem, noPup, Pup.val, Pup.cells, q0, q1, q2, q3, q4, q5, q6, q7]) rfl ⟨rfl, hbq⟩

set_option maxHeartbeats 3200000 in
theorem pgrad_good (I H O : Nat) (a1 : Option Addr) (k1 : Nat) (a2 : Option Addr) (k2 : Nat) (d1 : Option Addr) (e1 : Nat) (d2 : Option Addr) (e2 : Nat) (d : PD) (v : Option Addr) (cv : Nat) (xs : List Int) (u : Option Addr) (cu : Nat) (ys : List Int) (w : World) (h : InPup w (rpup I H O a1 k1 a2 k2 d1 e1 d2 e2) d) (hv : Lst w v I cv xs) (hu : Lst w u O cu ys) (hr : RightD d) (i1 : 1 ≤ I) (i2 : I ≤ 4) (j1 : 1 ≤ H) (j2 : H ≤ 4) (o1 : 1 ≤ O) (o2 : O ≤ 4) :
    Calls Try.prog 46 #[(rpup I H O a1 k1 a2 k2 d1 e1 d2 e2).val, .agg #[.slice v I cv, .slice u O cu]] w fun e w' => ∃ x1 x2 y1 y2, e = .returned (.tuple #[(rpup I H O x1 (H * I) x2 (O * H) y1 H y2 O).val, .int .i64 0]) ∧ InPup w' (rpup I H O x1 (H * I) x2 (O * H) y1 H y2 O) (graD d xs ys I H O) ∧ Below w.heap.size w w' := by
  have hal0 := low_alloc w (.cells (rpup I H O a1 k1 a2 k2 d1 e1 d2 e2).cells 47)
  have hal1 := hal0.alloc hal0.size (.cells #[.slice v I cv, .slice u O cu] 59)
  have hal := hal1.alloc hal1.size (.cells #[.int .i64 0, .int .i64 0, .slice none 0 0, .int .i64 0, .int .i64 0, .slice none 0 0, .slice none 0 0, .slice none 0 0] 47)
  have hst := fn8_alloc ((w.alloc (.cells (rpup I H O a1 k1 a2 k2 d1 e1 d2 e2).cells 47)).alloc (.cells #[.slice v I cv, .slice u O cu] 59)) (.int .i64 0) (.int .i64 0) (.slice none 0 0) (.int .i64 0) (.int .i64 0) (.slice none 0 0) (.slice none 0 0) (.slice none 0 0) 47
  have hc0 := pboth_calls _ d ⟨v, I, cv, u, O, cu⟩ _ (h.below hal (Nat.le_refl _))
  have hz : exI (rpup I H O a1 k1 a2 k2 d1 e1 d2 e2) d I O = 0 := by
    unfold exI
    rw [if_pos (pchk_right i1 i2 j1 j2 o1 o2 hr), if_pos ⟨rfl, rfl⟩]
  rw [hz] at hc0
  have HC1 : Hid (∀ q, Below w.heap.size w q → Calls Try.prog 63 #[(rpup I H O a1 k1 a2 k2 d1 e1 d2 e2).val, .slice v I cv] q fun e w' => ∃ ah ay, e = .returned (.tuple #[.slice ah H H, .slice ay O O]) ∧ Lst w' ah H H (hidL d xs I H) ∧ Lst w' ay O O (outYL d xs I H O) ∧ Below q.heap.size q w') :=
    fun q hq => forward_calls I H O a1 k1 a2 k2 d1 e1 d2 e2 d v cv xs q (h.below hq (Nat.le_refl _)) (hv.below hq (Nat.le_refl _)) hr i1 i2 j1 j2 o1 o2
  have HC2 : Hid (∀ q ad, Below w.heap.size w q → Lst q ad O O (difL d xs ys I H O) → Calls Try.prog 27 #[.agg #[.int .i64 O, .int .i64 H, .slice a2 (O * H) k2], .slice ad O O] q fun e w' => ∃ g, e = .returned (.tuple #[.slice (some ⟨g, 0, none⟩) H H, .int .i64 0]) ∧ q.heap.size ≤ g ∧ w'.rowIs g 3 H (rowTo (backG d.X2 (difL d xs ys I H O) O H) H) ∧ Below q.heap.size q w') :=
    fun q ad hq hl => vBack_row O H a2 k2 d.X2 ad O _ q (h.below hq (Nat.le_refl _)).x2 hl o1 o2 j1 j2 hr.2.1
  have HV : Hid (∀ q, Below w.heap.size w q → Lst q v I cv xs) := fun q hq => hv.below hq (Nat.le_refl _)
  have HU : Hid (∀ q, Below w.heap.size w q → Lst q u O cu ys) := fun q hq => hu.below hq (Nat.le_refl _)
  clear h hv hu hz hal0 hal1
  simp only [Pup.val, Pup.cells, rpup, Exm.val] at *
  simp at hst
  generalize hB : (((w.alloc (.cells #[.int .i64 H, .int .i64 I, .slice a1 (H * I) k1, .int .i64 O, .int .i64 H, .slice a2 (O * H) k2, .slice d1 H e1, .slice d2 O e2] 47)).alloc (.cells #[.slice v I cv, .slice u O cu] 59)).alloc (.cells #[.int .i64 0, .int .i64 0, .slice none 0 0, .int .i64 0, .int .i64 0, .slice none 0 0, .slice none 0 0, .slice none 0 0] 47)) = W3 at hal hst hc0
  have hWs : W3.heap.size = w.heap.size + 1 + 1 + 1 := by rw [← hB]; simp
  have KA : Hid (∀ q, Below W3.heap.size W3 q → Box8 q w.heap.size (.int .i64 H) (.int .i64 I) (.slice a1 (H * I) k1) (.int .i64 O) (.int .i64 H) (.slice a2 (O * H) k2) (.slice d1 H e1) (.slice d2 O e2)) := by
    intro q hq
    rw [hWs, ← hB] at hq
    exact boxA (B := w.heap.size + 1) (((Below.refl _ _).alloc (by simp) _).trans (hq.mono (by omega))) (by omega)
  have KE : Hid (∀ q, Below W3.heap.size W3 q → q.cell? ⟨w.heap.size + 1, 0, none⟩ = some (.slice v I cv) ∧ q.cell? ⟨w.heap.size + 1, 1, none⟩ = some (.slice u O cu)) := by
    intro q hq
    rw [hWs, ← hB] at hq
    exact boxE (B := w.heap.size + 1 + 1) (((Below.refl _ _).alloc (by simp) _).trans (hq.mono (by omega))) (by omega)
  have KR : Hid (∀ q, Below W3.heap.size W3 q → q.rowIs (w.heap.size + 1 + 1) 47 8 (fn8 (.int .i64 0) (.int .i64 0) (.slice none 0 0) (.int .i64 0) (.int .i64 0) (.slice none 0 0) (.slice none 0 0) (.slice none 0 0))) := fun q hq => rowIs_below hst hq (by omega)
  have KW : Hid (∀ q, Below W3.heap.size W3 q → Below w.heap.size w q) := fun q hq => hal.trans (hq.mono hal.size)
  have hB' : (((w.alloc (.cells #[.int .i64 H, .int .i64 I, .slice a1 (H * I) k1, .int .i64 O, .int .i64 H, .slice a2 (O * H) k2, .slice d1 H e1, .slice d2 O e2] 47)).alloc (.cells #[.slice v I cv, .slice u O cu] 59)).alloc (.cells #[.int .i64 0, .int .i64 0, .slice none 0 0, .int .i64 0, .int .i64 0, .slice none 0 0, .slice none 0 0, .slice none 0 0] 47)) = W3 := hB
  have HB : Hid ((((w.alloc (.cells #[.int .i64 H, .int .i64 I, .slice a1 (H * I) k1, .int .i64 O, .int .i64 H, .slice a2 (O * H) k2, .slice d1 H e1, .slice d2 O e2] 47)).alloc (.cells #[.slice v I cv, .slice u O cu] 59)).alloc (.cells #[.int .i64 0, .int .i64 0, .slice none 0 0, .int .i64 0, .int .i64 0, .slice none 0 0, .slice none 0 0, .slice none 0 0] 47)) = W3) := hB
  clear hB hB' hst hal
  have s1 := prod_sideN j2 i2
  have s2 := prod_sideN o2 j2
  go_enter Try.func46, Try.ntmps46
  go_wp2_with fail
  rw [HB.out]
  refine hc0.mono ?_
  rintro e w1 ⟨rfl, T1⟩
  obtain ⟨f0, f1, f2, f3, f4, f5, f6, f7⟩ := KA.out _ T1
  obtain ⟨x0, x1⟩ := KE.out _ T1
  have hc1 := HC1.out _ (KW.out _ T1)
  clear hc0
  go_wp2_with fail
  refine hc1.mono ?_
  rintro e w2 ⟨ah, ay, rfl, hh, hy, hw2⟩
  have T2 := T1.trans (hw2.mono T1.size)
  clear hc1 hw2 T1 f0 f1 f2 f3 f4 f5 f6 f7 x0 x1
  obtain ⟨x0, x1⟩ := KE.out _ T2
  have hc2 := less_calls ay u O O cu _ ys w2 hy (HU.out _ (KW.out _ T2)) (by omega)
  go_wp2_with fail
  refine hc2.mono ?_
  rintro e w3 ⟨gd, rfl, hgd, hd, hw3⟩
  have hh3 := hh.below hw3 (Nat.le_refl _)
  have T3 := T2.trans (hw3.mono T2.size)
  have hd3 : Lst w3 (some ⟨gd, 0, none⟩) O O (difL d xs ys I H O) := hd
  have hgd' : W3.heap.size ≤ gd := Nat.le_trans T2.size hgd
  have hg3' : W3.heap.size ≤ w3.heap.size := T3.size
  clear hc2 hw3 T2 x0 x1 hh hy hd
  obtain ⟨f0, f1, f2, f3, f4, f5, f6, f7⟩ := KA.out _ T3
  have hc3 := HC2.out _ (some ⟨gd, 0, none⟩) (KW.out _ T3) hd3
  go_wp2_with fail
  refine hc3.mono ?_
  rintro e w4 ⟨g, rfl, hg, hrow, hw4⟩
  clear hc3 f0 f1 f2 f3 f4 f5 f6 f7
  go_wp2
  go_loopw [44] (fun i wr => ∃ k : Nat, k ≤ H ∧ i = .int .i64 k ∧ wr.rowIs g 3 H (midTo (graG d xs ys I H O) (backG d.X2 (difL d xs ys I H O) O H) k) ∧ Below w3.heap.size w3 wr) (fun i _ => H - (intOf i).toNat)
  case atStart => exact ⟨0, Nat.zero_le _, rfl, midTo_start hrow, hw4⟩
  case round =>
    obtain ⟨k, hk, rfl, hrow, hbel⟩ := hrel
    by_cases hlt : k < H
    · have c3 := midTo_cell hrow hlt
      have f3 := hrow.frozen k
      obtain ⟨b1, o1', x, rfl, sb1, c1, HX⟩ := hh3.at1b hbel (Nat.le_refl _) hlt
      by_cases hx : x = 0
      · have hx' : (x == 0) = true := by simpa using hx
        have HG : Hid (graG d xs ys I H O k = 0) := by show (if (hidL d xs I H).getD k 0 = 0 then 0 else backG d.X2 (difL d xs ys I H O) O H k) = 0; rw [HX.out]; exact if_pos hx
        clear hx
        go_wp2
        go_roundw
        case rel =>
          have st := midTo_step hrow
          rw [HG.out] at st
          exact ⟨k + 1, by omega, by go_num, st, hbel.setCell (by exact hg) _⟩
        case measure => simp [intOf]; omega
      · have hx' : (x == 0) = false := by simpa using hx
        have HG : Hid (graG d xs ys I H O k = backG d.X2 (difL d xs ys I H O) O H k) := by show (if (hidL d xs I H).getD k 0 = 0 then 0 else backG d.X2 (difL d xs ys I H O) O H k) = _; rw [HX.out]; exact if_neg hx
        go_wp2
        go_roundw
        case rel => exact ⟨k + 1, by omega, by go_num, midTo_skip hrow HG.out, hbel⟩
        case measure => simp [intOf]; omega
    · obtain rfl : k = H := by omega
      have hgl : Lst wr (some ⟨g, 0, none⟩) k k (graL d xs ys I k O) := midTo_end hrow
      have T5 := T3.trans (hbel.mono T3.size)
      have hh5 := hh3.below hbel (Nat.le_refl _)
      have hd5 := hd3.below hbel (Nat.le_refl _)
      clear hrow hbel hh3 hd3 hw4 T3
      obtain ⟨x0, x1⟩ := KE.out _ T5
      have hc5 := vOuter_good (some ⟨g, 0, none⟩) v k k I cv _ xs wr hgl (HV.out _ (KW.out _ T5)) j1 j2 i1 i2
      go_wp2_with fail
      refine hc5.mono ?_
      rintro e w6 ⟨gw1, rfl, hgw1, hl6, hw6⟩
      have T6 := T5.trans (hw6.mono T5.size)
      have hal6 := low_alloc w6 (.cells #[.int .i64 k, .int .i64 I, .slice (some ⟨gw1, 0, none⟩) (k * I) (k * I)] 37)
      have T7 := T6.trans (hal6.mono T6.size)
      have hb67 := hw6.trans (hal6.mono hw6.size)
      have hc7 := vOuter_good (some ⟨gd, 0, none⟩) ah O O k k _ _ _ (hd5.below hb67 (Nat.le_refl _)) (hh5.below hb67 (Nat.le_refl _)) o1 o2 j1 j2
      clear hc5 x0 x1
      go_wp2_with fail
      refine hc7.mono ?_
      rintro e w8 ⟨gw2, rfl, hgw2, hl8, hw8⟩
      have hal8 := low_alloc w8 (.cells #[.int .i64 O, .int .i64 k, .slice (some ⟨gw2, 0, none⟩) (O * k) (O * k)] 37)
      have T8 := T7.trans (hw8.mono T7.size)
      have T9 := T8.trans (hal8.mono T8.size)
      have hb79 := hw8.trans (hal8.mono hw8.size)
      obtain ⟨m0, m1, m2⟩ := box3 _ _ _ _ hb79 (by simp)
      have hg9 := (hgl.below hb67 (Nat.le_refl _)).below hb79 (Nat.le_refl _)
      have hd9 := (hd5.below hb67 (Nat.le_refl _)).below hb79 (Nat.le_refl _)
      have hl69 := (hl6.below hal6 (Nat.le_refl _)).below hb79 (Nat.le_refl _)
      have hl89 := hl8.below hal8 (Nat.le_refl _)
      have hr9 := KR.out _ T9
      obtain ⟨q0, q1, q2, q3, q4, q5, q6, q7⟩ := fn8_box hr9
      have g0 := hr9.frozen 0
      have g1 := hr9.frozen 1
      have g2 := hr9.frozen 2
      have g3 := hr9.frozen 3
      have g4 := hr9.frozen 4
      have g5 := hr9.frozen 5
      have g6 := hr9.frozen 6
      have g7 := hr9.frozen 7
      have hw1s : W3.heap.size ≤ gw1 := Nat.le_trans T5.size hgw1
      have hw2s : W3.heap.size ≤ gw2 := Nat.le_trans T7.size hgw2
      have hgs : W3.heap.size ≤ g := Nat.le_trans hg3' hg
      clear hc7 hb67 hb79 hgl hd5 hh5 hl6 hl8 T5 T6 T7 T8 hal6 hal8 hw6 hw8
      go_wp2
      have hq := fn8_set8 hr9 (.int .i64 k) (.int .i64 I) (.slice (some ⟨gw1, 0, none⟩) (k * I) (k * I)) (.int .i64 O) (.int .i64 k) (.slice (some ⟨gw2, 0, none⟩) (O * k) (O * k)) (.slice (some ⟨g, 0, none⟩) k k) (.slice (some ⟨gd, 0, none⟩) O O)
      have hgr := grown8 (w8.alloc (.cells #[.int .i64 O, .int .i64 k, .slice (some ⟨gw2, 0, none⟩) (O * k) (O * k)] 37)) (w.heap.size + 1 + 1) (.int .i64 k) (.int .i64 I) (.slice (some ⟨gw1, 0, none⟩) (k * I) (k * I)) (.int .i64 O) (.int .i64 k) (.slice (some ⟨gw2, 0, none⟩) (O * k) (O * k)) (.slice (some ⟨g, 0, none⟩) k k) (.slice (some ⟨gd, 0, none⟩) O O)
      refine (fun (key : ∀ wz : World, wz.rowIs (w.heap.size + 1 + 1) 47 8 (fn8 (.int .i64 k) (.int .i64 I) (.slice (some ⟨gw1, 0, none⟩) (k * I) (k * I)) (.int .i64 O) (.int .i64 k) (.slice (some ⟨gw2, 0, none⟩) (O * k) (O * k)) (.slice (some ⟨g, 0, none⟩) k k) (.slice (some ⟨gd, 0, none⟩) O O)) → (w8.alloc (.cells #[.int .i64 O, .int .i64 k, .slice (some ⟨gw2, 0, none⟩) (O * k) (O * k)] 37)).grownBy wz (some (w.heap.size + 1 + 1)) → bodyPost Try.prog Try.f46 _ Exit.ret _ wz) => key _ hq hgr) ?_
      clear hq hgr hr9 q0 q1 q2 q3 q4 q5 q6 q7 g0 g1 g2 g3 g4 g5 g6 g7 m0 m1 m2
      intro wz hq hgr
      obtain ⟨q0, q1, q2, q3, q4, q5, q6, q7⟩ := fn8_box hq
      have hbw := KW.out _ T9
      refine bodyPost_ret (v := .tuple #[(rpup I k O (some ⟨gw1, 0, none⟩) (k * I) (some ⟨gw2, 0, none⟩) (O * k) (some ⟨g, 0, none⟩) k (some ⟨gd, 0, none⟩) O).val, .int .i64 0]) (by simp [results, Try.results46, go_sem, rpup, Pup.val, Pup.cells, q0, q1, q2, q3, q4, q5, q6, q7]) rfl ⟨some ⟨gw1, 0, none⟩, some ⟨gw2, 0, none⟩, some ⟨g, 0, none⟩, some ⟨gd, 0, none⟩, rfl, ⟨?_, ?_, ?_, ?_⟩, hbw.grown hgr hbw.size (fun k hk => by simp at hk; omega)⟩
      · exact hl69.grown hgr (by omega)
      · exact hl89.grown hgr (by omega)
      · exact hg9.grown hgr (by omega)
      · exact hd9.grown hgr (by omega)
end Go.Proofs.Ytmoeogecafjcmaa.Fx
