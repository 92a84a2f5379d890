/- What pupil.Grad returns of right things, and where its lists lie. -/
import Derived.Test.YthmiojmlaclgaaaGreatDoorJ06
import Derived.Test.YthmiojmlaclgaaaGreatDoorJ13
import Derived.Test.YthmiojmlaclgaaaGreatDoorJ14
import Derived.Test.YthmiojmlaclgaaaGreatDoorJ07
import Derived.Deep.RegionHeld3
namespace Go.Proofs.YthmiojmlaclgaaaGreatDoor.Fx
open Go.RowKit

set_option maxHeartbeats 3200000 in
theorem pgrad_at (I H O : Nat) (a1 : Option Addr) (k1 : Nat) (a2 : Option Addr) (k2 : Nat) (d1 : Option Addr) (e1 : Nat) (d2 : Option Addr) (e2 : Nat) (d : PD) (v : Option Addr) (cv : Nat) (xs : List Int) (u : Option Addr) (cu : Nat) (ys : List Int) (w : World) (h : InPup w (rpup I H O a1 k1 a2 k2 d1 e1 d2 e2) d) (hv : Lst w v I cv xs) (hu : Lst w u O cu ys) (hr : RightD d) (i1 : 1 ≤ I) (i2 : I ≤ 4) (j1 : 1 ≤ H) (j2 : H ≤ 4) (o1 : 1 ≤ O) (o2 : O ≤ 4) :
    Calls Tryz.prog 187 #[(rpup I H O a1 k1 a2 k2 d1 e1 d2 e2).val, .agg #[.slice v I cv, .slice u O cu]] w fun e w' => ∃ g1 g2 g3 g4 : Nat, e = .returned (.tuple #[(rpup I H O (some ⟨g1, 0, none⟩) (H * I) (some ⟨g2, 0, none⟩) (O * H) (some ⟨g3, 0, none⟩) H (some ⟨g4, 0, none⟩) O).val, .int .i64 0]) ∧ (w.heap.size ≤ g1 ∧ w.heap.size ≤ g2 ∧ w.heap.size ≤ g3 ∧ w.heap.size ≤ g4) ∧ InPup w' (rpup I H O (some ⟨g1, 0, none⟩) (H * I) (some ⟨g2, 0, none⟩) (O * H) (some ⟨g3, 0, none⟩) H (some ⟨g4, 0, none⟩) O) (graD d xs ys I H O) ∧ Below w.heap.size w w' := by
  have hal0 := low_alloc w (.cells (rpup I H O a1 k1 a2 k2 d1 e1 d2 e2).cells 102)
  have hal1 := hal0.alloc hal0.size (.cells #[.slice v I cv, .slice u O cu] 78)
  have hal := hal1.alloc hal1.size (.cells #[.int .i64 0, .int .i64 0, .slice none 0 0, .int .i64 0, .int .i64 0, .slice none 0 0, .slice none 0 0, .slice none 0 0] 102)
  have hst := fn8_alloc ((w.alloc (.cells (rpup I H O a1 k1 a2 k2 d1 e1 d2 e2).cells 102)).alloc (.cells #[.slice v I cv, .slice u O cu] 78)) (.int .i64 0) (.int .i64 0) (.slice none 0 0) (.int .i64 0) (.int .i64 0) (.slice none 0 0) (.slice none 0 0) (.slice none 0 0) 102
  have hc0 := pboth_calls _ d ⟨v, I, cv, u, O, cu⟩ _ (h.below hal (Nat.le_refl _))
  have hz : exI (rpup I H O a1 k1 a2 k2 d1 e1 d2 e2) d I O = 0 := by
    unfold exI
    rw [if_pos (pchk_right i1 i2 j1 j2 o1 o2 hr), if_pos ⟨rfl, rfl⟩]
  rw [hz] at hc0
  have HC1 : Hid (∀ q, Below w.heap.size w q → Calls Tryz.prog 96 #[(rpup I H O a1 k1 a2 k2 d1 e1 d2 e2).val, .slice v I cv] q fun e w' => ∃ ah ay, e = .returned (.tuple #[.slice ah H H, .slice ay O O]) ∧ Lst w' ah H H (hidL d xs I H) ∧ Lst w' ay O O (outYL d xs I H O) ∧ Below q.heap.size q w') :=
    fun q hq => forward_calls I H O a1 k1 a2 k2 d1 e1 d2 e2 d v cv xs q (h.below hq (Nat.le_refl _)) (hv.below hq (Nat.le_refl _)) hr i1 i2 j1 j2 o1 o2
  have HC2 : Hid (∀ q ad, Below w.heap.size w q → Lst q ad O O (difL d xs ys I H O) → Calls Tryz.prog 219 #[.agg #[.int .i64 O, .int .i64 H, .slice a2 (O * H) k2], .slice ad O O] q fun e w' => ∃ g, e = .returned (.tuple #[.slice (some ⟨g, 0, none⟩) H H, .int .i64 0]) ∧ q.heap.size ≤ g ∧ w'.rowIs g 3 H (rowTo (backG d.X2 (difL d xs ys I H O) O H) H) ∧ Below q.heap.size q w') :=
    fun q ad hq hl => vBack_row O H a2 k2 d.X2 ad O _ q (h.below hq (Nat.le_refl _)).x2 hl o1 o2 j1 j2 hr.2.1
  have HV : Hid (∀ q, Below w.heap.size w q → Lst q v I cv xs) := fun q hq => hv.below hq (Nat.le_refl _)
  have HU : Hid (∀ q, Below w.heap.size w q → Lst q u O cu ys) := fun q hq => hu.below hq (Nat.le_refl _)
  clear h hv hu hz hal0 hal1
  simp only [Pup.val, Pup.cells, rpup, Exm.val] at *
  simp at hst
  generalize hB : (((w.alloc (.cells #[.int .i64 H, .int .i64 I, .slice a1 (H * I) k1, .int .i64 O, .int .i64 H, .slice a2 (O * H) k2, .slice d1 H e1, .slice d2 O e2] 102)).alloc (.cells #[.slice v I cv, .slice u O cu] 78)).alloc (.cells #[.int .i64 0, .int .i64 0, .slice none 0 0, .int .i64 0, .int .i64 0, .slice none 0 0, .slice none 0 0, .slice none 0 0] 102)) = W3 at hal hst hc0
  have hWs : W3.heap.size = w.heap.size + 1 + 1 + 1 := by rw [← hB]; simp
  have KA : Hid (∀ q, Below W3.heap.size W3 q → Box8 q w.heap.size (.int .i64 H) (.int .i64 I) (.slice a1 (H * I) k1) (.int .i64 O) (.int .i64 H) (.slice a2 (O * H) k2) (.slice d1 H e1) (.slice d2 O e2)) := by
    intro q hq
    rw [hWs, ← hB] at hq
    exact boxA (B := w.heap.size + 1) (((Below.refl _ _).alloc (by simp) _).trans (hq.mono (by omega))) (by omega)
  have KE : Hid (∀ q, Below W3.heap.size W3 q → q.cell? ⟨w.heap.size + 1, 0, none⟩ = some (.slice v I cv) ∧ q.cell? ⟨w.heap.size + 1, 1, none⟩ = some (.slice u O cu)) := by
    intro q hq
    rw [hWs, ← hB] at hq
    exact boxE (B := w.heap.size + 1 + 1) (((Below.refl _ _).alloc (by simp) _).trans (hq.mono (by omega))) (by omega)
  have KR : Hid (∀ q, Below W3.heap.size W3 q → q.rowIs (w.heap.size + 1 + 1) 102 8 (fn8 (.int .i64 0) (.int .i64 0) (.slice none 0 0) (.int .i64 0) (.int .i64 0) (.slice none 0 0) (.slice none 0 0) (.slice none 0 0))) := fun q hq => rowIs_below hst hq (by omega)
  have KW : Hid (∀ q, Below W3.heap.size W3 q → Below w.heap.size w q) := fun q hq => hal.trans (hq.mono hal.size)
  have hB' : (((w.alloc (.cells #[.int .i64 H, .int .i64 I, .slice a1 (H * I) k1, .int .i64 O, .int .i64 H, .slice a2 (O * H) k2, .slice d1 H e1, .slice d2 O e2] 102)).alloc (.cells #[.slice v I cv, .slice u O cu] 78)).alloc (.cells #[.int .i64 0, .int .i64 0, .slice none 0 0, .int .i64 0, .int .i64 0, .slice none 0 0, .slice none 0 0, .slice none 0 0] 102)) = W3 := hB
  have HB : Hid ((((w.alloc (.cells #[.int .i64 H, .int .i64 I, .slice a1 (H * I) k1, .int .i64 O, .int .i64 H, .slice a2 (O * H) k2, .slice d1 H e1, .slice d2 O e2] 102)).alloc (.cells #[.slice v I cv, .slice u O cu] 78)).alloc (.cells #[.int .i64 0, .int .i64 0, .slice none 0 0, .int .i64 0, .int .i64 0, .slice none 0 0, .slice none 0 0, .slice none 0 0] 102)) = W3) := hB
  clear hB hB' hst hal
  have s1 := prod_sideN j2 i2
  have s2 := prod_sideN o2 j2
  go_enter Tryz.func187, Tryz.ntmps187
  go_wp2_with fail
  rw [HB.out]
  refine hc0.mono ?_
  rintro e w1 ⟨rfl, T1⟩
  obtain ⟨f0, f1, f2, f3, f4, f5, f6, f7⟩ := KA.out _ T1
  obtain ⟨x0, x1⟩ := KE.out _ T1
  have hc1 := HC1.out _ (KW.out _ T1)
  clear hc0
  go_wp2_with fail
  refine hc1.mono ?_
  rintro e w2 ⟨ah, ay, rfl, hh, hy, hw2⟩
  have T2 := T1.trans (hw2.mono T1.size)
  clear hc1 hw2 T1 f0 f1 f2 f3 f4 f5 f6 f7 x0 x1
  obtain ⟨x0, x1⟩ := KE.out _ T2
  have hc2 := less_calls ay u O O cu _ ys w2 hy (HU.out _ (KW.out _ T2)) (by omega)
  go_wp2_with fail
  refine hc2.mono ?_
  rintro e w3 ⟨gd, rfl, hgd, hd, hw3⟩
  have hh3 := hh.below hw3 (Nat.le_refl _)
  have T3 := T2.trans (hw3.mono T2.size)
  have hd3 : Lst w3 (some ⟨gd, 0, none⟩) O O (difL d xs ys I H O) := hd
  have hgd' : W3.heap.size ≤ gd := Nat.le_trans T2.size hgd
  have hg3' : W3.heap.size ≤ w3.heap.size := T3.size
  clear hc2 hw3 T2 x0 x1 hh hy hd
  obtain ⟨f0, f1, f2, f3, f4, f5, f6, f7⟩ := KA.out _ T3
  have hc3 := HC2.out _ (some ⟨gd, 0, none⟩) (KW.out _ T3) hd3
  go_wp2_with fail
  refine hc3.mono ?_
  rintro e w4 ⟨g, rfl, hg, hrow, hw4⟩
  clear hc3 f0 f1 f2 f3 f4 f5 f6 f7
  go_wp2
  go_loopw [44] (fun i wr => ∃ k : Nat, k ≤ H ∧ i = .int .i64 k ∧ wr.rowIs g 3 H (midTo (graG d xs ys I H O) (backG d.X2 (difL d xs ys I H O) O H) k) ∧ Below w3.heap.size w3 wr) (fun i _ => H - (intOf i).toNat)
  case atStart => exact ⟨0, Nat.zero_le _, rfl, midTo_start hrow, hw4⟩
  case round =>
    obtain ⟨k, hk, rfl, hrow, hbel⟩ := hrel
    by_cases hlt : k < H
    · have c3 := midTo_cell hrow hlt
      have f3 := hrow.frozen k
      obtain ⟨b1, o1', x, rfl, sb1, c1, HX⟩ := hh3.at1b hbel (Nat.le_refl _) hlt
      by_cases hx : x = 0
      · have hx' : (x == 0) = true := by simpa using hx
        have HG : Hid (graG d xs ys I H O k = 0) := by show (if (hidL d xs I H).getD k 0 = 0 then 0 else backG d.X2 (difL d xs ys I H O) O H k) = 0; rw [HX.out]; exact if_pos hx
        clear hx
        go_wp2
        go_roundw
        case rel =>
          have st := midTo_step hrow
          rw [HG.out] at st
          exact ⟨k + 1, by omega, by go_num, st, hbel.setCell (by exact hg) _⟩
        case measure => simp [intOf]; omega
      · have hx' : (x == 0) = false := by simpa using hx
        have HG : Hid (graG d xs ys I H O k = backG d.X2 (difL d xs ys I H O) O H k) := by show (if (hidL d xs I H).getD k 0 = 0 then 0 else backG d.X2 (difL d xs ys I H O) O H k) = _; rw [HX.out]; exact if_neg hx
        go_wp2
        go_roundw
        case rel => exact ⟨k + 1, by omega, by go_num, midTo_skip hrow HG.out, hbel⟩
        case measure => simp [intOf]; omega
    · obtain rfl : k = H := by omega
      have hgl : Lst wr (some ⟨g, 0, none⟩) k k (graL d xs ys I k O) := midTo_end hrow
      have T5 := T3.trans (hbel.mono T3.size)
      have hh5 := hh3.below hbel (Nat.le_refl _)
      have hd5 := hd3.below hbel (Nat.le_refl _)
      clear hrow hbel hh3 hd3 hw4 T3
      obtain ⟨x0, x1⟩ := KE.out _ T5
      have hc5 := vOuter_good (some ⟨g, 0, none⟩) v k k I cv _ xs wr hgl (HV.out _ (KW.out _ T5)) j1 j2 i1 i2
      go_wp2_with fail
      refine hc5.mono ?_
      rintro e w6 ⟨gw1, rfl, hgw1, hl6, hw6⟩
      have T6 := T5.trans (hw6.mono T5.size)
      have hal6 := low_alloc w6 (.cells #[.int .i64 k, .int .i64 I, .slice (some ⟨gw1, 0, none⟩) (k * I) (k * I)] 100)
      have T7 := T6.trans (hal6.mono T6.size)
      have hb67 := hw6.trans (hal6.mono hw6.size)
      have hc7 := vOuter_good (some ⟨gd, 0, none⟩) ah O O k k _ _ _ (hd5.below hb67 (Nat.le_refl _)) (hh5.below hb67 (Nat.le_refl _)) o1 o2 j1 j2
      clear hc5 x0 x1
      go_wp2_with fail
      refine hc7.mono ?_
      rintro e w8 ⟨gw2, rfl, hgw2, hl8, hw8⟩
      have hal8 := low_alloc w8 (.cells #[.int .i64 O, .int .i64 k, .slice (some ⟨gw2, 0, none⟩) (O * k) (O * k)] 100)
      have T8 := T7.trans (hw8.mono T7.size)
      have T9 := T8.trans (hal8.mono T8.size)
      have hb79 := hw8.trans (hal8.mono hw8.size)
      obtain ⟨m0, m1, m2⟩ := box3 _ _ _ _ hb79 (by simp)
      have hg9 := (hgl.below hb67 (Nat.le_refl _)).below hb79 (Nat.le_refl _)
      have hd9 := (hd5.below hb67 (Nat.le_refl _)).below hb79 (Nat.le_refl _)
      have hl69 := (hl6.below hal6 (Nat.le_refl _)).below hb79 (Nat.le_refl _)
      have hl89 := hl8.below hal8 (Nat.le_refl _)
      have hr9 := KR.out _ T9
      obtain ⟨q0, q1, q2, q3, q4, q5, q6, q7⟩ := fn8_box hr9
      have g0 := hr9.frozen 0
      have g1 := hr9.frozen 1
      have g2 := hr9.frozen 2
      have g3 := hr9.frozen 3
      have g4 := hr9.frozen 4
      have g5 := hr9.frozen 5
      have g6 := hr9.frozen 6
      have g7 := hr9.frozen 7
      have hw1s : W3.heap.size ≤ gw1 := Nat.le_trans T5.size hgw1
      have hw2s : W3.heap.size ≤ gw2 := Nat.le_trans T7.size hgw2
      have hgs : W3.heap.size ≤ g := Nat.le_trans hg3' hg
      clear hc7 hb67 hb79 hgl hd5 hh5 hl6 hl8 T5 T6 T7 T8 hal6 hal8 hw6 hw8
      go_wp2
      have hq := fn8_set8 hr9 (.int .i64 k) (.int .i64 I) (.slice (some ⟨gw1, 0, none⟩) (k * I) (k * I)) (.int .i64 O) (.int .i64 k) (.slice (some ⟨gw2, 0, none⟩) (O * k) (O * k)) (.slice (some ⟨g, 0, none⟩) k k) (.slice (some ⟨gd, 0, none⟩) O O)
      have hgr := grown8 (w8.alloc (.cells #[.int .i64 O, .int .i64 k, .slice (some ⟨gw2, 0, none⟩) (O * k) (O * k)] 100)) (w.heap.size + 1 + 1) (.int .i64 k) (.int .i64 I) (.slice (some ⟨gw1, 0, none⟩) (k * I) (k * I)) (.int .i64 O) (.int .i64 k) (.slice (some ⟨gw2, 0, none⟩) (O * k) (O * k)) (.slice (some ⟨g, 0, none⟩) k k) (.slice (some ⟨gd, 0, none⟩) O O)
      refine (fun (key : ∀ wz : World, wz.rowIs (w.heap.size + 1 + 1) 102 8 (fn8 (.int .i64 k) (.int .i64 I) (.slice (some ⟨gw1, 0, none⟩) (k * I) (k * I)) (.int .i64 O) (.int .i64 k) (.slice (some ⟨gw2, 0, none⟩) (O * k) (O * k)) (.slice (some ⟨g, 0, none⟩) k k) (.slice (some ⟨gd, 0, none⟩) O O)) → (w8.alloc (.cells #[.int .i64 O, .int .i64 k, .slice (some ⟨gw2, 0, none⟩) (O * k) (O * k)] 100)).grownBy wz (some (w.heap.size + 1 + 1)) → bodyPost Tryz.prog Tryz.f187 _ Exit.ret _ wz) => key _ hq hgr) ?_
      clear hq hgr hr9 q0 q1 q2 q3 q4 q5 q6 q7 g0 g1 g2 g3 g4 g5 g6 g7 m0 m1 m2
      intro wz hq hgr
      obtain ⟨q0, q1, q2, q3, q4, q5, q6, q7⟩ := fn8_box hq
      have hbw := KW.out _ T9
      refine bodyPost_ret (v := .tuple #[(rpup I k O (some ⟨gw1, 0, none⟩) (k * I) (some ⟨gw2, 0, none⟩) (O * k) (some ⟨g, 0, none⟩) k (some ⟨gd, 0, none⟩) O).val, .int .i64 0]) (by simp [results, Tryz.results187, go_sem, rpup, Pup.val, Pup.cells, q0, q1, q2, q3, q4, q5, q6, q7]) rfl ⟨gw1, gw2, g, gd, rfl, ⟨by omega, by omega, by omega, by omega⟩, ⟨?_, ?_, ?_, ?_⟩, hbw.grown hgr hbw.size (fun k hk => by simp at hk; omega)⟩
      · exact hl69.grown hgr (by omega)
      · exact hl89.grown hgr (by omega)
      · exact hg9.grown hgr (by omega)
      · exact hd9.grown hgr (by omega)
end Go.Proofs.YthmiojmlaclgaaaGreatDoor.Fx

/- What train.mean returns, of right things. -/
namespace Go.Proofs.YthmiojmlaclgaaaGreatDoor.Fx
open Go.RowKit

theorem via7 {P : Prop} {F Q : Nat → Nat → Nat → Nat → Nat → World → Prop} (h1 : (∀ g1 g2 g3 g4 GB q, F g1 g2 g3 g4 GB q → Q g1 g2 g3 g4 GB q) → P) (h2 : ∀ g1 g2 g3 g4 GB q, F g1 g2 g3 g4 GB q → Q g1 g2 g3 g4 GB q) : P := h1 h2
/-- Behind the gradient: where its struct lies. -/
structure GrAt (W : World) (I H O : Nat) (D : PD) (g1 g2 g3 g4 GB : Nat) (q : World) : Prop where
  row : q.rowIs GB 102 8 (fn8 (.int .i64 H) (.int .i64 I) (.slice (some ⟨g1, 0, none⟩) (H * I) (H * I)) (.int .i64 O) (.int .i64 H) (.slice (some ⟨g2, 0, none⟩) (O * H) (O * H)) (.slice (some ⟨g3, 0, none⟩) H H) (.slice (some ⟨g4, 0, none⟩) O O))
  pup : InPup q (rpup I H O (some ⟨g1, 0, none⟩) (H * I) (some ⟨g2, 0, none⟩) (O * H) (some ⟨g3, 0, none⟩) H (some ⟨g4, 0, none⟩) O) D
  bel : Below W.heap.size W q
theorem below_grown8 {W w : World} (h : Below W.heap.size W w) {b : Nat} (hb : W.heap.size ≤ b) (v0 v1 v2 v3 v4 v5 v6 v7 : Value) :
    Below W.heap.size W ((((((((w.setCell ⟨b, 0, none⟩ v0).setCell ⟨b, 1, none⟩ v1).setCell ⟨b, 2, none⟩ v2).setCell ⟨b, 3, none⟩ v3).setCell ⟨b, 4, none⟩ v4).setCell ⟨b, 5, none⟩ v5).setCell ⟨b, 6, none⟩ v6).setCell ⟨b, 7, none⟩ v7) :=
  h.grown (grown8 w b v0 v1 v2 v3 v4 v5 v6 v7) h.size (fun k hk => by simp at hk; omega)
theorem sum_step {f : Nat → Nat → Int} {k N : Nat} {ys : List Int} (h : ∀ i, f k i = ys.getD i 0) {w : World} {g t : Nat} (hr : w.rowIs g t N (rowTo (sumG ((List.range N).map (accTo f k)) ys) N)) : w.rowIs g t N (rowTo (accTo f (k + 1)) N) := by
  refine hr.congr (fun i hi => ?_)
  unfold rowTo
  rw [if_pos hi, if_pos hi]
  unfold sumG
  rw [getD_range _ hi, ← h i]
  rfl

set_option maxRecDepth 100000 in
set_option maxHeartbeats 6400000 in
theorem tmean_calls (I H O B : Nat) (seed steps crate decay how keep clip : Int) (hc : cfgB ⟨I, H, O, seed, B, steps, crate, decay, how, keep, clip⟩ = true) (N : Nat) (hN : N = H * I + H + O * H + O) (a : Option Addr) (n cap : Nat) (X : Nat → Exm) (DI DO : Nat → List Int) (a1 : Option Addr) (k1 : Nat) (ws : List Int) (ab : Option Addr) (kb : Nat) (BL : List Int) (f : Nat → Nat → Int) (w : World)
    (hx : Exs w a n cap X DI DO) (_ : n ≤ 16) (hex : allEx ⟨I, H, O, seed, B, steps, crate, decay, how, keep, clip⟩ n X DI DO = true) (l1 : Lst w a1 N k1 ws) (hr : rightB ws = true) (lb : Lst w ab B kb BL) (hB : ∀ k, k < B → ∃ j : Nat, j < n ∧ BL.getD k 0 = (j : Int)) (hf : ∀ k i, f k i = (gradOf I H O ws DI DO (BL.getD k 0).toNat).getD i 0) :
    Calls Tryz.prog 134 #[Cfg.val ⟨I, H, O, seed, B, steps, crate, decay, how, keep, clip⟩, .slice a n cap, .slice a1 N k1, .slice ab B kb] w fun e w' => ∃ g, e = .returned (.slice (some ⟨g, 0, none⟩) N N) ∧ w.heap.size ≤ g ∧ Lst w' (some ⟨g, 0, none⟩) N N ((List.range N).map (meanG f B)) ∧ Below w.heap.size w w' := by
  obtain ⟨⟨i1, i2⟩, ⟨h1, h2⟩, ⟨p1, p2⟩, ⟨b1, b2⟩, _⟩ := cfgB_is hc
  dsimp only at i1 i2 h1 h2 p1 p2 b1 b2
  have hN4 : 4 ≤ N ∧ N ≤ 40 := by
    have := prod_sideN (show H ≤ 4 by omega) (show I ≤ 4 by omega)
    have := prod_sideN (show O ≤ 4 by omega) (show H ≤ 4 by omega)
    have : 1 ≤ H * I := Nat.mul_pos (by omega) (by omega)
    have : 1 ≤ O * H := Nat.mul_pos (by omega) (by omega)
    omega
  have hal := low_alloc w (.cells (Cfg.cells ⟨I, H, O, seed, B, steps, crate, decay, how, keep, clip⟩) 50)
  have l1' := l1.below hal (Nat.le_refl _)
  have hcr := cutD_right (l1.len.trans hN) hr
  have HCR : Hid (RightD (cutD I H O ws)) := hcr
  have HSh : Hid (Calls Tryz.prog 59 #[.int .i64 I, .int .i64 H, .int .i64 O, .slice a1 N k1] (w.alloc (.cells (Cfg.cells ⟨I, H, O, seed, B, steps, crate, decay, how, keep, clip⟩) 50)) fun e w' => ∃ a1 a2 b1 b2, e = .returned (.tuple #[(rpup I H O a1 (H * I) a2 (O * H) b1 H b2 O).val, .int .i64 0]) ∧ InPup w' (rpup I H O a1 (H * I) a2 (O * H) b1 H b2 O) (cutD I H O ws) ∧ Below (w.alloc (.cells (Cfg.cells ⟨I, H, O, seed, B, steps, crate, decay, how, keep, clip⟩) 50)).heap.size (w.alloc (.cells (Cfg.cells ⟨I, H, O, seed, B, steps, crate, decay, how, keep, clip⟩) 50)) w') := shape_good I H O a1 N k1 ws _ l1' (by omega) (by omega) (by omega) (by omega) (by omega) (by omega) hN hr
  have KB : Hid (∀ q, Below (w.alloc (.cells (Cfg.cells ⟨I, H, O, seed, B, steps, crate, decay, how, keep, clip⟩) 50)).heap.size (w.alloc (.cells (Cfg.cells ⟨I, H, O, seed, B, steps, crate, decay, how, keep, clip⟩) 50)) q → BoxC q w.heap.size ⟨I, H, O, seed, B, steps, crate, decay, how, keep, clip⟩) := fun q hq => boxC hq (by simp)
  have hmk := run_make_row' (P := Tryz.prog) 66 3 (.int .i64 0) 8 Tryz.underlying66 info3 rfl .i64 .i64 N (by omega) (by omega)
  have HN : Hid (N = H * I + H + O * H + O) := hN
  have HEX : Hid (allEx ⟨I, H, O, seed, B, steps, crate, decay, how, keep, clip⟩ n X DI DO = true) := hex
  have HF : Hid (∀ k i, f k i = (gradOf I H O ws DI DO (BL.getD k 0).toNat).getD i 0) := hf
  have HBI : Hid (∀ k, k < B → ∃ j : Nat, j < n ∧ BL.getD k 0 = (j : Int)) := hB
  clear hc hN hex hf hB hr hcr l1 l1'
  simp only [Cfg.val, Cfg.cells] at *
  go_enter Tryz.func134, Tryz.ntmps134
  go_wp2_with fail
  refine HSh.out.mono ?_
  rintro e w2 ⟨pa1, pa2, pb1, pb2, rfl, hpup, hw2⟩
  have T2 := hal.trans (hw2.mono hal.size)
  have mrow := fn8_alloc w2 (.int .i64 H) (.int .i64 I) (.slice pa1 (H * I) (H * I)) (.int .i64 O) (.int .i64 H) (.slice pa2 (O * H) (O * H)) (.slice pb1 H H) (.slice pb2 O O) 102
  have hal3 := low_alloc w2 (.cells #[.int .i64 H, .int .i64 I, .slice pa1 (H * I) (H * I), .int .i64 O, .int .i64 H, .slice pa2 (O * H) (O * H), .slice pb1 H H, .slice pb2 O O] 102)
  have T3 := T2.trans (hal3.mono T2.size)
  have hp3 := hpup.below hal3 (Nat.le_refl _)
  have KB3 : Hid (∀ q, Below (w2.alloc (.cells #[.int .i64 H, .int .i64 I, .slice pa1 (H * I) (H * I), .int .i64 O, .int .i64 H, .slice pa2 (O * H) (O * H), .slice pb1 H H, .slice pb2 O O] 102)).heap.size (w2.alloc (.cells #[.int .i64 H, .int .i64 I, .slice pa1 (H * I) (H * I), .int .i64 O, .int .i64 H, .slice pa2 (O * H) (O * H), .slice pb1 H H, .slice pb2 O O] 102)) q → BoxC q w.heap.size ⟨I, H, O, seed, B, steps, crate, decay, how, keep, clip⟩) := fun q hq => KB.out q ((hw2.trans (hal3.mono hw2.size)).trans (hq.mono (hw2.trans (hal3.mono hw2.size)).size))
  clear HSh hpup hw2 KB hal
  simp only [rpup, Pup.val, Pup.cells] at *
  go_wp2_with fail
  generalize hw3 : w2.alloc (.cells #[.int .i64 H, .int .i64 I, .slice pa1 (H * I) (H * I), .int .i64 O, .int .i64 H, .slice pa2 (O * H) (O * H), .slice pb1 H H, .slice pb2 O O] 102) = w3 at *
  have hs3 : w3.heap.size = w2.heap.size + 1 := by rw [← hw3]; simp
  clear hw3
  have hx3 : Exs w3 a n cap X DI DO := hx.below T3 (Nat.le_refl _)
  have lb3 := lb.below T3 (Nat.le_refl _)
  clear hx lb T2 hal3
  have hz3 := T3.size
  go_loopw [11, 36] (fun s v wr => ∃ k g : Nat, k ≤ B ∧ v = .int .i64 k ∧ s = .slice (some ⟨g, 0, none⟩) N N ∧ w3.heap.size ≤ g ∧ wr.rowIs g 3 N (rowTo (accTo f k) N) ∧ Below w3.heap.size w3 wr) (fun _ v _ => B - (intOf v).toNat)
  case atStart => exact ⟨0, w2.heap.size + 1, Nat.zero_le _, rfl, rfl, by omega, by have h := World.rowIs_made w3 (.int .i64 0) N 3; rw [hs3] at h; exact h.congr (fun i hi => by unfold rowTo; rw [if_pos hi]; rfl), low_alloc _ _⟩
  case round =>
    clear hmk
    obtain ⟨k, g, hk, rfl, rfl, hg, grow, hbel⟩ := hrel
    by_cases hlt : k < B
    · obtain ⟨j, hj, hBj⟩ := HBI.out k hlt
      obtain ⟨bb, ob, rfl, hbb, hcb⟩ := lb3.at (by omega)
      have e7 : w3.cell? ⟨bb, ob + k, none⟩ = some (.int .i64 j) := by have := hcb k hlt; rw [hBj] at this; exact this
      obtain ⟨xb, xo, rfl, e8, e9, hin⟩ := hx3.at hj
      have hexj := exB_is (allEx_is HEX.out hj)
      have hfk : ∀ i, f k i = (gradOf I H O ws DI DO j).getD i 0 := fun i => by rw [HF.out, hBj]; rfl
      have HFK : Hid (∀ i, f k i = (gradOf I H O ws DI DO j).getD i 0) := hfk
      obtain ⟨xx, hxx⟩ : ∃ x, X j = x := ⟨_, rfl⟩
      rw [hxx] at e8 e9 hin hexj
      obtain ⟨xa, xn, xk, ya, yn, yk⟩ := xx
      dsimp only at e8 e9 hin hexj
      obtain rfl : I = xn := by have := hexj.1; omega
      obtain rfl : O = yn := by have := hexj.2.1; omega
      have KT : Hid (∀ q, Below w3.heap.size w3 q → q.cell? ⟨w2.heap.size, 0, none⟩ = some (.int .i64 H) ∧ q.cell? ⟨w2.heap.size, 1, none⟩ = some (.int .i64 I) ∧ q.cell? ⟨w2.heap.size, 2, none⟩ = some (.slice pa1 (H * I) (H * I)) ∧ q.cell? ⟨w2.heap.size, 3, none⟩ = some (.int .i64 O) ∧ q.cell? ⟨w2.heap.size, 4, none⟩ = some (.int .i64 H) ∧ q.cell? ⟨w2.heap.size, 5, none⟩ = some (.slice pa2 (O * H) (O * H)) ∧ q.cell? ⟨w2.heap.size, 6, none⟩ = some (.slice pb1 H H) ∧ q.cell? ⟨w2.heap.size, 7, none⟩ = some (.slice pb2 O O) ∧ q.cell? ⟨xb, xo + j * 2, none⟩ = some (.slice xa I xk) ∧ q.cell? ⟨xb, xo + j * 2 + 1, none⟩ = some (.slice ya O yk)) := fun q hq => by
        obtain ⟨m0, m1, m2, m3, m4, m5, m6, m7⟩ := fn8_box (mrow.of_block (hq.block _ mrow.lt))
        exact ⟨m0, m1, m2, m3, m4, m5, m6, m7, (hq.cell (p := ⟨xb, xo + j * 2, none⟩) (cell_lt e8)).trans e8, (hq.cell (p := ⟨xb, xo + j * 2 + 1, none⟩) (cell_lt e9)).trans e9⟩
      have HG : Hid (∀ q, Below w3.heap.size w3 q → Calls Tryz.prog 187 #[.agg #[.int .i64 H, .int .i64 I, .slice pa1 (H * I) (H * I), .int .i64 O, .int .i64 H, .slice pa2 (O * H) (O * H), .slice pb1 H H, .slice pb2 O O], .agg #[.slice xa I xk, .slice ya O yk]] q fun e w' => ∃ g1 g2 g3 g4 : Nat, e = .returned (.tuple #[.agg #[.int .i64 H, .int .i64 I, .slice (some ⟨g1, 0, none⟩) (H * I) (H * I), .int .i64 O, .int .i64 H, .slice (some ⟨g2, 0, none⟩) (O * H) (O * H), .slice (some ⟨g3, 0, none⟩) H H, .slice (some ⟨g4, 0, none⟩) O O], .int .i64 0]) ∧ (q.heap.size ≤ g1 ∧ q.heap.size ≤ g2 ∧ q.heap.size ≤ g3 ∧ q.heap.size ≤ g4) ∧ InPup w' (rpup I H O (some ⟨g1, 0, none⟩) (H * I) (some ⟨g2, 0, none⟩) (O * H) (some ⟨g3, 0, none⟩) H (some ⟨g4, 0, none⟩) O) (graD (cutD I H O ws) (DI j) (DO j) I H O) ∧ Below q.heap.size q w') := fun q hq =>
        pgrad_at I H O pa1 (H * I) pa2 (O * H) pb1 H pb2 O (cutD I H O ws) xa xk (DI j) ya yk (DO j) q (hp3.below hq (Nat.le_refl _)) (hin.i.below hq (Nat.le_refl _)) (hin.o.below hq (Nat.le_refl _)) HCR.out (by omega) (by omega) (by omega) (by omega) (by omega) (by omega)
      have e7r := (hbel.cell (p := ⟨bb, ob + k, none⟩) (cell_lt e7)).trans e7
      clear hexj hxx hcb e7 e8 e9 hin hfk
      have Td : Below w3.heap.size w3 wr.drew := below_drewN hbel 1
      have S0 := KT.out _ Td
      have Ta : Below w3.heap.size w3 (wr.alloc (.cells #[.int .i64 0, .int .i64 0, .slice none 0 0, .int .i64 0, .int .i64 0, .slice none 0 0, .slice none 0 0, .slice none 0 0] 102)).drew := below_drewN (hbel.alloc hbel.size _) 1
      have Sa := KT.out _ Ta
      have rowa : (wr.alloc (.cells #[.int .i64 0, .int .i64 0, .slice none 0 0, .int .i64 0, .int .i64 0, .slice none 0 0, .slice none 0 0, .slice none 0 0] 102)).drew.rowIs wr.heap.size 102 8 (fn8 (.int .i64 0) (.int .i64 0) (.slice none 0 0) (.int .i64 0) (.int .i64 0) (.slice none 0 0) (.slice none 0 0) (.slice none 0 0)) := fn8_alloc wr (.int .i64 0) (.int .i64 0) (.slice none 0 0) (.int .i64 0) (.int .i64 0) (.slice none 0 0) (.slice none 0 0) (.slice none 0 0) 102
      have dr : Below wr.heap.size wr wr.drew := below_drewN (Below.refl _ _) 1
      have da : Below wr.heap.size wr (wr.alloc (.cells #[.int .i64 0, .int .i64 0, .slice none 0 0, .int .i64 0, .int .i64 0, .slice none 0 0, .slice none 0 0, .slice none 0 0] 102)).drew := below_drewN (low_alloc _ _) 1
      have jn : (j : Int) < (n : Int) := by omega
      have j0 : (0 : Int) ≤ (j : Int) := by omega
      have hszw := hbel.size
      go_wp2_with fail
      apply via7 (F := GrAt wr I H O (graD (cutD I H O ws) (DI j) (DO j) I H O))
      · intro key
        go_region_held3 (fun q => q.cell? ⟨w2.heap.size, 0, none⟩ = some (.int .i64 H) ∧ q.cell? ⟨w2.heap.size, 1, none⟩ = some (.int .i64 I) ∧ q.cell? ⟨w2.heap.size, 2, none⟩ = some (.slice pa1 (H * I) (H * I)) ∧ q.cell? ⟨w2.heap.size, 3, none⟩ = some (.int .i64 O) ∧ q.cell? ⟨w2.heap.size, 4, none⟩ = some (.int .i64 H) ∧ q.cell? ⟨w2.heap.size, 5, none⟩ = some (.slice pa2 (O * H) (O * H)) ∧ q.cell? ⟨w2.heap.size, 6, none⟩ = some (.slice pb1 H H) ∧ q.cell? ⟨w2.heap.size, 7, none⟩ = some (.slice pb2 O O) ∧ q.cell? ⟨xb, xo + j * 2, none⟩ = some (.slice xa I xk) ∧ q.cell? ⟨xb, xo + j * 2 + 1, none⟩ = some (.slice ya O yk)) (first | with_reducible exact S1a | with_reducible exact S1f | with_reducible exact S3 | with_reducible exact S1 | with_reducible exact Sa | with_reducible exact S0)
          (first | (go_at_call 187; (first | refine (HG.out _ Td).mono ?_ | refine (HG.out _ Ta).mono ?_); rintro e u1 ⟨g1, g2, g3, g4, rfl, hgs, hgi, hu1⟩; have V1 : Below w3.heap.size w3 u1 := (by first | exact Td.trans (hu1.mono Td.size) | exact Ta.trans (hu1.mono Ta.size)); have U1 : Below wr.heap.size wr u1 := (by first | exact dr.trans (hu1.mono dr.size) | exact da.trans (hu1.mono da.size)); have S1 := KT.out _ V1; have V1a := V1.alloc V1.size (.cells #[.int .i64 0, .int .i64 0, .slice none 0 0, .int .i64 0, .int .i64 0, .slice none 0 0, .slice none 0 0, .slice none 0 0] 102); have S1a := KT.out _ V1a; have V1f := V1.alloc V1.size (.cells #[.int .i64 H, .int .i64 I, .slice (some ⟨g1, 0, none⟩) (H * I) (H * I), .int .i64 O, .int .i64 H, .slice (some ⟨g2, 0, none⟩) (O * H) (O * H), .slice (some ⟨g3, 0, none⟩) H H, .slice (some ⟨g4, 0, none⟩) O O] 102); have S1f := KT.out _ V1f; have V3 := below_grown8 (b := wr.heap.size) V1 hszw (.int .i64 H) (.int .i64 I) (.slice (some ⟨g1, 0, none⟩) (H * I) (H * I)) (.int .i64 O) (.int .i64 H) (.slice (some ⟨g2, 0, none⟩) (O * H) (O * H)) (.slice (some ⟨g3, 0, none⟩) H H) (.slice (some ⟨g4, 0, none⟩) O O); have S3 := KT.out _ V3; (first | (have zr := rowa.of_block (hu1.block _ rowa.lt); obtain ⟨z0, z1, z2, z3, z4, z5, z6, z7⟩ := fn8_box zr; have y0 := zr.frozen 0; have y1 := zr.frozen 1; have y2 := zr.frozen 2; have y3 := zr.frozen 3; have y4 := zr.frozen 4; have y5 := zr.frozen 5; have y6 := zr.frozen 6; have y7 := zr.frozen 7) | skip)))
        · have f0 : GrAt wr I H O (graD (cutD I H O ws) (DI j) (DO j) I H O) g1 g2 g3 g4 u1.heap.size (u1.alloc (.cells #[.int .i64 H, .int .i64 I, .slice (some ⟨g1, 0, none⟩) (H * I) (H * I), .int .i64 O, .int .i64 H, .slice (some ⟨g2, 0, none⟩) (O * H) (O * H), .slice (some ⟨g3, 0, none⟩) H H, .slice (some ⟨g4, 0, none⟩) O O] 102)) := ⟨fn8_alloc u1 (.int .i64 H) (.int .i64 I) (.slice (some ⟨g1, 0, none⟩) (H * I) (H * I)) (.int .i64 O) (.int .i64 H) (.slice (some ⟨g2, 0, none⟩) (O * H) (O * H)) (.slice (some ⟨g3, 0, none⟩) H H) (.slice (some ⟨g4, 0, none⟩) O O) 102, hgi.below (low_alloc _ _) (Nat.le_refl _), U1.trans ((low_alloc _ _).mono U1.size)⟩
          generalize u1.alloc (.cells #[.int .i64 H, .int .i64 I, .slice (some ⟨g1, 0, none⟩) (H * I) (H * I), .int .i64 O, .int .i64 H, .slice (some ⟨g2, 0, none⟩) (O * H) (O * H), .slice (some ⟨g3, 0, none⟩) H H, .slice (some ⟨g4, 0, none⟩) O O] 102) = q at f0 ⊢
          generalize u1.heap.size = GB at f0 ⊢
          exact key g1 g2 g3 g4 GB q f0
        · obtain ⟨s1, s2, s3, s4⟩ := hgs
          simp at s1 s2 s3 s4
          have hgr := grown8 u1 wr.heap.size (.int .i64 H) (.int .i64 I) (.slice (some ⟨g1, 0, none⟩) (H * I) (H * I)) (.int .i64 O) (.int .i64 H) (.slice (some ⟨g2, 0, none⟩) (O * H) (O * H)) (.slice (some ⟨g3, 0, none⟩) H H) (.slice (some ⟨g4, 0, none⟩) O O)
          exact key g1 g2 g3 g4 _ _ ⟨fn8_set8 zr (.int .i64 H) (.int .i64 I) (.slice (some ⟨g1, 0, none⟩) (H * I) (H * I)) (.int .i64 O) (.int .i64 H) (.slice (some ⟨g2, 0, none⟩) (O * H) (O * H)) (.slice (some ⟨g3, 0, none⟩) H H) (.slice (some ⟨g4, 0, none⟩) O O), ⟨hgi.x1.grown hgr (by omega), hgi.x2.grown hgr (by omega), hgi.b1.grown hgr (by omega), hgi.b2.grown hgr (by omega)⟩, below_grown8 U1 (Nat.le_refl _) (.int .i64 H) (.int .i64 I) (.slice (some ⟨g1, 0, none⟩) (H * I) (H * I)) (.int .i64 O) (.int .i64 H) (.slice (some ⟨g2, 0, none⟩) (O * H) (O * H)) (.slice (some ⟨g3, 0, none⟩) H H) (.slice (some ⟨g4, 0, none⟩) O O)⟩
      · rintro g1 g2 g3 g4 GB q ⟨qrow, qpup, qbel⟩
        clear S0 Sa Td Ta rowa dr da KT HG
        obtain ⟨m0, m1, m2, m3, m4, m5, m6, m7⟩ := fn8_box qrow
        have HFl : Hid (Calls Tryz.prog 188 #[.agg #[.int .i64 H, .int .i64 I, .slice (some ⟨g1, 0, none⟩) (H * I) (H * I), .int .i64 O, .int .i64 H, .slice (some ⟨g2, 0, none⟩) (O * H) (O * H), .slice (some ⟨g3, 0, none⟩) H H, .slice (some ⟨g4, 0, none⟩) O O]] q fun e w' => ∃ a c, e = .returned (.tuple #[.slice a N c, .int .i64 0]) ∧ Lst w' a N c (gradOf I H O ws DI DO j) ∧ Below q.heap.size q w') := by
          refine (pflat_calls (rpup I H O (some ⟨g1, 0, none⟩) (H * I) (some ⟨g2, 0, none⟩) (O * H) (some ⟨g3, 0, none⟩) H (some ⟨g4, 0, none⟩) O) (graD (cutD I H O ws) (DI j) (DO j) I H O) q qpup).mono ?_
          rintro e w' ⟨a, n', c, he, _, hl, hb⟩
          have hz : pchk (rpup I H O (some ⟨g1, 0, none⟩) (H * I) (some ⟨g2, 0, none⟩) (O * H) (some ⟨g3, 0, none⟩) H (some ⟨g4, 0, none⟩) O) (graD (cutD I H O ws) (DI j) (DO j) I H O) = 0 := pchk_right (by omega) (by omega) (by omega) (by omega) (by omega) (by omega) (graD_right _ _ _ _ _ _)
          unfold flatL at hl
          rw [if_pos hz] at hl
          rw [hz] at he
          have hn' : N = n' := by
            have := hl.len
            rw [← this, HN.out, graD_len]
          subst hn'
          exact ⟨a, c, he, hl, hb⟩
        go_wp2_with fail
        refine HFl.out.mono ?_
        rintro e u2 ⟨la, lc, rfl, ll, hu2⟩
        have hb2 : Below wr.heap.size wr u2 := qbel.trans (hu2.mono qbel.size)
        have hgl := (rowTo_lst grow).below hb2 (Nat.le_refl _)
        clear HFl m0 m1 m2 m3 m4 m5 m6 m7 qrow qpup hu2
        go_wp2_with fail
        refine (vSum_at _ _ _ _ _ _ _ _ hgl ll (by omega)).mono ?_
        rintro e u3 ⟨gs, rfl, hgs, srow, hu3⟩
        have hb3 : Below w3.heap.size w3 u3 := hbel.trans ((hb2.trans (hu3.mono hb2.size)).mono hbel.size)
        have hz2 := hb2.size
        clear hgl ll
        go_wp2_with fail
        go_roundw
        case rel => exact ⟨k + 1, gs, by omega, by go_num, rfl, by omega, sum_step HFK.out srow, hb3⟩
        case measure => simp [intOf]; omega
    · obtain rfl : B = k := by omega
      have HMG : Hid (∀ i, meanG f B i = divI (accTo f B i) ((B : Int) * 65536)) := fun i => rfl
      have hbz : (B : Int) * 65536 ≠ 0 := by omega
      have KB4 : Hid (∀ q, Below w3.heap.size w3 q → q.cell? ⟨w.heap.size, 4, none⟩ = some (.int .i64 B)) := fun q hq => (KB3.out q hq).c4
      clear hx3 lb3 hp3 mrow KB3 HEX HF HBI HCR
      generalize hwr : wr = wo at *
      clear hwr
      go_wp2_with fail
      go_loopw [63] (fun v wr => ∃ i : Nat, i ≤ N ∧ v = .int .i64 i ∧ wr.rowIs g 3 N (midTo (meanG f B) (accTo f B) i) ∧ Below w3.heap.size w3 wr) (fun v _ => N - (intOf v).toNat)
      case atStart => exact ⟨0, Nat.zero_le _, rfl, midTo_start grow, hbel⟩
      case round =>
        clear grow hbel
        obtain ⟨i, hi, rfl, grow, hbel⟩ := hrel
        by_cases hil : i < N
        · have c3 := midTo_cell grow hil
          have f3 := grow.frozen i
          obtain ⟨x, hx0⟩ : ∃ x, accTo f B i = x := ⟨_, rfl⟩
          have HM : Hid (meanG f B i = divI x ((B : Int) * 65536)) := by show meanG f B i = _; rw [HMG.out, hx0]
          rw [hx0] at c3
          clear hx0
          have c4 := KB4.out _ hbel
          go_wp2_with (go_at_call 185; refine (div_calls _ _ _ hbz).mono ?_; rintro e w' ⟨rfl, nd, rfl⟩)
          go_roundw
          case rel =>
            have st := midTo_step grow
            rw [HM.out] at st
            exact ⟨i + 1, by omega, by go_num, rowIs_drewN st _, below_drewN (hbel.setCell (show w3.heap.size ≤ g from hg) _) _⟩
          case measure => simp [intOf]; omega
        · obtain rfl : i = N := by omega
          go_wp2_with fail
          go_ret
          exact ⟨g, rfl, by omega, midTo_end grow, T3.trans (hbel.mono T3.size)⟩
end Go.Proofs.YthmiojmlaclgaaaGreatDoor.Fx

/- What train.next returns, of right things. -/
namespace Go.Proofs.YthmiojmlaclgaaaGreatDoor.Fx
open Go.RowKit

/-- The three lists that a step tells lie in blocks of their own. -/
structure NextO (w w' : World) (N B : Nat) (F M G : Nat → Int) (g1 d1 g2 d2 bg : Nat) : Prop where
  a1 : Arr w' g1 d1 N F
  a2 : Arr w' g2 d2 N M
  a3 : Arr w' bg B B G
  f1 : w.heap.size ≤ g1
  f2 : w.heap.size ≤ g2
  f3 : w.heap.size ≤ bg
  n12 : g1 ≠ g2
  n13 : g1 ≠ bg
  n23 : g2 ≠ bg
  cap : d1 ≤ maxLen ∧ d2 ≤ maxLen
  bel : Below w.heap.size w w'

set_option maxRecDepth 100000 in
set_option maxHeartbeats 6400000 in
theorem tnext_own (I H O B T : Nat) (seed crate decay how keep clip : Int) (hs : okW seed) (steps : Int) (hc : cfgB ⟨I, H, O, seed, B, steps, crate, decay, how, keep, clip⟩ = true) (N : Nat) (hN : N = H * I + H + O * H + O) (a : Option Addr) (n cap : Nat) (X : Nat → Exm) (DI DO : Nat → List Int) (a1 : Option Addr) (k1 : Nat) (ws : List Int) (a2 : Option Addr) (k2 : Nat) (ms : List Int) (w : World)
    (hx : Exs w a n cap X DI DO) (hn1 : 1 ≤ n) (hn2 : n ≤ 16) (hex : allEx ⟨I, H, O, seed, B, steps, crate, decay, how, keep, clip⟩ n X DI DO = true) (l1 : Lst w a1 N k1 ws) (l2 : Lst w a2 N k2 ms) (r1 : rightB ws = true) (r2 : rightB ms = true) (hst : (T : Int) ≤ steps - 1) :
    Calls Tryz.prog 91 #[Cfg.val ⟨I, H, O, seed, B, steps, crate, decay, how, keep, clip⟩, .slice a n cap, .agg #[.slice a1 N k1, .slice a2 N k2], .int .i64 T] w fun e w' =>
      ∃ g1 d1 g2 d2 bg, e = .returned (.tuple #[.agg #[.slice (some ⟨g1, 0, none⟩) N d1, .slice (some ⟨g2, 0, none⟩) N d2], .slice (some ⟨bg, 0, none⟩) B B, .int .i64 (rateV ⟨I, H, O, seed, B, steps, crate, decay, how, keep, clip⟩ T)]) ∧ NextO w w' N B (goneG ⟨I, H, O, seed, B, steps, crate, decay, how, keep, clip⟩ ws ms (pushL ⟨I, H, O, seed, B, steps, crate, decay, how, keep, clip⟩ n ws DI DO T N) (rateV ⟨I, H, O, seed, B, steps, crate, decay, how, keep, clip⟩ T)) (keptG ⟨I, H, O, seed, B, steps, crate, decay, how, keep, clip⟩ ms (pushL ⟨I, H, O, seed, B, steps, crate, decay, how, keep, clip⟩ n ws DI DO T N)) (batchG seed n (T * B)) g1 d1 g2 d2 bg := by
  obtain ⟨⟨i1, i2⟩, ⟨h1, h2⟩, ⟨p1, p2⟩, ⟨b1, b2⟩, ⟨s1, s2⟩, _, _, _, _, ⟨q1, q2⟩⟩ := cfgB_is hc
  dsimp only at i1 i2 h1 h2 p1 p2 b1 b2 s1 s2 q1 q2
  have hN4 : 4 ≤ N ∧ N ≤ 40 := by
    have := prod_sideN (show H ≤ 4 by omega) (show I ≤ 4 by omega)
    have := prod_sideN (show O ≤ 4 by omega) (show H ≤ 4 by omega)
    have : 1 ≤ H * I := Nat.mul_pos (by omega) (by omega)
    have : 1 ≤ O * H := Nat.mul_pos (by omega) (by omega)
    omega
  obtain ⟨BG, HBG0⟩ : ∃ f, Hid (batchG seed n (T * B) = f) := ⟨_, rfl⟩
  obtain ⟨BL, HBL⟩ : ∃ l, Hid (batchP seed B n (T * B) = l) := ⟨_, rfl⟩
  have HBB : Hid ((List.range B).map BG = BL) := by show (List.range B).map BG = BL; rw [← HBL.out, ← HBG0.out]; rfl
  obtain ⟨R, HR⟩ : ∃ r, Hid (rateV ⟨I, H, O, seed, B, steps, crate, decay, how, keep, clip⟩ T = r) := ⟨_, rfl⟩
  have hBLl : BL.length = B := by rw [← HBL.out]; simp [batchP]
  -- the calls
  have HBt : Hid (∀ q, Calls Tryz.prog 132 #[.int .u64 seed, .int .i64 B, .int .i64 n, .int .i64 T] q fun e w' => ∃ bg, e = .returned (.tuple #[.slice (some ⟨bg, 0, none⟩) B B, .int .i64 0]) ∧ q.heap.size ≤ bg ∧ Arr w' bg B B BG ∧ Below q.heap.size q w') := fun q => by
    refine (batch_good seed hs B n T (by omega) (by omega) hn1 hn2 (by omega) q).mono ?_
    rintro e w' ⟨bg, he, hf, ha, hb⟩
    exact ⟨bg, he, hf, HBG0.out ▸ ha, hb⟩
  obtain ⟨f, Hf⟩ : ∃ f : Nat → Nat → Int, Hid (∀ k i, f k i = (gradOf I H O ws DI DO (BL.getD k 0).toNat).getD i 0) := ⟨_, fun _ _ => rfl⟩
  have HME : Hid (∀ q bg, Below w.heap.size w q → Lst q (some ⟨bg, 0, none⟩) B B BL → Calls Tryz.prog 134 #[Cfg.val ⟨I, H, O, seed, B, steps, crate, decay, how, keep, clip⟩, .slice a n cap, .slice a1 N k1, .slice (some ⟨bg, 0, none⟩) B B] q fun e w' => ∃ g, e = .returned (.slice (some ⟨g, 0, none⟩) N N) ∧ q.heap.size ≤ g ∧ Lst w' (some ⟨g, 0, none⟩) N N ((List.range N).map (meanG f B)) ∧ Below q.heap.size q w') := fun q bg hq hl =>
    tmean_calls I H O B seed steps crate decay how keep clip hc N hN a n cap X DI DO a1 k1 ws (some ⟨bg, 0, none⟩) B BL f q (hx.below hq (Nat.le_refl _)) hn2 hex (l1.below hq (Nat.le_refl _)) r1 hl (fun k hk => by rw [← HBL.out]; exact batch_in seed B n (T * B) hn1 hk) Hf.out
  obtain ⟨ML, HML⟩ : ∃ l, Hid ((List.range N).map (meanG f B) = l) := ⟨_, rfl⟩
  rw [HML.out] at HME
  obtain ⟨PL, HPL⟩ : ∃ l, Hid (pushL ⟨I, H, O, seed, B, steps, crate, decay, how, keep, clip⟩ n ws DI DO T N = l) := ⟨_, rfl⟩
  have hPc : clipL ML clip N = PL := by
    rw [← HPL.out, ← HML.out]
    unfold pushL
    dsimp only
    have ef : gradG ⟨I, H, O, seed, B, steps, crate, decay, how, keep, clip⟩ n ws DI DO T = f := by
      funext k' i'
      rw [Hf.out]
      unfold gradG batchL
      dsimp only
      rw [if_pos ⟨⟨b1, b2⟩, ⟨by omega, by omega⟩, by omega, by omega⟩]
      rw [← HBL.out]
      rfl
    rw [ef]
  have hPn : PL.length = N := by rw [← HPL.out]; exact (push_len ⟨I, H, O, seed, B, steps, crate, decay, how, keep, clip⟩ hc n ws DI DO T N (by omega)).2
  have hCE : clipE N clip = 0 := by unfold clipE; rw [if_neg (by omega), in_yes ⟨q1, q2⟩]; rfl
  have HCl : Hid (∀ q g, Lst q (some ⟨g, 0, none⟩) N N ML → Calls Tryz.prog 133 #[.slice (some ⟨g, 0, none⟩) N N, .int .i64 clip] q fun e w' => ∃ a', e = .returned (.tuple #[.slice a' N N, .int .i64 0]) ∧ Lst w' a' N N PL ∧ Below q.heap.size q w') := fun q g hl => by
    refine (clip_calls (some ⟨g, 0, none⟩) N N ML clip q hl).mono ?_
    rintro e w' ⟨a', m, he, _, hl', hb⟩
    rw [hPc] at hl'
    rw [hCE] at he
    have hm : N = m := by rw [← hPn]; exact hl'.len
    subst hm
    exact ⟨a', he, hl', hb⟩
  have hst2 : inB (T : Int) 0 (steps - 1) = true := in_yes ⟨by omega, hst⟩
  have hRin : inB R 0 2147483647 = true := by rw [← HR.out]; exact rateV_in hc T (by omega) hst
  have HRt : Hid (∀ q, Calls Tryz.prog 135 #[Cfg.val ⟨I, H, O, seed, B, steps, crate, decay, how, keep, clip⟩, .int .i64 T] q fun e w' => e = .returned (.tuple #[.int .i64 R, .int .i64 0]) ∧ Below q.heap.size q w') := fun q => by
    have := rate_calls ⟨I, H, O, seed, B, steps, crate, decay, how, keep, clip⟩ T q
    have e1 : rateI ⟨I, H, O, seed, B, steps, crate, decay, how, keep, clip⟩ T = R := by rw [← HR.out]; exact if_pos ⟨hc, hst2⟩
    have e2 : rateE ⟨I, H, O, seed, B, steps, crate, decay, how, keep, clip⟩ T = 0 := if_pos ⟨hc, hst2⟩
    rw [e1, e2] at this
    exact this
  have hNI : (N : Int) = sizeN ⟨I, H, O, seed, B, steps, crate, decay, how, keep, clip⟩ := by unfold sizeN; dsimp only; rw [hN]; push_cast; rfl
  have f1 : fitB ⟨I, H, O, seed, B, steps, crate, decay, how, keep, clip⟩ N ws = true := by unfold fitB; rw [decide_eq_true hNI, r1]; rfl
  have f2 : fitB ⟨I, H, O, seed, B, steps, crate, decay, how, keep, clip⟩ N ms = true := by unfold fitB; rw [decide_eq_true hNI, r2]; rfl
  obtain ⟨FW, HFW⟩ : ∃ f, Hid (goneG ⟨I, H, O, seed, B, steps, crate, decay, how, keep, clip⟩ ws ms PL R = f) := ⟨_, rfl⟩
  obtain ⟨FM, HFM⟩ : ∃ f, Hid (keptG ⟨I, H, O, seed, B, steps, crate, decay, how, keep, clip⟩ ms PL = f) := ⟨_, rfl⟩
  have HSt : Hid (∀ q a3, Below w.heap.size w q → Lst q a3 N N PL → Calls Tryz.prog 136 #[Cfg.val ⟨I, H, O, seed, B, steps, crate, decay, how, keep, clip⟩, .agg #[.slice a1 N k1, .slice a2 N k2], .slice a3 N N, .int .i64 R] q fun e w' => ∃ g1 d1 g2 d2, e = .returned (.tuple #[.agg #[.slice (some ⟨g1, 0, none⟩) N d1, .slice (some ⟨g2, 0, none⟩) N d2], .int .i64 0]) ∧ q.heap.size ≤ g1 ∧ q.heap.size ≤ g2 ∧ g1 ≠ g2 ∧ (d1 ≤ maxLen ∧ d2 ≤ maxLen) ∧ Arr w' g1 d1 N FW ∧ Arr w' g2 d2 N FM ∧ Below q.heap.size q w') := fun q a3 hq hl => by
    have h := step_own ⟨I, H, O, seed, B, steps, crate, decay, how, keep, clip⟩ hc a1 N k1 a2 k2 a3 N ws ms PL R q (l1.below hq (Nat.le_refl _)) (l2.below hq (Nat.le_refl _)) hl f1 f2 hRin
    rw [HFW.out, HFM.out] at h
    exact h
  -- the walk
  rw [HPL.out, HR.out, HBG0.out, HFW.out, HFM.out]
  have sb0 := StBox.start w ⟨I, H, O, seed, B, steps, crate, decay, how, keep, clip⟩ (.slice a1 N k1) (.slice a2 N k2)
  obtain ⟨W, HW⟩ : ∃ q, Hid (q = (((w.alloc (.cells (Cfg.cells ⟨I, H, O, seed, B, steps, crate, decay, how, keep, clip⟩) 50)).alloc (.cells #[.slice a1 N k1, .slice a2 N k2] 106)).alloc (.cells #[.slice none 0 0, .slice none 0 0] 106))) := ⟨_, rfl⟩
  have sbW : StBox w ⟨I, H, O, seed, B, steps, crate, decay, how, keep, clip⟩ (.slice a1 N k1) (.slice a2 N k2) W := by rw [HW.out]; exact sb0
  have KQ : Hid (∀ q, Below W.heap.size W q → StBox w ⟨I, H, O, seed, B, steps, crate, decay, how, keep, clip⟩ (.slice a1 N k1) (.slice a2 N k2) q) := fun q hq => sbW.below hq
  clear sb0 hx l1 l2 hc hex hPc hNI hRin hst2 hCE r1 r2 hN hs HPL Hf HML f1 f2 HFW HFM HBG0 HBL
  have HWL : Hid (w.heap.size ≤ W.heap.size ∧ w.heap.size + 1 + 1 < W.heap.size) := ⟨sbW.bel.size, sbW.res.lt⟩
  have c0W := sbW.cfg
  clear sbW
  simp only [Cfg.val, Cfg.cells] at *
  obtain ⟨c0, c1, c2, c3, c4, c5, c6, c7, c8, c9, c10⟩ := c0W
  go_enter Tryz.func91, Tryz.ntmps91
  go_wp2_with fail
  rw [← HW.out]
  clear HW
  refine (HBt.out _).mono ?_
  rintro e w1 ⟨bg, rfl, hbg, ab1, hw1⟩
  have lb1 := ab1.lst
  rw [HBB.out] at lb1
  have HBG : Hid (w.heap.size ≤ bg) := Nat.le_trans HWL.out.1 hbg
  have HBN : Hid (bg ≠ w.heap.size + 1 + 1) := by show bg ≠ w.heap.size + 1 + 1; have := HWL.out.2; omega
  clear hbg
  have sb1 := KQ.out _ hw1
  clear c0 c1 c2 c3 c4 c5 c6 c7 c8 c9 c10 HBt
  have KS : Hid (∀ q, Below w1.heap.size w1 q → q.cell? ⟨w.heap.size, 0, none⟩ = some (.int .i64 I) ∧ q.cell? ⟨w.heap.size, 1, none⟩ = some (.int .i64 H) ∧ q.cell? ⟨w.heap.size, 2, none⟩ = some (.int .i64 O) ∧ q.cell? ⟨w.heap.size, 3, none⟩ = some (.int .u64 seed) ∧ q.cell? ⟨w.heap.size, 4, none⟩ = some (.int .i64 B) ∧ q.cell? ⟨w.heap.size, 5, none⟩ = some (.int .i64 steps) ∧ q.cell? ⟨w.heap.size, 6, none⟩ = some (.int .i64 crate) ∧ q.cell? ⟨w.heap.size, 7, none⟩ = some (.int .i64 decay) ∧ q.cell? ⟨w.heap.size, 8, none⟩ = some (.int .i64 how) ∧ q.cell? ⟨w.heap.size, 9, none⟩ = some (.int .i64 keep) ∧ q.cell? ⟨w.heap.size, 10, none⟩ = some (.int .i64 clip) ∧ q.cell? ⟨w.heap.size + 1, 0, none⟩ = some (.slice a1 N k1)) := fun q hq => by
    have sq := sb1.below hq
    obtain ⟨x0, x1, x2, x3, x4, x5, x6, x7, x8, x9, x10⟩ := sq.cfg
    exact ⟨x0, x1, x2, x3, x4, x5, x6, x7, x8, x9, x10, (fn2_cells sq.st).1⟩
  have Td : Below w1.heap.size w1 w1.drew := below_drewN (Below.refl _ _) 1
  have S0 := KS.out _ Td
  have HM2 : Hid (∀ q, Below w1.heap.size w1 q → Calls Tryz.prog 134 #[.agg #[.int .i64 I, .int .i64 H, .int .i64 O, .int .u64 seed, .int .i64 B, .int .i64 steps, .int .i64 crate, .int .i64 decay, .int .i64 how, .int .i64 keep, .int .i64 clip], .slice a n cap, .slice a1 N k1, .slice (some ⟨bg, 0, none⟩) B B] q fun e w' => ∃ g, e = .returned (.slice (some ⟨g, 0, none⟩) N N) ∧ q.heap.size ≤ g ∧ Lst w' (some ⟨g, 0, none⟩) N N ML ∧ Below q.heap.size q w') := fun q hq => HME.out q bg ((sb1.below hq).bel) (lb1.below hq (Nat.le_refl _))
  go_wp2_with fail
  go_region_held3 (fun q => q.cell? ⟨w.heap.size, 0, none⟩ = some (.int .i64 I) ∧ q.cell? ⟨w.heap.size, 1, none⟩ = some (.int .i64 H) ∧ q.cell? ⟨w.heap.size, 2, none⟩ = some (.int .i64 O) ∧ q.cell? ⟨w.heap.size, 3, none⟩ = some (.int .u64 seed) ∧ q.cell? ⟨w.heap.size, 4, none⟩ = some (.int .i64 B) ∧ q.cell? ⟨w.heap.size, 5, none⟩ = some (.int .i64 steps) ∧ q.cell? ⟨w.heap.size, 6, none⟩ = some (.int .i64 crate) ∧ q.cell? ⟨w.heap.size, 7, none⟩ = some (.int .i64 decay) ∧ q.cell? ⟨w.heap.size, 8, none⟩ = some (.int .i64 how) ∧ q.cell? ⟨w.heap.size, 9, none⟩ = some (.int .i64 keep) ∧ q.cell? ⟨w.heap.size, 10, none⟩ = some (.int .i64 clip) ∧ q.cell? ⟨w.heap.size + 1, 0, none⟩ = some (.slice a1 N k1)) (first | with_reducible exact S0 | with_reducible exact S2 | with_reducible exact S1)
    (first | (go_at_call 134; refine (HM2.out _ Td).mono ?_; rintro e u1 ⟨g, rfl, hg, lm, hu1⟩; have V1 := Td.trans (hu1.mono Td.size); have S1 := KS.out _ V1) | (go_at_call 133; refine (HCl.out _ _ lm).mono ?_; rintro e u2 ⟨ca, rfl, lc, hu2⟩; have V2 := V1.trans (hu2.mono V1.size); have S2 := KS.out _ V2))
  have sb2 := sb1.below V2
  have lb2 := ab1.below V2
  clear S0 S1 S2 KS Td V1 hu1 hu2 lm hg HM2 HME HCl lb1 ab1 V2 sb1
  obtain ⟨c0, c1, c2, c3, c4, c5, c6, c7, c8, c9, c10⟩ := sb2.cfg
  go_wp2_with fail
  refine (HRt.out _).mono ?_
  rintro e u3 ⟨rfl, hu3⟩
  have sb3 := sb2.below hu3
  have lb3 := lb2.below hu3
  have z3 := sb3.res.lt
  have z4 := lb3.lt
  have lc3 := lc.below hu3 (Nat.le_refl _)
  clear c0 c1 c2 c3 c4 c5 c6 c7 c8 c9 c10 hu3 lb2 lc sb2 HRt
  obtain ⟨c0, c1, c2, c3, c4, c5, c6, c7, c8, c9, c10⟩ := sb3.cfg
  obtain ⟨t0, t1⟩ := fn2_cells sb3.st
  have ST := HSt.out _ _ sb3.bel lc3
  go_wp2_with fail
  refine ST.mono ?_
  rintro e u4 ⟨xa, d1, xb, d2, rfl, x1, x2, x3, hcp, lw, lm, hu4⟩
  clear c0 c1 c2 c3 c4 c5 c6 c7 c8 c9 c10 t0 t1 ST HSt
  have sb4 := sb3.below hu4
  have lb4 := lb3.below hu4
  have hal := low_alloc u4 (.cells #[.slice (some ⟨xa, 0, none⟩) N d1, .slice (some ⟨xb, 0, none⟩) N d2] 106)
  have orow := fn2_alloc u4 (.slice (some ⟨xa, 0, none⟩) N d1) (.slice (some ⟨xb, 0, none⟩) N d2) 106
  have sb5 := sb4.below hal
  have lw5 := lw.below hal
  have lm5 := lm.below hal
  have lb5 := lb4.below hal
  clear sb3 sb4 hu4 lb3 lb4 lc3 lw lm
  obtain ⟨o0, o1⟩ := fn2_cells orow
  obtain ⟨r0, r1⟩ := fn2_cells sb5.res
  have f0 := sb5.res.frozen 0
  have f1 := sb5.res.frozen 1
  have hrs := sb5.res
  have hbb := sb5.bel
  go_wp2_with fail
  obtain ⟨y0, y1⟩ := fn2_cells (fn2_set hrs (.slice (some ⟨xa, 0, none⟩) N d1) (.slice (some ⟨xb, 0, none⟩) N d2))
  have st1 := hrs.set 0 (.slice (some ⟨xa, 0, none⟩) N d1)
  have z1 : ((u4.alloc (.cells #[.slice (some ⟨xa, 0, none⟩) N d1, .slice (some ⟨xb, 0, none⟩) N d2] 106)).setCell ⟨w.heap.size + 1 + 1, 0, none⟩ (.slice (some ⟨xa, 0, none⟩) N d1)).cell? ⟨w.heap.size + 1 + 1, 1, none⟩ = some (.slice none 0 0) := st1.cell (i := 1) (by omega)
  exact bodyPost_ret (v := .tuple #[.agg #[.slice (some ⟨xa, 0, none⟩) N d1, .slice (some ⟨xb, 0, none⟩) N d2], .slice (some ⟨bg, 0, none⟩) B B, .int .i64 R]) (by simp [results, Tryz.results91, go_sem, y0, y1]) rfl ⟨xa, d1, xb, d2, bg, rfl, (lw5.setOther (show xa ≠ w.heap.size + 1 + 1 by omega) _).setOther (show xa ≠ w.heap.size + 1 + 1 by omega) _, (lm5.setOther (show xb ≠ w.heap.size + 1 + 1 by omega) _).setOther (show xb ≠ w.heap.size + 1 + 1 by omega) _, (lb5.setOther (show bg ≠ w.heap.size + 1 + 1 from HBN.out) _).setOther (show bg ≠ w.heap.size + 1 + 1 from HBN.out) _, by omega, by omega, HBG.out, x3, by omega, by omega, hcp, (hbb.setCell (show w.heap.size ≤ w.heap.size + 1 + 1 by omega) _).setCell (show w.heap.size ≤ w.heap.size + 1 + 1 by omega) _⟩

end Go.Proofs.YthmiojmlaclgaaaGreatDoor.Fx
