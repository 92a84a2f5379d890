/- What train.Check returns, whatever config and examples are handed in. -/
import Derived.Test.YtkikhfdkibekgaaGreatJ13
import Derived.Test.YtkikhfdkibekgaaGreatJ15
import Derived.Test.YtkikhfdkibekgaaGreatJ07
import Derived.Test.YtkikhfdkibekgaaGreatJ04
import Derived.Test.YtkikhfdkibekgaaGreatJ02
import Derived.Lib.AppendZeros
namespace Go.Proofs.YtkikhfdkibekgaaGreat.Fx
open Go.RowKit

set_option maxRecDepth 100000 in
set_option maxHeartbeats 3200000 in
theorem tcheck_calls (c : Cfg) (a : Option Addr) (n cap : Nat) (X : Nat → Exm) (DI DO : Nat → List Int) (w : World) (hx : Exs w a n cap X DI DO) :
    Calls Tryz.prog 17 #[c.val, .slice a n cap] w fun e w' => e = .returned (.int .i64 (courseI c n X DI DO)) ∧ Below w.heap.size w w' := by
  have hal := low_alloc w (.cells c.cells 24)
  have HRC : Hid (∀ q, Calls Tryz.prog 32 #[c.val] q fun e w' => e = .returned (.int .i64 (cfgI c)) ∧ Below q.heap.size q w') := fun q => ocheck_calls c q
  cases hc : cfgB c with
  | false =>
    have hE : courseI c n X DI DO = 1 := by unfold courseI; rw [hc]; rfl
    rw [hE]
    rw [cfgI_no hc] at HRC
    clear hE hc hx
    obtain ⟨i, h, o, seed, batch, steps, rate, decay, how, keep, clip⟩ := c
    simp only [Cfg.val, Cfg.cells] at *
    go_enter Tryz.func17, Tryz.ntmps17
    go_wp2_with fail
    refine (HRC.out _).mono ?_
    rintro e w1 ⟨rfl, hw1⟩
    go_wp2
    go_ret
    exact ⟨rfl, hal.trans (hw1.mono hal.size)⟩
  | true =>
    rw [cfgI_yes hc] at HRC
    by_cases h0 : n = 0
    · have hE : courseI c n X DI DO = 1 := by unfold courseI; rw [hc, if_pos rfl, if_pos h0]
      rw [hE]
      have hn : ((n : Int) == 0) = true := by rw [beq_iff_eq]; omega
      clear hE hc hx h0
      obtain ⟨i, h, o, seed, batch, steps, rate, decay, how, keep, clip⟩ := c
      simp only [Cfg.val, Cfg.cells] at *
      go_enter Tryz.func17, Tryz.ntmps17
      go_wp2_with fail
      refine (HRC.out _).mono ?_
      rintro e w1 ⟨rfl, hw1⟩
      go_wp2
      go_ret
      exact ⟨rfl, hal.trans (hw1.mono hal.size)⟩
    · have hn : ((n : Int) == 0) = false := by rw [beq_eq_false_iff_ne]; omega
      by_cases h1 : 16 < n
      · have hE : courseI c n X DI DO = 2 := by unfold courseI; rw [hc, if_pos rfl, if_neg h0, if_pos h1]
        rw [hE]
        have h2 : (16 : Int) < (n : Int) := by omega
        clear hE hc hx h0
        obtain ⟨i, h, o, seed, batch, steps, rate, decay, how, keep, clip⟩ := c
        simp only [Cfg.val, Cfg.cells] at *
        go_enter Tryz.func17, Tryz.ntmps17
        go_wp2_with fail
        refine (HRC.out _).mono ?_
        rintro e w1 ⟨rfl, hw1⟩
        go_wp2
        go_ret
        exact ⟨rfl, hal.trans (hw1.mono hal.size)⟩
      · have h2 : ¬ (16 : Int) < (n : Int) := by omega
        have HBAD : Hid (∀ i, i < n → exB c (X i) (DI i) (DO i) = false → courseI c n X DI DO = 5) := fun i hi hb => course_bad hc h0 (by omega) hi hb
        have HOK : Hid ((∀ i, i < n → exB c (X i) (DI i) (DO i) = true) → courseI c n X DI DO = 0) := fun hb => by unfold courseI; rw [hc, if_pos rfl, if_neg h0, if_neg h1, if_pos (allEx_yes hb)]
        obtain ⟨E, hE⟩ : ∃ E, courseI c n X DI DO = E := ⟨_, rfl⟩
        rw [hE] at HBAD HOK ⊢
        have hside := cfgB_is hc
        have i4 := hside.1.2
        have o4 := hside.2.2.1.2
        have hx1 := hx.below hal (Nat.le_refl _)
        have KB : Hid (∀ q, Below (w.alloc (.cells c.cells 24)).heap.size (w.alloc (.cells c.cells 24)) q → BoxC q w.heap.size c) := fun q hq => boxC hq (by simp)
        clear hE hc hx hside h0
        obtain ⟨i, h, o, seed, batch, steps, rate, decay, how, keep, clip⟩ := c
        simp only [Cfg.val, Cfg.cells] at *
        go_enter Tryz.func17, Tryz.ntmps17
        go_wp2_with fail
        refine (HRC.out _).mono ?_
        rintro e w1 ⟨rfl, hw1⟩
        have hx2 := hx1.below hw1 (Nat.le_refl _)
        have KB2 : Hid (∀ q, Below w1.heap.size w1 q → BoxC q w.heap.size ⟨i, h, o, seed, batch, steps, rate, decay, how, keep, clip⟩) := fun q hq => KB.out q (hw1.trans (hq.mono hw1.size))
        have hb1 := hal.trans (hw1.mono hal.size)
        clear hx1 hw1 hal KB HRC
        go_wp2_with fail
        go_loopw [21] (fun v wr => ∃ k : Nat, k ≤ n ∧ v = .int .i64 k ∧ Hid (∀ j, j < k → exB ⟨i, h, o, seed, batch, steps, rate, decay, how, keep, clip⟩ (X j) (DI j) (DO j) = true) ∧ Below w1.heap.size w1 wr) (fun v _ => n - (intOf v).toNat)
        case atStart => exact ⟨0, Nat.zero_le _, rfl, fun j hj => by omega, Below.refl _ _⟩
        case round =>
          obtain ⟨k, hk, rfl, hg, hwr⟩ := hrel
          have hx3 : Exs wr a n cap X DI DO := hx2.below hwr (Nat.le_refl _)
          have hz := hwr.size
          by_cases hlt : k < n
          · obtain ⟨b, off, rfl, e1, e2, hin⟩ := hx3.at hlt
            have hbad := HBAD.out k hlt
            have hgood : exB ⟨i, h, o, seed, batch, steps, rate, decay, how, keep, clip⟩ (X k) (DI k) (DO k) = true → ∀ j, j < k + 1 → exB ⟨i, h, o, seed, batch, steps, rate, decay, how, keep, clip⟩ (X j) (DI j) (DO j) = true := fun g j hj => by
              by_cases e : j = k
              · subst e; exact g
              · exact hg.out j (by omega)
            obtain ⟨x, hxk⟩ : ∃ x, X k = x := ⟨_, rfl⟩
            rw [hxk] at e1 e2 hin hbad hgood
            obtain ⟨xa, xn, xk, xb, xm, xt⟩ := x
            dsimp only at e1 e2
            have hq := hwr.alloc hwr.size (.cells #[.slice xa xn xk, .slice xb xm xt] 51)
            have hlow := low_alloc wr (.cells #[.slice xa xn xk, .slice xb xm xt] 51)
            have ⟨c0, _, c2, _, _, _, _, _, _, _, _⟩ := KB2.out _ hq
            dsimp only at c0 c2
            obtain ⟨lI, lO⟩ := hin.below hlow (Nat.le_refl _)
            dsimp only at lI lO
            have HL1 : Hid (Calls Tryz.prog 33 #[.slice xa xn xk, .int .i64 i] (wr.alloc (.cells #[.slice xa xn xk, .slice xb xm xt] 51)) fun e w' => e = .returned (.bool (decide ((xn : Int) = i) && rightB (DI k))) ∧ w' = wr.alloc (.cells #[.slice xa xn xk, .slice xb xm xt] 51)) := isList_calls xa xn xk (DI k) i _ lI (by omega)
            have HL2 : Hid (Calls Tryz.prog 33 #[.slice xb xm xt, .int .i64 o] (wr.alloc (.cells #[.slice xa xn xk, .slice xb xm xt] 51)) fun e w' => e = .returned (.bool (decide ((xm : Int) = o) && rightB (DO k))) ∧ w' = wr.alloc (.cells #[.slice xa xn xk, .slice xb xm xt] 51)) := isList_calls xb xm xt (DO k) o _ lO (by omega)
            have hex : exB ⟨i, h, o, seed, batch, steps, rate, decay, how, keep, clip⟩ ⟨xa, xn, xk, xb, xm, xt⟩ (DI k) (DO k) = ((decide ((xn : Int) = i) && rightB (DI k)) && (decide ((xm : Int) = o) && rightB (DO k))) := by
              unfold exB
              dsimp only
              cases decide ((xn : Int) = i) <;> cases decide ((xm : Int) = o) <;> cases rightB (DI k) <;> cases rightB (DO k) <;> rfl
            rw [hex] at hbad hgood
            generalize (decide ((xn : Int) = i) && rightB (DI k)) = p1 at *
            generalize (decide ((xm : Int) = o) && rightB (DO k)) = p2 at *
            have HB : Hid ((p1 && p2) = false → E = 5) := hbad
            have HG : Hid ((p1 && p2) = true → ∀ j, j < k + 1 → exB ⟨i, h, o, seed, batch, steps, rate, decay, how, keep, clip⟩ (X j) (DI j) (DO j) = true) := hgood
            clear hbad hgood hxk hx3 HBAD HOK hg hex lI lO hin
            cases p1 with
            | false =>
              go_wp2_with (go_at_call 33; refine HL1.out.mono ?_; rintro e w' ⟨rfl, hw'⟩; subst hw')
              go_ret
              exact ⟨ret_int (HB.out rfl).symm, hb1.trans (hq.mono hb1.size)⟩
            | true =>
              cases p2 with
              | false =>
                go_wp2_with (first | (go_at_call_of 33 (Value.slice xa xn xk); refine HL1.out.mono ?_; rintro e w' ⟨rfl, hw'⟩; subst hw') | (go_at_call_of 33 (Value.slice xb xm xt); refine HL2.out.mono ?_; rintro e w' ⟨rfl, hw'⟩; subst hw'))
                go_ret
                exact ⟨ret_int (HB.out rfl).symm, hb1.trans (hq.mono hb1.size)⟩
              | true =>
                go_wp2_with (first | (go_at_call_of 33 (Value.slice xa xn xk); refine HL1.out.mono ?_; rintro e w' ⟨rfl, hw'⟩; subst hw') | (go_at_call_of 33 (Value.slice xb xm xt); refine HL2.out.mono ?_; rintro e w' ⟨rfl, hw'⟩; subst hw'))
                go_roundw
                case rel => exact ⟨k + 1, by omega, by go_num, HG.out rfl, hq⟩
                case measure => simp [intOf]; omega
          · obtain rfl : k = n := by omega
            go_wp2
            go_ret
            exact ⟨ret_int (HOK.out hg.out).symm, hb1.trans (hwr.mono hb1.size)⟩
end Go.Proofs.YtkikhfdkibekgaaGreat.Fx

/- What pupil.Grad returns of right things, and where its lists lie. -/
namespace Go.Proofs.YtkikhfdkibekgaaGreat.Fx
open Go.RowKit

set_option maxHeartbeats 3200000 in
theorem pgrad_at (I H O : Nat) (a1 : Option Addr) (k1 : Nat) (a2 : Option Addr) (k2 : Nat) (d1 : Option Addr) (e1 : Nat) (d2 : Option Addr) (e2 : Nat) (d : PD) (v : Option Addr) (cv : Nat) (xs : List Int) (u : Option Addr) (cu : Nat) (ys : List Int) (w : World) (h : InPup w (rpup I H O a1 k1 a2 k2 d1 e1 d2 e2) d) (hv : Lst w v I cv xs) (hu : Lst w u O cu ys) (hr : RightD d) (i1 : 1 ≤ I) (i2 : I ≤ 4) (j1 : 1 ≤ H) (j2 : H ≤ 4) (o1 : 1 ≤ O) (o2 : O ≤ 4) :
    Calls Tryz.prog 63 #[(rpup I H O a1 k1 a2 k2 d1 e1 d2 e2).val, .agg #[.slice v I cv, .slice u O cu]] w fun e w' => ∃ g1 g2 g3 g4 : Nat, e = .returned (.tuple #[(rpup I H O (some ⟨g1, 0, none⟩) (H * I) (some ⟨g2, 0, none⟩) (O * H) (some ⟨g3, 0, none⟩) H (some ⟨g4, 0, none⟩) O).val, .int .i64 0]) ∧ (w.heap.size ≤ g1 ∧ w.heap.size ≤ g2 ∧ w.heap.size ≤ g3 ∧ w.heap.size ≤ g4) ∧ InPup w' (rpup I H O (some ⟨g1, 0, none⟩) (H * I) (some ⟨g2, 0, none⟩) (O * H) (some ⟨g3, 0, none⟩) H (some ⟨g4, 0, none⟩) O) (graD d xs ys I H O) ∧ Below w.heap.size w w' := by
  have hal0 := low_alloc w (.cells (rpup I H O a1 k1 a2 k2 d1 e1 d2 e2).cells 107)
  have hal1 := hal0.alloc hal0.size (.cells #[.slice v I cv, .slice u O cu] 51)
  have hal := hal1.alloc hal1.size (.cells #[.int .i64 0, .int .i64 0, .slice none 0 0, .int .i64 0, .int .i64 0, .slice none 0 0, .slice none 0 0, .slice none 0 0] 107)
  have hst := fn8_alloc ((w.alloc (.cells (rpup I H O a1 k1 a2 k2 d1 e1 d2 e2).cells 107)).alloc (.cells #[.slice v I cv, .slice u O cu] 51)) (.int .i64 0) (.int .i64 0) (.slice none 0 0) (.int .i64 0) (.int .i64 0) (.slice none 0 0) (.slice none 0 0) (.slice none 0 0) 107
  have hc0 := pboth_calls _ d ⟨v, I, cv, u, O, cu⟩ _ (h.below hal (Nat.le_refl _))
  have hz : exI (rpup I H O a1 k1 a2 k2 d1 e1 d2 e2) d I O = 0 := by
    unfold exI
    rw [if_pos (pchk_right i1 i2 j1 j2 o1 o2 hr), if_pos ⟨rfl, rfl⟩]
  rw [hz] at hc0
  have HC1 : Hid (∀ q, Below w.heap.size w q → Calls Tryz.prog 85 #[(rpup I H O a1 k1 a2 k2 d1 e1 d2 e2).val, .slice v I cv] q fun e w' => ∃ ah ay, e = .returned (.tuple #[.slice ah H H, .slice ay O O]) ∧ Lst w' ah H H (hidL d xs I H) ∧ Lst w' ay O O (outYL d xs I H O) ∧ Below q.heap.size q w') :=
    fun q hq => forward_calls I H O a1 k1 a2 k2 d1 e1 d2 e2 d v cv xs q (h.below hq (Nat.le_refl _)) (hv.below hq (Nat.le_refl _)) hr i1 i2 j1 j2 o1 o2
  have HC2 : Hid (∀ q ad, Below w.heap.size w q → Lst q ad O O (difL d xs ys I H O) → Calls Tryz.prog 87 #[.agg #[.int .i64 O, .int .i64 H, .slice a2 (O * H) k2], .slice ad O O] q fun e w' => ∃ g, e = .returned (.tuple #[.slice (some ⟨g, 0, none⟩) H H, .int .i64 0]) ∧ q.heap.size ≤ g ∧ w'.rowIs g 3 H (rowTo (backG d.X2 (difL d xs ys I H O) O H) H) ∧ Below q.heap.size q w') :=
    fun q ad hq hl => vBack_row O H a2 k2 d.X2 ad O _ q (h.below hq (Nat.le_refl _)).x2 hl o1 o2 j1 j2 hr.2.1
  have HV : Hid (∀ q, Below w.heap.size w q → Lst q v I cv xs) := fun q hq => hv.below hq (Nat.le_refl _)
  have HU : Hid (∀ q, Below w.heap.size w q → Lst q u O cu ys) := fun q hq => hu.below hq (Nat.le_refl _)
  clear h hv hu hz hal0 hal1
  simp only [Pup.val, Pup.cells, rpup, Exm.val] at *
  simp at hst
  generalize hB : (((w.alloc (.cells #[.int .i64 H, .int .i64 I, .slice a1 (H * I) k1, .int .i64 O, .int .i64 H, .slice a2 (O * H) k2, .slice d1 H e1, .slice d2 O e2] 107)).alloc (.cells #[.slice v I cv, .slice u O cu] 51)).alloc (.cells #[.int .i64 0, .int .i64 0, .slice none 0 0, .int .i64 0, .int .i64 0, .slice none 0 0, .slice none 0 0, .slice none 0 0] 107)) = W3 at hal hst hc0
  have hWs : W3.heap.size = w.heap.size + 1 + 1 + 1 := by rw [← hB]; simp
  have KA : Hid (∀ q, Below W3.heap.size W3 q → Box8 q w.heap.size (.int .i64 H) (.int .i64 I) (.slice a1 (H * I) k1) (.int .i64 O) (.int .i64 H) (.slice a2 (O * H) k2) (.slice d1 H e1) (.slice d2 O e2)) := by
    intro q hq
    rw [hWs, ← hB] at hq
    exact boxA (B := w.heap.size + 1) (((Below.refl _ _).alloc (by simp) _).trans (hq.mono (by omega))) (by omega)
  have KE : Hid (∀ q, Below W3.heap.size W3 q → q.cell? ⟨w.heap.size + 1, 0, none⟩ = some (.slice v I cv) ∧ q.cell? ⟨w.heap.size + 1, 1, none⟩ = some (.slice u O cu)) := by
    intro q hq
    rw [hWs, ← hB] at hq
    exact boxE (B := w.heap.size + 1 + 1) (((Below.refl _ _).alloc (by simp) _).trans (hq.mono (by omega))) (by omega)
  have KR : Hid (∀ q, Below W3.heap.size W3 q → q.rowIs (w.heap.size + 1 + 1) 107 8 (fn8 (.int .i64 0) (.int .i64 0) (.slice none 0 0) (.int .i64 0) (.int .i64 0) (.slice none 0 0) (.slice none 0 0) (.slice none 0 0))) := fun q hq => rowIs_below hst hq (by omega)
  have KW : Hid (∀ q, Below W3.heap.size W3 q → Below w.heap.size w q) := fun q hq => hal.trans (hq.mono hal.size)
  have hB' : (((w.alloc (.cells #[.int .i64 H, .int .i64 I, .slice a1 (H * I) k1, .int .i64 O, .int .i64 H, .slice a2 (O * H) k2, .slice d1 H e1, .slice d2 O e2] 107)).alloc (.cells #[.slice v I cv, .slice u O cu] 51)).alloc (.cells #[.int .i64 0, .int .i64 0, .slice none 0 0, .int .i64 0, .int .i64 0, .slice none 0 0, .slice none 0 0, .slice none 0 0] 107)) = W3 := hB
  have HB : Hid ((((w.alloc (.cells #[.int .i64 H, .int .i64 I, .slice a1 (H * I) k1, .int .i64 O, .int .i64 H, .slice a2 (O * H) k2, .slice d1 H e1, .slice d2 O e2] 107)).alloc (.cells #[.slice v I cv, .slice u O cu] 51)).alloc (.cells #[.int .i64 0, .int .i64 0, .slice none 0 0, .int .i64 0, .int .i64 0, .slice none 0 0, .slice none 0 0, .slice none 0 0] 107)) = W3) := hB
  clear hB hB' hst hal
  have s1 := prod_sideN j2 i2
  have s2 := prod_sideN o2 j2
  go_enter Tryz.func63, Tryz.ntmps63
  go_wp2_with fail
  rw [HB.out]
  refine hc0.mono ?_
  rintro e w1 ⟨rfl, T1⟩
  obtain ⟨f0, f1, f2, f3, f4, f5, f6, f7⟩ := KA.out _ T1
  obtain ⟨x0, x1⟩ := KE.out _ T1
  have hc1 := HC1.out _ (KW.out _ T1)
  clear hc0
  go_wp2_with fail
  refine hc1.mono ?_
  rintro e w2 ⟨ah, ay, rfl, hh, hy, hw2⟩
  have T2 := T1.trans (hw2.mono T1.size)
  clear hc1 hw2 T1 f0 f1 f2 f3 f4 f5 f6 f7 x0 x1
  obtain ⟨x0, x1⟩ := KE.out _ T2
  have hc2 := less_calls ay u O O cu _ ys w2 hy (HU.out _ (KW.out _ T2)) (by omega)
  go_wp2_with fail
  refine hc2.mono ?_
  rintro e w3 ⟨gd, rfl, hgd, hd, hw3⟩
  have hh3 := hh.below hw3 (Nat.le_refl _)
  have T3 := T2.trans (hw3.mono T2.size)
  have hd3 : Lst w3 (some ⟨gd, 0, none⟩) O O (difL d xs ys I H O) := hd
  have hgd' : W3.heap.size ≤ gd := Nat.le_trans T2.size hgd
  have hg3' : W3.heap.size ≤ w3.heap.size := T3.size
  clear hc2 hw3 T2 x0 x1 hh hy hd
  obtain ⟨f0, f1, f2, f3, f4, f5, f6, f7⟩ := KA.out _ T3
  have hc3 := HC2.out _ (some ⟨gd, 0, none⟩) (KW.out _ T3) hd3
  go_wp2_with fail
  refine hc3.mono ?_
  rintro e w4 ⟨g, rfl, hg, hrow, hw4⟩
  clear hc3 f0 f1 f2 f3 f4 f5 f6 f7
  go_wp2
  go_loopw [44] (fun i wr => ∃ k : Nat, k ≤ H ∧ i = .int .i64 k ∧ wr.rowIs g 3 H (midTo (graG d xs ys I H O) (backG d.X2 (difL d xs ys I H O) O H) k) ∧ Below w3.heap.size w3 wr) (fun i _ => H - (intOf i).toNat)
  case atStart => exact ⟨0, Nat.zero_le _, rfl, midTo_start hrow, hw4⟩
  case round =>
    obtain ⟨k, hk, rfl, hrow, hbel⟩ := hrel
    by_cases hlt : k < H
    · have c3 := midTo_cell hrow hlt
      have f3 := hrow.frozen k
      obtain ⟨b1, o1', x, rfl, sb1, c1, HX⟩ := hh3.at1b hbel (Nat.le_refl _) hlt
      by_cases hx : x = 0
      · have hx' : (x == 0) = true := by simpa using hx
        have HG : Hid (graG d xs ys I H O k = 0) := by show (if (hidL d xs I H).getD k 0 = 0 then 0 else backG d.X2 (difL d xs ys I H O) O H k) = 0; rw [HX.out]; exact if_pos hx
        clear hx
        go_wp2
        go_roundw
        case rel =>
          have st := midTo_step hrow
          rw [HG.out] at st
          exact ⟨k + 1, by omega, by go_num, st, hbel.setCell (by exact hg) _⟩
        case measure => simp [intOf]; omega
      · have hx' : (x == 0) = false := by simpa using hx
        have HG : Hid (graG d xs ys I H O k = backG d.X2 (difL d xs ys I H O) O H k) := by show (if (hidL d xs I H).getD k 0 = 0 then 0 else backG d.X2 (difL d xs ys I H O) O H k) = _; rw [HX.out]; exact if_neg hx
        go_wp2
        go_roundw
        case rel => exact ⟨k + 1, by omega, by go_num, midTo_skip hrow HG.out, hbel⟩
        case measure => simp [intOf]; omega
    · obtain rfl : k = H := by omega
      have hgl : Lst wr (some ⟨g, 0, none⟩) k k (graL d xs ys I k O) := midTo_end hrow
      have T5 := T3.trans (hbel.mono T3.size)
      have hh5 := hh3.below hbel (Nat.le_refl _)
      have hd5 := hd3.below hbel (Nat.le_refl _)
      clear hrow hbel hh3 hd3 hw4 T3
      obtain ⟨x0, x1⟩ := KE.out _ T5
      have hc5 := vOuter_good (some ⟨g, 0, none⟩) v k k I cv _ xs wr hgl (HV.out _ (KW.out _ T5)) j1 j2 i1 i2
      go_wp2_with fail
      refine hc5.mono ?_
      rintro e w6 ⟨gw1, rfl, hgw1, hl6, hw6⟩
      have T6 := T5.trans (hw6.mono T5.size)
      have hal6 := low_alloc w6 (.cells #[.int .i64 k, .int .i64 I, .slice (some ⟨gw1, 0, none⟩) (k * I) (k * I)] 105)
      have T7 := T6.trans (hal6.mono T6.size)
      have hb67 := hw6.trans (hal6.mono hw6.size)
      have hc7 := vOuter_good (some ⟨gd, 0, none⟩) ah O O k k _ _ _ (hd5.below hb67 (Nat.le_refl _)) (hh5.below hb67 (Nat.le_refl _)) o1 o2 j1 j2
      clear hc5 x0 x1
      go_wp2_with fail
      refine hc7.mono ?_
      rintro e w8 ⟨gw2, rfl, hgw2, hl8, hw8⟩
      have hal8 := low_alloc w8 (.cells #[.int .i64 O, .int .i64 k, .slice (some ⟨gw2, 0, none⟩) (O * k) (O * k)] 105)
      have T8 := T7.trans (hw8.mono T7.size)
      have T9 := T8.trans (hal8.mono T8.size)
      have hb79 := hw8.trans (hal8.mono hw8.size)
      obtain ⟨m0, m1, m2⟩ := box3 _ _ _ _ hb79 (by simp)
      have hg9 := (hgl.below hb67 (Nat.le_refl _)).below hb79 (Nat.le_refl _)
      have hd9 := (hd5.below hb67 (Nat.le_refl _)).below hb79 (Nat.le_refl _)
      have hl69 := (hl6.below hal6 (Nat.le_refl _)).below hb79 (Nat.le_refl _)
      have hl89 := hl8.below hal8 (Nat.le_refl _)
      have hr9 := KR.out _ T9
      obtain ⟨q0, q1, q2, q3, q4, q5, q6, q7⟩ := fn8_box hr9
      have g0 := hr9.frozen 0
      have g1 := hr9.frozen 1
      have g2 := hr9.frozen 2
      have g3 := hr9.frozen 3
      have g4 := hr9.frozen 4
      have g5 := hr9.frozen 5
      have g6 := hr9.frozen 6
      have g7 := hr9.frozen 7
      have hw1s : W3.heap.size ≤ gw1 := Nat.le_trans T5.size hgw1
      have hw2s : W3.heap.size ≤ gw2 := Nat.le_trans T7.size hgw2
      have hgs : W3.heap.size ≤ g := Nat.le_trans hg3' hg
      clear hc7 hb67 hb79 hgl hd5 hh5 hl6 hl8 T5 T6 T7 T8 hal6 hal8 hw6 hw8
      go_wp2
      have hq := fn8_set8 hr9 (.int .i64 k) (.int .i64 I) (.slice (some ⟨gw1, 0, none⟩) (k * I) (k * I)) (.int .i64 O) (.int .i64 k) (.slice (some ⟨gw2, 0, none⟩) (O * k) (O * k)) (.slice (some ⟨g, 0, none⟩) k k) (.slice (some ⟨gd, 0, none⟩) O O)
      have hgr := grown8 (w8.alloc (.cells #[.int .i64 O, .int .i64 k, .slice (some ⟨gw2, 0, none⟩) (O * k) (O * k)] 105)) (w.heap.size + 1 + 1) (.int .i64 k) (.int .i64 I) (.slice (some ⟨gw1, 0, none⟩) (k * I) (k * I)) (.int .i64 O) (.int .i64 k) (.slice (some ⟨gw2, 0, none⟩) (O * k) (O * k)) (.slice (some ⟨g, 0, none⟩) k k) (.slice (some ⟨gd, 0, none⟩) O O)
      refine (fun (key : ∀ wz : World, wz.rowIs (w.heap.size + 1 + 1) 107 8 (fn8 (.int .i64 k) (.int .i64 I) (.slice (some ⟨gw1, 0, none⟩) (k * I) (k * I)) (.int .i64 O) (.int .i64 k) (.slice (some ⟨gw2, 0, none⟩) (O * k) (O * k)) (.slice (some ⟨g, 0, none⟩) k k) (.slice (some ⟨gd, 0, none⟩) O O)) → (w8.alloc (.cells #[.int .i64 O, .int .i64 k, .slice (some ⟨gw2, 0, none⟩) (O * k) (O * k)] 105)).grownBy wz (some (w.heap.size + 1 + 1)) → bodyPost Tryz.prog Tryz.f63 _ Exit.ret _ wz) => key _ hq hgr) ?_
      clear hq hgr hr9 q0 q1 q2 q3 q4 q5 q6 q7 g0 g1 g2 g3 g4 g5 g6 g7 m0 m1 m2
      intro wz hq hgr
      obtain ⟨q0, q1, q2, q3, q4, q5, q6, q7⟩ := fn8_box hq
      have hbw := KW.out _ T9
      refine bodyPost_ret (v := .tuple #[(rpup I k O (some ⟨gw1, 0, none⟩) (k * I) (some ⟨gw2, 0, none⟩) (O * k) (some ⟨g, 0, none⟩) k (some ⟨gd, 0, none⟩) O).val, .int .i64 0]) (by simp [results, Tryz.results63, go_sem, rpup, Pup.val, Pup.cells, q0, q1, q2, q3, q4, q5, q6, q7]) rfl ⟨gw1, gw2, g, gd, rfl, ⟨by omega, by omega, by omega, by omega⟩, ⟨?_, ?_, ?_, ?_⟩, hbw.grown hgr hbw.size (fun k hk => by simp at hk; omega)⟩
      · exact hl69.grown hgr (by omega)
      · exact hl89.grown hgr (by omega)
      · exact hg9.grown hgr (by omega)
      · exact hd9.grown hgr (by omega)
end Go.Proofs.YtkikhfdkibekgaaGreat.Fx

/- What slices.Grow (of nil), slices.Concat (of four lists) and pupil.Flat return. -/
namespace Go.Proofs.YtkikhfdkibekgaaGreat.Fx
open Go.RowKit

set_option maxRecDepth 100000 in
set_option maxHeartbeats 800000 in
theorem grow_calls (n : Nat) (w : World) (h0 : 0 < n) (h1 : n ≤ 1000) :
    Calls Tryz.prog 47 #[.slice none 0 0, .int .i64 n] w fun e w' => ∃ v, e = .returned v ∧ OwnI w.heap.size w' v [] ∧ Below w.heap.size w w' := by
  obtain ⟨i0, hi, hz0, hz1, hz2⟩ := info_parts info3
  have happ := fun ty => Lib.run_append_nil_zeros (P := Tryz.prog) w 26 3 ty 3 i0 (.int .i64 0) .i64 .i64 Tryz.underlying26 Tryz.underlying3 hi hz0 n h0 (by omega) (by omega) (by rw [hz2]; omega)
  have hge := grownCap_ge w n 0 3
  have hle := grownCap_le_maxLen w n 0 3 (by unfold maxLen; omega)
  generalize grownCap w n 0 3 = G at happ hge hle
  have hG63 : G ≤ 9223372036854775807 := by unfold maxLen at hle; omega
  have hsz : (Builtin.zeroCells (Value.int .i64 0).cells n ++ Builtin.zeroCells (Value.int .i64 0).cells (G - n)).size = G * 1 := by
    simp [size_zeroCells, Value.cells]; omega
  generalize Builtin.zeroCells (Value.int .i64 0).cells n ++ Builtin.zeroCells (Value.int .i64 0).cells (G - n) = cs at happ hsz
  have hpos : (n : Int) > 0 := by omega
  go_enter Tryz.func47, Tryz.ntmps47
  go_wp2_with (at_builtin; refine Lib.wpList_append_run _ rfl _ _ _ _ rfl _ _ rfl rfl _ _ (happ _) ?_)
  go_ret
  refine ⟨_, rfl, ⟨rfl, .inr ⟨w.heap.size, G, cs, rfl, Nat.le_refl _, ?_, Nat.zero_le _, hle, hsz, rfl⟩⟩, ?_⟩
  · exact heap_alloc_new w.drew _
  · exact ((Below.refl _ _).drew).alloc (Nat.le_refl _) _

/-! An append of as many integers as a list has. -/
section
variable {w' W0 : World} {ops : Array Oper} {o : Oper} {a : Act} {Q : Exit → Act → World → Prop}

theorem run_append_ints (ty : TypeId) (base : Nat) (v : Value) (xs ys : List Int) (src : Option Addr) (m c : Nat) (hm : 0 < m) (hown : OwnI base w' v xs) (hsrc : Lst w' src m c ys)
    (hn : (xs.length + m) * 8 ≤ 140737488355328) (hbase : base ≤ w'.heap.size) (hB : Below base W0 w') :
    ∃ v' w1, (Builtin.append_ #[26, 26] ty #[v, .slice src m c]).run Tryz.prog w' = .ok v' w1 ∧ OwnI base w1 v' (xs ++ ys) ∧ Below base W0 w1 := by
  obtain ⟨i0, hi, hz0, hz1, hz2⟩ := info_parts info3
  have hl := hsrc.len
  obtain ⟨b, off, rfl, _, hc⟩ := hsrc.at hm
  obtain ⟨v', w1, hrun, h1, h2, _⟩ := run_append_own (P := Tryz.prog) w' base 26 ty 3 i0 (.int .i64 0) 1 8 Tryz.underlying26 hi hz0 hz1 hz2 rfl (by decide) v xs.length _ hown ⟨b, off, none⟩ m c (ys.map (Value.int .i64)) (by simp [hl])
    (by intro j u hj
        have hj' : j < ys.length := by
          have := (List.getElem?_eq_some_iff.1 hj).1
          simpa using this
        rw [getD_map_int ys j hj'] at hj
        rw [Go.WideShapes.add_plain, hc j (by omega)]
        exact hj)
    (by intro u hu
        obtain ⟨z, _, rfl⟩ := List.mem_map.1 hu
        rfl) (by unfold maxLen; omega) hn hbase
  refine ⟨v', w1, hrun, by unfold OwnI; rw [List.length_append, List.map_append, hl]; exact h1, hB.grown h2 hbase ?_⟩
  intro k hk
  rcases hown.2 with ⟨rfl, _⟩ | ⟨g', cap, cur, rfl, hg, _⟩
  · simp [Value.ownBlock] at hk
  · simp [Value.ownBlock] at hk; omega

theorem wpList_append_ints {rest : List Oper} (hgd : o.guard = none) (s x : Operand) (ho : o.op = .call { callee := .builtin .append, args := #[s, x], argTypes := #[26, 26] })
    (base : Nat) (v : Value) (xs ys : List Int) (src : Option Addr) (m c : Nat) (W0 : World) (hm : 0 < m) (hs : a.eval s = v) (hx : a.eval x = .slice src m c) (hown : OwnI base w' v xs) (hsrc : Lst w' src m c ys)
    (hn : (xs.length + m) * 8 ≤ 140737488355328) (hbase : base ≤ w'.heap.size) (hB : Below base W0 w')
    (h : ∀ v' w1, OwnI base w1 v' (xs ++ ys) → Below base W0 w1 → wpList Tryz.prog ops Q rest (a.put o.dst v') w1) : wpList Tryz.prog ops Q (o :: rest) a w' := by
  obtain ⟨v', w1, hrun, h1, h2⟩ := run_append_ints o.type base v xs ys src m c hm hown hsrc hn hbase hB
  refine wpList_plain hgd fun K hK => ?_
  unfold Oper.wp
  simp [execOp, ho, resolve, invoke, builtin, hs, hx, hrun, Result.andThen]
  exact hK _ _ (h v' w1 h1 h2)
end

def lenTo (L : Nat → Nat) : Nat → Nat
  | 0 => 0
  | k + 1 => lenTo L k + L k
def catTo (X : Nat → List Int) : Nat → List Int
  | 0 => []
  | k + 1 => catTo X k ++ X k
theorem lenTo_le (L : Nat → Nat) {k n : Nat} (h : k ≤ n) : lenTo L k ≤ lenTo L n := by
  induction n with
  | zero => obtain rfl : k = 0 := by omega
            exact Nat.le_refl _
  | succ n ih =>
    by_cases e : k = n + 1
    · subst e; exact Nat.le_refl _
    · have := ih (by omega)
      rw [lenTo]; omega
theorem catTo_len (X : Nat → List Int) (L : Nat → Nat) (n : Nat) (h : ∀ i, i < n → (X i).length = L i) : (catTo X n).length = lenTo L n := by
  induction n with
  | zero => rfl
  | succ n ih => rw [catTo, lenTo, List.length_append, ih (fun i hi => h i (by omega)), h n (by omega)]

set_option maxHeartbeats 1600000 in
theorem concat_calls (n : Nat) (A : Nat → Option Addr) (L C : Nat → Nat) (X : Nat → List Int) (b : Nat) (w : World) (hb : b < w.heap.size) (hn0 : 0 < n) (hn : n ≤ 1000) (hc : ∀ i, i < n → w.cell? ⟨b, i, none⟩ = some (.slice (A i) (L i) (C i)))
    (hl : ∀ i, i < n → Lst w (A i) (L i) (C i) (X i)) (hp : ∀ i, i < n → 0 < L i) (hs : lenTo L n ≤ 1000) :
    Calls Tryz.prog 26 #[.slice (some ⟨b, 0, none⟩) n n] w fun e w' => ∃ v, e = .returned v ∧ OwnI w.heap.size w' v (catTo X n) ∧ Below w.heap.size w w' := by
  have HC : Hid (∀ i, i < n → w.cell? ⟨b, i, none⟩ = some (.slice (A i) (L i) (C i))) := hc
  have HL : Hid (∀ i, i < n → Lst w (A i) (L i) (C i) (X i)) := hl
  have HP : Hid (∀ i, i < n → 0 < L i) := hp
  clear hc hl hp
  go_enter Tryz.func26, Tryz.ntmps26
  go_wp2
  go_loopw [3, 11] (fun s i wr => ∃ k : Nat, k ≤ n ∧ i = .int .i64 k ∧ s = .int .i64 (lenTo L k) ∧ wr = w) (fun _ i _ => n - (intOf i).toNat)
  case atStart => exact ⟨0, Nat.zero_le _, rfl, rfl, rfl⟩
  case round =>
    obtain ⟨k, hk, rfl, rfl, hw⟩ := hrel
    replace hw := hw.symm
    subst hw
    by_cases hlt : k < n
    · have c := HC.out k hlt
      have b1 := lenTo_le L (k := k + 1) (n := n) (by omega)
      have b2 : lenTo L (k + 1) = lenTo L k + L k := rfl
      obtain ⟨l, hl⟩ : ∃ l, Hid (L k = l) := ⟨_, rfl⟩
      obtain ⟨T, hT⟩ : ∃ T, Hid (lenTo L k = T) := ⟨_, rfl⟩
      rw [hl.out] at c b2
      rw [hT.out] at b2
      have b3 : T + l ≤ 1000 := by omega
      rw [hT.out]
      clear b1 b2
      go_wp2
      go_roundw
      case rel => exact ⟨k + 1, by omega, by go_num, by rw [lenTo, hT.out, hl.out]; go_num, by trivial⟩
      case measure => simp [intOf]; omega
    · obtain rfl : k = n := by omega
      have hpos : 0 < lenTo L k := by
        have b1 := lenTo_le L (k := 1) (n := k) (by omega)
        have b2 : lenTo L 1 = 0 + L 0 := rfl
        have := HP.out 0 hn0
        omega
      obtain ⟨T, hT⟩ : ∃ T, Hid (lenTo L k = T) := ⟨_, rfl⟩
      have HS : Hid (lenTo L k ≤ 1000) := hs
      rw [hT.out] at hs hpos ⊢
      go_wp2_with fail
      refine (grow_calls T _ hpos hs).mono ?_
      rintro e w1 ⟨v0, rfl, hown, hw1⟩
      go_wp2
      go_loopw [6, 27] (fun v i wr => ∃ j : Nat, j ≤ k ∧ i = .int .i64 j ∧ OwnI w.heap.size wr v (catTo X j) ∧ Below w.heap.size w wr) (fun _ i _ => k - (intOf i).toNat)
      case atStart => exact ⟨0, Nat.zero_le _, rfl, hown, hw1⟩
      case round =>
        obtain ⟨j, hj, rfl, hown, hbel⟩ := hrel
        have hsz := hbel.size
        by_cases hlt2 : j < k
        · have c := (hbel.cell (p := ⟨b, j, none⟩) (by exact hb)).trans (HC.out j hlt2)
          have hx := (HL.out j hlt2).below hbel (Nat.le_refl _)
          have hp := HP.out j hlt2
          have hlen : (catTo X j).length + L j ≤ 1000 := by
            rw [catTo_len X L j (fun i hi => (HL.out i (by omega)).len)]
            have b1 := lenTo_le L (k := j + 1) (n := k) (by omega)
            have b2 : lenTo L (j + 1) = lenTo L j + L j := rfl
            have := HS.out
            omega
          obtain ⟨l, hl⟩ : ∃ l, Hid (L j = l) := ⟨_, rfl⟩
          rw [hl.out] at c hx hp hlen
          go_wp2_with (at_builtin; refine wpList_append_ints (by rfl) _ _ (by rfl) w.heap.size _ (catTo X j) (X j) (A j) l (C j) w hp (by rfl) (by rfl) (by exact hown) (by exact hx) (by omega) (by exact hsz) (by exact hbel) ?_; intro v1 w3 hown1 hbel1)
          go_roundw
          case rel => exact ⟨j + 1, by omega, by go_num, hown1, hbel1⟩
          case measure => simp [intOf]; omega
        · obtain rfl : j = k := by omega
          go_wp2
          go_ret
          exact ⟨_, rfl, hown, hbel⟩

def four {α : Type} (x0 x1 x2 x3 : α) (i : Nat) : α := if i = 0 then x0 else if i = 1 then x1 else if i = 2 then x2 else x3
theorem lt_four {i : Nat} (h : i < 4) : i = 0 ∨ i = 1 ∨ i = 2 ∨ i = 3 := by omega

theorem concat4 (a0 a1 a2 a3 : Option Addr) (l0 l1 l2 l3 c0 c1 c2 c3 : Nat) (x0 x1 x2 x3 : List Int) (g : Nat) (w : World) (hg : g = w.heap.size) (h0 : Lst w a0 l0 c0 x0) (h1 : Lst w a1 l1 c1 x1) (h2 : Lst w a2 l2 c2 x2) (h3 : Lst w a3 l3 c3 x3)
    (p0 : 0 < l0) (p1 : 0 < l1) (p2 : 0 < l2) (p3 : 0 < l3) (hs : l0 + l1 + l2 + l3 ≤ 1000) :
    Calls Tryz.prog 26 #[.slice (some ⟨g, 0, none⟩) 4 4] (w.alloc (.cells #[.slice a0 l0 c0, .slice a1 l1 c1, .slice a2 l2 c2, .slice a3 l3 c3] 26)) fun e w' => ∃ a n c, e = .returned (.slice a n c) ∧ n = l0 + l1 + l2 + l3 ∧ Lst w' a n c (x0 ++ (x1 ++ (x2 ++ x3))) ∧ Below w.heap.size w w' := by
  subst hg
  have hal := (Below.refl w.heap.size w).alloc (Nat.le_refl _) (.cells #[.slice a0 l0 c0, .slice a1 l1 c1, .slice a2 l2 c2, .slice a3 l3 c3] 26)
  have hr := World.rowIs_alloc w #[.slice a0 l0 c0, .slice a1 l1 c1, .slice a2 l2 c2, .slice a3 l3 c3] 26 (fun i => .slice (four a0 a1 a2 a3 i) (four l0 l1 l2 l3 i) (four c0 c1 c2 c3 i)) (by
    intro i hi
    rcases lt_four hi with rfl | rfl | rfl | rfl <;> rfl)
  refine (concat_calls 4 (four a0 a1 a2 a3) (four l0 l1 l2 l3) (four c0 c1 c2 c3) (four x0 x1 x2 x3) w.heap.size _ (by simp) (by omega) (by omega) (fun i hi => hr.cell hi) ?_ ?_ ?_).mono ?_
  · intro i hi
    rcases lt_four hi with rfl | rfl | rfl | rfl
    · exact h0.below hal (Nat.le_refl _)
    · exact h1.below hal (Nat.le_refl _)
    · exact h2.below hal (Nat.le_refl _)
    · exact h3.below hal (Nat.le_refl _)
  · intro i hi
    rcases lt_four hi with rfl | rfl | rfl | rfl
    · exact p0
    · exact p1
    · exact p2
    · exact p3
  · show 0 + l0 + l1 + l2 + l3 ≤ 1000
    omega
  · rintro e w' ⟨v, rfl, hown, hb⟩
    obtain ⟨a, c, rfl, hl⟩ := hown.lst
    have e1 : catTo (four x0 x1 x2 x3) 4 = x0 ++ (x1 ++ (x2 ++ x3)) := by
      show (([] ++ x0) ++ x1 ++ x2) ++ x3 = _
      simp [List.append_assoc]
    rw [e1] at hl ⊢
    exact ⟨a, _, c, rfl, by simp [h0.len, h1.len, h2.len, h3.len]; omega, hl, hal.trans (hb.mono hal.size)⟩

theorem flatD_len {I H O : Nat} {a1 : Option Addr} {k1 : Nat} {a2 : Option Addr} {k2 : Nat} {d1 : Option Addr} {e1 : Nat} {d2 : Option Addr} {e2 : Nat} {d : PD} {w : World} (h : InPup w (rpup I H O a1 k1 a2 k2 d1 e1 d2 e2) d) :
    d.X1.length = H * I ∧ d.B1.length = H ∧ d.X2.length = O * H ∧ d.B2.length = O := ⟨h.x1.len, h.b1.len, h.x2.len, h.b2.len⟩

set_option maxHeartbeats 1600000 in
theorem pflat_calls (p : Pup) (d : PD) (w : World) (h : InPup w p d) :
    Calls Tryz.prog 64 #[p.val] w fun e w' => ∃ a n c, e = .returned (.tuple #[.slice a n c, .int .i64 (pchk p d)]) ∧ n ≤ 40 ∧ Lst w' a n c (flatL p d) ∧ Below w.heap.size w w' := by
  have hal := (Below.refl w.heap.size w).alloc (Nat.le_refl _) (.cells p.cells 107)
  have h1 := h.below hal (Nat.le_refl _)
  have hck := pcheck_calls p d _ h1
  unfold flatL
  rcases pchk_cases p d with h0 | ⟨h0, t0, _⟩
  · rw [if_pos h0]
    have G : Hid (pchk p d = 0) := h0
    obtain ⟨I, H, O, a1, k1, a2, k2, d1, e1, d2, e2, rfl, i1, i2, j1, j2, o1, o2, hr⟩ := pchk_zero h0
    clear h0 hr h
    obtain ⟨X1, X2, B1, B2⟩ := d
    obtain ⟨hx1, hx2, hb1, hb2⟩ := h1
    simp only [Pup.val, Pup.cells, rpup] at *
    have s1 := prod_sideN j2 i2
    have s2 := prod_sideN o2 j2
    have s3 : 0 < H * I := Nat.mul_pos (by omega) (by omega)
    have s4 : 0 < O * H := Nat.mul_pos (by omega) (by omega)
    go_enter Tryz.func64, Tryz.ntmps64
    go_wp2_with fail
    refine hck.mono ?_
    rintro e w1 ⟨rfl, hw1⟩
    rw [G.out]
    obtain ⟨f0, f1, f2, f3, f4, f5, f6, f7⟩ := box8 hw1 (by simp)
    have hbw := hal.trans (hw1.mono hal.size)
    have hx1 := hx1.below hw1 (Nat.le_refl _)
    have hx2 := hx2.below hw1 (Nat.le_refl _)
    have hb1 := hb1.below hw1 (Nat.le_refl _)
    have hb2 := hb2.below hw1 (Nat.le_refl _)
    clear hal hck hw1
    go_wp2_with fail
    refine (concat4 a1 d1 a2 d2 _ _ _ _ _ _ _ _ X1 B1 X2 B2 _ _ rfl hx1 hb1 hx2 hb2 s3 (by omega) s4 (by omega) (by omega)).mono ?_
    rintro e w2 ⟨a, n, c, rfl, hn, hl, hw2⟩
    have hn40 : n ≤ 40 := by omega
    clear hn
    go_wp2
    go_ret2
    exact ⟨a, n, c, by rw [G.out]; rfl, hn40, hl, hbw.trans (hw2.mono hbw.size)⟩
  · rw [if_neg h0]
    obtain ⟨r1, c1, a1, n1, k1, r2, c2, a2, n2, k2, d1, m1, e1, d2, m2, e2⟩ := p
    simp only [Pup.val, Pup.cells] at *
    clear h h1
    go_enter Tryz.func64, Tryz.ntmps64
    go_wp2_with fail
    refine hck.mono ?_
    rintro e w1 ⟨rfl, hw1⟩
    go_wp2
    go_ret2
    exact ⟨_, _, _, rfl, Nat.zero_le _, Lst.nil _ _ _, hal.trans (hw1.mono hal.size)⟩
end Go.Proofs.YtkikhfdkibekgaaGreat.Fx
