/- The walk of PupilSays: it returns true, whatever pupil, sides and list lie there, and nothing that was there is written. -/
import Derived.Test.YtmoeogecafjcmaaRefPup
import Derived.Test.YtmoeogecafjcmaaRefSame
import Derived.Deep.DeepCutAuto
import Derived.Deep.CutBlock
namespace Go.Proofs.Ytmoeogecafjcmaa.Fx
open Go.RowKit

def noPD : PD := ⟨[], [], [], []⟩
theorem noPup_in (w : World) : InPup w noPup noPD := ⟨Lst.nil _ _ _, Lst.nil _ _ _, Lst.nil _ _ _, Lst.nil _ _ _⟩

/-- What Shape should tell: nothing beside an error, or the pupil whose numbers these are. -/
def ShapeOf (i h o : Int) (len : Nat) (xs : List Int) (P : Pup) (D : PD) : Prop :=
  (shpI i h o len xs ≠ 0 ∧ P = noPup ∧ D = noPD) ∨
  ∃ (I H O : Nat) (a1 : Option Addr) (k1 : Nat) (a2 : Option Addr) (k2 : Nat) (b1 : Option Addr) (t1 : Nat) (b2 : Option Addr) (t2 : Nat), i = I ∧ h = H ∧ o = O ∧ 1 ≤ I ∧ I ≤ 4 ∧ 1 ≤ H ∧ H ≤ 4 ∧ 1 ≤ O ∧ O ≤ 4 ∧ len = H * I + H + O * H + O ∧ rightB xs = true ∧ shpI i h o len xs = 0 ∧ P = rpup I H O a1 k1 a2 k2 b1 t1 b2 t2 ∧ D = cutD I H O xs

/-- What the law reckons of Shape: its error; and, in the block that was laid for it, the pupil. -/
structure Want (i h o : Int) (len : Nat) (xs : List Int) (q : World) (e : Value) (w4 : World) : Prop where
  he : e = .int .i64 (shpI i h o len xs)
  hp : ∃ P D, ShapeOf i h o len xs P D ∧ InPup w4 P D ∧ w4.rowIs q.heap.size 47 8 (fn8 (.int .i64 P.r1) (.int .i64 P.c1) (.slice P.a1 P.n1 P.k1) (.int .i64 P.r2) (.int .i64 P.c2) (.slice P.a2 P.n2 P.k2) (.slice P.d1 P.m1 P.e1) (.slice P.d2 P.m2 P.e2))
  bel : Below q.heap.size q w4

set_option maxRecDepth 100000 in
set_option maxHeartbeats 3200000 in
theorem pupilSays_any (p : Pup) (d : PD) (i h o : Int) (a : Option Addr) (len cap : Nat) (xs : List Int) (w : World) (hp : InPup w p d) (_ : (Lit.int .i64 i).wf = true) (_ : (Lit.int .i64 h).wf = true) (_ : (Lit.int .i64 o).wf = true) (ha : Lst w a len cap xs) :
    Calls Try.prog 6 #[p.val, .int .i64 i, .int .i64 h, .int .i64 o, .slice a len cap] w fun e w' => e = .returned (.bool true) ∧ Below w.heap.size w w' := by
  have hal := (Below.refl w.heap.size w).alloc (Nat.le_refl _) (.cells p.cells 47)
  have KP : Hid (∀ q, Below (w.heap.size + 1) (w.alloc (.cells p.cells 47)) q → InPup q p d) := fun q hq => hp.below (hal.trans (hq.mono (by omega))) (Nat.le_refl _)
  have KA : Hid (∀ q, Below (w.heap.size + 1) (w.alloc (.cells p.cells 47)) q → Lst q a len cap xs) := fun q hq => ha.below (hal.trans (hq.mono (by omega))) (Nat.le_refl _)
  have KW : Hid (∀ q, Below (w.heap.size + 1) (w.alloc (.cells p.cells 47)) q → Below w.heap.size w q) := fun q hq => hal.trans (hq.mono (by omega))
  have KS : Hid (∀ q, Below (w.heap.size + 1) (w.alloc (.cells p.cells 47)) q → w.heap.size + 1 ≤ q.heap.size) := fun q hq => by have := hq.size; simpa using this
  have T0 : Below (w.heap.size + 1) (w.alloc (.cells p.cells 47)) (w.alloc (.cells p.cells 47)) := Below.refl _ _
  have hck := fun q hq => rpupil_calls p d q (KP.out q hq)
  have HCK : Hid (∀ q, Below (w.heap.size + 1) (w.alloc (.cells p.cells 47)) q → Calls Try.prog 31 #[p.val] q fun e w' => e = .returned (.int .i64 (pchk p d)) ∧ Below q.heap.size q w') := hck
  have HCP : Hid (∀ q, Below (w.heap.size + 1) (w.alloc (.cells p.cells 47)) q → Calls Try.prog 34 #[p.val] q fun e w' => e = .returned (.int .i64 (pchk p d)) ∧ Below q.heap.size q w') := fun q hq => pcheck_calls p d q (KP.out q hq)
  have HFL : Hid (∀ q, Below (w.heap.size + 1) (w.alloc (.cells p.cells 47)) q → Calls Try.prog 33 #[p.val] q fun e w' => ∃ a n c, e = .returned (.tuple #[.slice a n c, .int .i64 (pchk p d)]) ∧ n ≤ 40 ∧ Lst w' a n c (flatL p d) ∧ Below q.heap.size q w') := fun q hq => pflat_calls p d q (KP.out q hq)
  have HRF : Hid (∀ q, Below (w.heap.size + 1) (w.alloc (.cells p.cells 47)) q → pchk p d = 0 → Calls Try.prog 32 #[p.val] q fun e w' => ∃ a n c, e = .returned (.slice a n c) ∧ n ≤ 40 ∧ Lst w' a n c (flatL p d) ∧ Below q.heap.size q w') := by
    intro q hq h0
    have hin := KP.out q hq
    unfold flatL
    rw [if_pos h0]
    obtain ⟨I, H, O, a1, k1, a2, k2, d1, e1, d2, e2, rfl, i1, i2, j1, j2, o1, o2, _⟩ := pchk_zero h0
    exact rflat_calls I H O a1 k1 a2 k2 d1 e1 d2 e2 d q hin i2 j2 o2
  clear hck hal hp ha
  obtain ⟨r1, c1, a1, n1, k1, r2, c2, a2, n2, k2, d1, m1, t1, d2, m2, t2⟩ := p
  have KC : Hid (∀ q, Below (w.heap.size + 1) (w.alloc (.cells (Pup.cells ⟨r1, c1, a1, n1, k1, r2, c2, a2, n2, k2, d1, m1, t1, d2, m2, t2⟩) 47)) q → Box8 q w.heap.size (.int .i64 r1) (.int .i64 c1) (.slice a1 n1 k1) (.int .i64 r2) (.int .i64 c2) (.slice a2 n2 k2) (.slice d1 m1 t1) (.slice d2 m2 t2)) := fun q hq => box8 hq (Nat.lt_succ_self _)
  have HE : Hid (flatL ⟨r1, c1, a1, n1, k1, r2, c2, a2, n2, k2, d1, m1, t1, d2, m2, t2⟩ d = if pchk ⟨r1, c1, a1, n1, k1, r2, c2, a2, n2, k2, d1, m1, t1, d2, m2, t2⟩ d = 0 then flatD d else []) := rfl
  generalize pchk ⟨r1, c1, a1, n1, k1, r2, c2, a2, n2, k2, d1, m1, t1, d2, m2, t2⟩ d = E at *
  generalize flatL ⟨r1, c1, a1, n1, k1, r2, c2, a2, n2, k2, d1, m1, t1, d2, m2, t2⟩ d = F at *
  simp only [Pup.val, Pup.cells] at *
  go_enter Try.func6, Try.ntmps6
  go_upto_if 20 with (go_at_call 31; refine (HCK.out _ T0).mono ?_; rintro e w1 ⟨rfl, hw1⟩)
  have T1 := T0.trans (hw1.mono (KS.out _ T0))
  clear T0 hw1
  go_cut [12] (fun fl w2 => ∃ fa fn fc, fl = .slice fa fn fc ∧ fn ≤ 40 ∧ Lst w2 fa fn fc F ∧ Below (w.heap.size + 1) (w.alloc (.cells #[.int .i64 r1, .int .i64 c1, .slice a1 n1 k1, .int .i64 r2, .int .i64 c2, .slice a2 n2 k2, .slice d1 m1 t1, .slice d2 m2 t2] 47)) w2)
  case first =>
    by_cases hE : E = 0
    · have hE' : (E == 0) = true := by simpa using hE
      obtain ⟨f0, f1, f2, f3, f4, f5, f6, f7⟩ := KC.out _ T1
      have hcall := HRF.out _ T1 hE
      clear hE
      go_wp2_with fail
      refine hcall.mono ?_
      rintro e w2 ⟨fa, fn, fc, rfl, hfn, hl, hw2⟩
      have T2 := T1.trans (hw2.mono (KS.out _ T1))
      go_wp2_with fail
      go_meet
      case rel => exact ⟨fa, fn, fc, rfl, hfn, hl, T2⟩
    · have hE' : (E == 0) = false := by simpa using hE
      have hF := HE.out
      rw [if_neg hE] at hF
      go_wp2_with fail
      go_meet
      case rel => exact ⟨none, 0, 0, rfl, Nat.zero_le _, by rw [hF]; exact Lst.nil _ _ _, T1⟩
  case rest =>
    obtain ⟨fa, fn, fc, rfl, hfn, hl, T2⟩ := hcut
    generalize hwc : wc = w2 at *
    clear hwc T1 HRF HCK HE
    obtain ⟨f0, f1, f2, f3, f4, f5, f6, f7⟩ := KC.out _ T2
    have hcall := HFL.out _ T2
    go_wp2_with fail
    refine hcall.mono ?_
    rintro e w3 ⟨ga, gn, gc, rfl, hgn, hg, hw3⟩
    have hl3 := hl.below hw3 (Nat.le_refl _)
    have T3 := T2.trans (hw3.mono (KS.out _ T2))
    clear hcall hl hw3 T2 f0 f1 f2 f3 f4 f5 f6 f7
    obtain ⟨f0, f1, f2, f3, f4, f5, f6, f7⟩ := KC.out _ T3
    have hcall := HCP.out _ T3
    have t1' : (E != E) = false := by simp
    go_wp2_with fail
    refine hcall.mono ?_
    rintro e w4 ⟨rfl, hw4⟩
    have hl4 := hl3.below hw4 (Nat.le_refl _)
    have hg4 := hg.below hw4 (Nat.le_refl _)
    have T4 := T3.trans (hw4.mono (KS.out _ T3))
    clear hcall hl3 hg hw4 T3 f0 f1 f2 f3 f4 f5 f6 f7
    go_wp2_with fail
    refine (eq_calls _ _ _ _ _ _ F F _ hg4 hl4 (by omega)).mono ?_
    rintro e w5 ⟨rfl, k5, hw5⟩
    rw [decide_eq_true rfl]
    have T5 := T4.trans ((hw5 ▸ below_drewN (Below.refl _ _) k5 : Below w4.heap.size w4 w5).mono (KS.out _ T4))
    clear hl4 hg4 T4 hw5
    go_upto_block 0 with fail
    go_cut [11] (fun e w6 => Want i h o len xs w5 e w6)
    case first =>
      have hst := fn8_alloc w5 (.int .i64 0) (.int .i64 0) (.slice none 0 0) (.int .i64 0) (.int .i64 0) (.slice none 0 0) (.slice none 0 0) (.slice none 0 0) 47
      have hsb := (Below.refl w5.heap.size w5).alloc (Nat.le_refl _) (.cells #[.int .i64 0, .int .i64 0, .slice none 0 0, .int .i64 0, .int .i64 0, .slice none 0 0, .slice none 0 0, .slice none 0 0] 47)
      have HB : Hid (∀ (e : Value) (k : Nat), e = .int .i64 (shpI i h o len xs) → shpI i h o len xs ≠ 0 → Want i h o len xs w5 e ((w5.alloc (.cells #[.int .i64 0, .int .i64 0, .slice none 0 0, .int .i64 0, .int .i64 0, .slice none 0 0, .slice none 0 0, .slice none 0 0] 47)).drewN k)) := fun e k he hne =>
        ⟨he, ⟨noPup, noPD, .inl ⟨hne, rfl, rfl⟩, noPup_in _, rowIs_drewN hst k⟩, below_drewN hsb k⟩
      have HB0 : Hid (∀ (e : Value), e = .int .i64 (shpI i h o len xs) → shpI i h o len xs ≠ 0 → Want i h o len xs w5 e (w5.alloc (.cells #[.int .i64 0, .int .i64 0, .slice none 0 0, .int .i64 0, .int .i64 0, .slice none 0 0, .slice none 0 0, .slice none 0 0] 47))) := fun e he hne => HB.out e 0 he hne
      have hA5 := (KA.out _ T5).below hsb (Nat.le_refl _)
      cases hi : sideB i with
      | false =>
        have hi' : inB i 1 4 = false := hi
        have HO : Hid (shpI i h o len xs = 1) := by unfold shpI; rw [hi]; rfl
        go_wp2_with (go_at_call 25; refine (rin_calls _ _ _ _).mono ?_; rintro e w' ⟨rfl, rfl⟩)
        go_meet
        case rel => exact HB0.out _ (by rw [HO.out]) (by rw [HO.out]; decide)
      | true =>
        have hi' : inB i 1 4 = true := hi
        cases hh : sideB h with
        | false =>
          have hh' : inB h 1 4 = false := hh
          have HO : Hid (shpI i h o len xs = 1) := by unfold shpI; rw [hh, if_neg (by simp)]; rfl
          go_wp2_with (go_at_call 25; refine (rin_calls _ _ _ _).mono ?_; rintro e w' ⟨rfl, rfl⟩)
          go_meet
          case rel => exact HB0.out _ (by rw [HO.out]) (by rw [HO.out]; decide)
        | true =>
          have hh' : inB h 1 4 = true := hh
          cases ho : sideB o with
          | false =>
            have ho' : inB o 1 4 = false := ho
            have HO : Hid (shpI i h o len xs = 1) := by unfold shpI; rw [ho, if_neg (by simp)]; rfl
            go_wp2_with (go_at_call 25; refine (rin_calls _ _ _ _).mono ?_; rintro e w' ⟨rfl, rfl⟩)
            go_meet
            case rel => exact HB0.out _ (by rw [HO.out]) (by rw [HO.out]; decide)
          | true =>
            have ho' : inB o 1 4 = true := ho
            have bi := sideB_true hi
            have bh := sideB_true hh
            have bo := sideB_true ho
            have HS : Hid (sideB i = true ∧ sideB h = true ∧ sideB o = true) := ⟨hi, hh, ho⟩
            obtain ⟨I, rfl⟩ := Int.eq_ofNat_of_zero_le (show 0 ≤ i by omega)
            obtain ⟨H, rfl⟩ := Int.eq_ofNat_of_zero_le (show 0 ≤ h by omega)
            obtain ⟨O, rfl⟩ := Int.eq_ofNat_of_zero_le (show 0 ≤ o by omega)
            have i1 : 1 ≤ I := by omega
            have i2 : I ≤ 4 := by omega
            have j1 : 1 ≤ H := by omega
            have j2 : H ≤ 4 := by omega
            have o1 : 1 ≤ O := by omega
            have o2 : O ≤ 4 := by omega
            have s1 := prod_sideN j2 i2
            have s2 := prod_sideN o2 j2
            have z1 : (H : Int) * (I : Int) = ((H * I : Nat) : Int) := by push_cast; rfl
            have z2 : (O : Int) * (H : Int) = ((O * H : Nat) : Int) := by push_cast; rfl
            clear bi bh bo
            by_cases hlen : len = H * I + H + O * H + O
            · have ht : ((len : Int) != (H : Int) * (I : Int) + (H : Int) + (O : Int) * (H : Int) + (O : Int)) = false := by rw [bne_eq_false_iff_eq, z1, z2]; omega
              have HL : Hid ((len : Int) = (H : Int) * (I : Int) + (H : Int) + (O : Int) * (H : Int) + (O : Int)) := by show (len : Int) = _; rw [z1, z2]; omega
              have HN : Hid (len = H * I + H + O * H + O) := hlen
              have hl40 : len ≤ 40 := by omega
              clear z1 z2 hlen
              cases hx : rightB xs with
              | false =>
                have HO : Hid (shpI I H O len xs = 5) := by unfold shpI; rw [if_pos HS.out, if_neg (fun g => by have := g.2; rw [hx] at this; cases this)]; rfl
                go_wp2_with (first | (go_at_call 25; refine (rin_calls _ _ _ _).mono ?_; rintro e w' ⟨rfl, rfl⟩) | (go_at_call 35; refine (rsize_calls _ _ _ _ i2 j2 o2).mono ?_; rintro e w' ⟨rfl, rfl⟩) | (go_at_call 36; refine (rright_calls _ _ _ xs _ hA5 (by omega)).mono ?_; rintro e w' ⟨rfl, kd, rfl⟩; rw [hx]))
                go_meet
                case rel => exact HB.out _ _ (by rw [HO.out]) (by rw [HO.out]; decide)
              | true =>
                have HO : Hid (shpI I H O len xs = 0) := by unfold shpI; rw [if_pos HS.out, if_pos ⟨HL.out, hx⟩]; rfl
                have HX : Hid (rightB xs = true) := hx
                go_wp2_with (first | (go_at_call 25; refine (rin_calls _ _ _ _).mono ?_; rintro e w' ⟨rfl, rfl⟩) | (go_at_call 35; refine (rsize_calls _ _ _ _ i2 j2 o2).mono ?_; rintro e w' ⟨rfl, rfl⟩) | (go_at_call 36; refine (rright_calls _ _ _ xs _ hA5 (by omega)).mono ?_; rintro e w' ⟨rfl, kd, rfl⟩; rw [hx]))
                refine (rshape_good I H O a len cap xs _ w5 (hA5.drewN kd) (KA.out _ T5) i1 i2 j1 j2 o1 o2 HN.out).mono ?_
                rintro e w6 ⟨x1, y1, x2, y2, x3, y3, x4, y4, rfl, hin, hw6⟩
                rw [show (rpup I H O x1 y1 x2 y2 x3 y3 x4 y4).val = .agg #[.int .i64 H, .int .i64 I, .slice x1 (H * I) y1, .int .i64 O, .int .i64 H, .slice x2 (O * H) y2, .slice x3 H y3, .slice x4 O y4] from rfl]
                have hst6 := rowIs_below (rowIs_drewN hst kd) hw6 (by simp)
                have hb6 := (below_drewN hsb kd).trans (hw6.mono (by simp))
                obtain ⟨f0, f1, f2, f3, f4, f5, f6, f7⟩ := fn8_box hst6
                have g0 := hst6.frozen 0
                have g1 := hst6.frozen 1
                have g2 := hst6.frozen 2
                have g3 := hst6.frozen 3
                have g4 := hst6.frozen 4
                have g5 := hst6.frozen 5
                have g6 := hst6.frozen 6
                have g7 := hst6.frozen 7
                go_wp2_with fail
                go_meet
                case rel =>
                  have hb7 := ((((((((hb6.setCell (p := ⟨w5.heap.size, 0, none⟩) (Nat.le_refl _) (.int .i64 H)).setCell (p := ⟨w5.heap.size, 1, none⟩) (Nat.le_refl _) (.int .i64 I)).setCell (p := ⟨w5.heap.size, 2, none⟩) (Nat.le_refl _) (.slice x1 (H * I) y1)).setCell (p := ⟨w5.heap.size, 3, none⟩) (Nat.le_refl _) (.int .i64 O)).setCell (p := ⟨w5.heap.size, 4, none⟩) (Nat.le_refl _) (.int .i64 H)).setCell (p := ⟨w5.heap.size, 5, none⟩) (Nat.le_refl _) (.slice x2 (O * H) y2)).setCell (p := ⟨w5.heap.size, 6, none⟩) (Nat.le_refl _) (.slice x3 H y3)).setCell (p := ⟨w5.heap.size, 7, none⟩) (Nat.le_refl _) (.slice x4 O y4))
                  exact ⟨by rw [HO.out], ⟨rpup I H O x1 y1 x2 y2 x3 y3 x4 y4, cutD I H O xs, .inr ⟨I, H, O, x1, y1, x2, y2, x3, y3, x4, y4, rfl, rfl, rfl, i1, i2, j1, j2, o1, o2, HN.out, HX.out, HO.out, rfl, rfl⟩, hin.below hb7 (Nat.le_refl _), fn8_set8 hst6 (.int .i64 H) (.int .i64 I) (.slice x1 (H * I) y1) (.int .i64 O) (.int .i64 H) (.slice x2 (O * H) y2) (.slice x3 H y3) (.slice x4 O y4)⟩, hb7⟩
            · have ht : ((len : Int) != (H : Int) * (I : Int) + (H : Int) + (O : Int) * (H : Int) + (O : Int)) = true := by rw [bne_iff_ne, z1, z2]; omega
              have HO : Hid (shpI I H O len xs = 5) := by unfold shpI; rw [if_pos HS.out, if_neg (fun g => hlen (by have := g.1; rw [z1, z2] at this; omega))]; rfl
              clear z1 z2
              go_wp2_with (first | (go_at_call 25; refine (rin_calls _ _ _ _).mono ?_; rintro e w' ⟨rfl, rfl⟩) | (go_at_call 35; refine (rsize_calls _ _ _ _ i2 j2 o2).mono ?_; rintro e w' ⟨rfl, rfl⟩))
              go_meet
              case rel => exact HB0.out _ (by rw [HO.out]) (by rw [HO.out]; decide)
    case rest =>
      obtain ⟨rfl, ⟨P, D, hof, hin, hrow⟩, hbel⟩ := hcut
      generalize hwc : wc = w6 at *
      clear hwc
      have T6 := T5.trans (hbel.mono (KS.out _ T5))
      have t2' : (shpI i h o len xs == shpI i h o len xs) = true := by simp
      clear HFL HCP KC KP hbel
      have hA6 := KA.out _ T6
      rcases hof with ⟨hne, rfl, rfl⟩ | ⟨I, H, O, x1, y1, x2, y2, x3, y3, x4, y4, rfl, rfl, rfl, i1, i2, j1, j2, o1, o2, HN, hx, HO, rfl, rfl⟩
      · have hcall := shape_bad i h o a len cap xs w6 hA6 hne
        generalize shpI i h o len xs = Er at *
        go_wp2_with fail
        refine hcall.mono ?_
        rintro e w7 ⟨rfl, hw7⟩
        rw [show noPup.val = .agg #[.int .i64 0, .int .i64 0, .slice none 0 0, .int .i64 0, .int .i64 0, .slice none 0 0, .slice none 0 0, .slice none 0 0] from rfl]
        have T7 := T6.trans (hw7.mono (KS.out _ T6))
        have hal7 := (Below.refl w7.heap.size w7).alloc (Nat.le_refl _) (.cells #[.int .i64 0, .int .i64 0, .slice none 0 0, .int .i64 0, .int .i64 0, .slice none 0 0, .slice none 0 0, .slice none 0 0] 47)
        have T8 := T7.trans (hal7.mono (KS.out _ T7))
        have hrow8 := (rowIs_below hrow hw7 hrow.lt).alloc (.cells #[.int .i64 0, .int .i64 0, .slice none 0 0, .int .i64 0, .int .i64 0, .slice none 0 0, .slice none 0 0, .slice none 0 0] 47)
        obtain ⟨f0, f1, f2, f3, f4, f5, f6, f7⟩ := fn8_box hrow8
        dsimp only [noPup] at f0 f1 f2 f3 f4 f5 f6 f7
        have hs := rsameP_calls noPup noPup noPD _ (noPup_in _) (noPup_in (w7.alloc (.cells #[.int .i64 0, .int .i64 0, .slice none 0 0, .int .i64 0, .int .i64 0, .slice none 0 0, .slice none 0 0, .slice none 0 0] 47))) rfl rfl rfl rfl (Nat.zero_le _) (Nat.zero_le _) (Nat.zero_le _) (Nat.zero_le _)
        clear hcall hrow hrow8 hin hal7
        go_wp2_with fail
        refine hs.mono ?_
        rintro e w9 ⟨rfl, hw9⟩
        have T9 := T8.trans (hw9.mono (KS.out _ T8))
        go_wp2
        go_ret
        exact ⟨rfl, KW.out _ T9⟩
      · have hcall := shape_good I H O a len cap xs w6 hA6 i1 i2 j1 j2 o1 o2 HN hx
        rw [HO]
        have t3 : ((0 : Int) == 0) = true := rfl
        have hN : Hid (len = H * I + H + O * H + O) := HN
        clear HN HO hx t2'
        go_wp2_with fail
        refine hcall.mono ?_
        rintro e w7 ⟨u1, u2, u3, u4, rfl, hin7, hw7⟩
        rw [show (rpup I H O u1 (H * I) u2 (O * H) u3 H u4 O).val = .agg #[.int .i64 H, .int .i64 I, .slice u1 (H * I) (H * I), .int .i64 O, .int .i64 H, .slice u2 (O * H) (O * H), .slice u3 H H, .slice u4 O O] from rfl]
        have T7 := T6.trans (hw7.mono (KS.out _ T6))
        have hal7 := (Below.refl w7.heap.size w7).alloc (Nat.le_refl _) (.cells #[.int .i64 H, .int .i64 I, .slice u1 (H * I) (H * I), .int .i64 O, .int .i64 H, .slice u2 (O * H) (O * H), .slice u3 H H, .slice u4 O O] 47)
        have T8 := T7.trans (hal7.mono (KS.out _ T7))
        have hrow8 := (rowIs_below hrow hw7 hrow.lt).alloc (.cells #[.int .i64 H, .int .i64 I, .slice u1 (H * I) (H * I), .int .i64 O, .int .i64 H, .slice u2 (O * H) (O * H), .slice u3 H H, .slice u4 O O] 47)
        have hin8 := (hin.below hw7 (Nat.le_refl _)).below hal7 (Nat.le_refl _)
        have hin9 := hin7.below hal7 (Nat.le_refl _)
        obtain ⟨f0, f1, f2, f3, f4, f5, f6, f7⟩ := fn8_box hrow8
        dsimp only [rpup] at f0 f1 f2 f3 f4 f5 f6 f7
        have s1 := prod_sideN j2 i2
        have s2 := prod_sideN o2 j2
        have hs := rsameP_calls (rpup I H O u1 (H * I) u2 (O * H) u3 H u4 O) (rpup I H O x1 y1 x2 y2 x3 y3 x4 y4) (cutD I H O xs) _ hin9 hin8 rfl rfl rfl rfl (by show H * I ≤ 1000; omega) (by show O * H ≤ 1000; omega) (by show H ≤ 1000; omega) (by show O ≤ 1000; omega)
        clear hcall hrow hrow8 hin hal7 hin7 hin8 hin9
        go_wp2_with fail
        refine hs.mono ?_
        rintro e w9 ⟨rfl, hw9⟩
        have T9 := T8.trans (hw9.mono (KS.out _ T8))
        go_wp2
        go_ret
        exact ⟨rfl, KW.out _ T9⟩
end Go.Proofs.Ytmoeogecafjcmaa.Fx
