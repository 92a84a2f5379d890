/- The walk of TreeSays: it returns true, whatever integers and words lie there, and nothing that was there is written. -/
import Derived.Test.YtfegildbogabnabTreeF
import Derived.Test.YtfegildbogabnabRefTreeB
import Derived.Test.YtfegildbogabnabRefTreeC
import Derived.Test.YtfegildbogabnabRefTreeD
import Derived.Test.YtfegildbogabnabWEq
import Derived.Deep.DeepCutAuto
import Derived.Deep.CutBlock
namespace Go.Proofs.Ytfegildbogabnab.Fx
open Go.RowKit

/-- What the document's side of the list says. -/
structure TreeSt (w : World) (F RT : Int) (LV WY : List Int) (f lv wy rt : Value) (q : World) : Prop where
  hf : f = .int .i64 F
  hr : rt = .int .u64 RT
  hl : ∃ a n c, lv = .slice a n c ∧ n ≤ 50 ∧ LstW q a n c LV
  hw : ∃ a n c, wy = .slice a n c ∧ n ≤ 50 ∧ LstW q a n c WY
  bel : Below w.heap.size w q

theorem bad_says {xs : List Int} {la : Nat} (i : Int) (h : la = 0 ∨ 200 < la) : errP i la = errL la ∧ leavesL xs la = [] ∧ wayL xs la i = [] ∧ rootL xs la = 0 ∧ (errL la == 0) = false := by
  unfold errP leavesL wayL rootL
  refine ⟨if_pos h, if_pos h, if_neg (fun h' => h'.1 h), if_pos h, ?_⟩
  have := errL_ne h
  rw [bne_iff_ne] at this
  rwa [beq_eq_false_iff_ne]
theorem good_says {xs : List Int} {la : Nat} (i : Int) (h : ¬ (la = 0 ∨ 200 < la)) : errL la = 0 ∧ leavesL xs la = leavesP xs la ∧ rootL xs la = ofP 3 [(la : Int), treeP (leavesP xs la)] ∧
    (0 ≤ i ∧ i < ((la + 3) / 4 : Nat) → errP i la = 0 ∧ wayL xs la i = wayP (leavesP xs la) i.toNat) ∧ (¬ (0 ≤ i ∧ i < ((la + 3) / 4 : Nat)) → errP i la = 1 ∧ wayL xs la i = []) := by
  unfold errP leavesL wayL rootL errL
  refine ⟨by rw [if_neg (by omega), if_neg (by omega)], if_neg h, if_neg h, fun h2 => ?_, fun h2 => ?_⟩
  · rw [if_neg h, if_pos h2, if_pos ⟨h, h2⟩]; exact ⟨rfl, rfl⟩
  · rw [if_neg h, if_neg h2, if_neg (fun h' => h2 h'.2)]; exact ⟨rfl, rfl⟩

set_option maxRecDepth 100000 in
set_option maxHeartbeats 3200000 in
theorem treeSays_any (a : Option Addr) (la ca : Nat) (xs : List Int) (i n x : Int) (b : Option Addr) (lb cb : Nat) (ys : List Int) (w : World) (ha : Lst w a la ca xs) (_ : (Lit.int .i64 i).wf = true) (_ : (Lit.int .i64 n).wf = true) (hx : okW x) (hb : LstW w b lb cb ys ∧ okL ys) :
    Calls Try.prog 3 #[.slice a la ca, .int .i64 i, .int .i64 n, .int .u64 x, .slice b lb cb] w fun e w' => e = .returned (.bool true) ∧ Below w.heap.size w w' := by
  obtain ⟨hb, hy⟩ := hb
  have KA : Hid (∀ q, Below w.heap.size w q → Lst q a la ca xs) := fun q hq => ha.below hq (Nat.le_refl _)
  have KB : Hid (∀ q, Below w.heap.size w q → LstW q b lb cb ys) := fun q hq => hb.below hq (Nat.le_refl _)
  have HY : Hid (okL ys) := hy
  have HX : Hid (okW x) := hx
  have HLV : Hid (∀ q, Below w.heap.size w q → Calls Try.prog 11 #[.slice a la ca] q fun e w' => ∃ a' N, e = .returned (.tuple #[.slice a' N N, .int .i64 (errL la)]) ∧ N ≤ 50 ∧ LstW w' a' N N (leavesL xs la) ∧ Below q.heap.size q w') := fun q hq => Leaves_calls a la ca xs q (KA.out q hq)
  have HRT : Hid (∀ q, Below w.heap.size w q → Calls Try.prog 12 #[.slice a la ca] q fun e w' => e = .returned (.tuple #[.int .u64 (rootL xs la), .int .i64 (errL la)]) ∧ Below q.heap.size q w') := fun q hq => Root_calls a la ca xs q (KA.out q hq)
  have HPT : Hid (∀ q, Below w.heap.size w q → Calls Try.prog 13 #[.slice a la ca, .int .i64 i] q fun e w' => ∃ a' N c', e = .returned (.tuple #[.slice a' N c', .int .i64 (errP i la)]) ∧ N ≤ 50 ∧ LstW w' a' N c' (wayL xs la i) ∧ Below q.heap.size q w') := fun q hq => Path_calls a la ca xs i q (KA.out q hq)
  have HCL : Hid (∀ q, Below w.heap.size w q → Calls Try.prog 14 #[.int .i64 i, .int .i64 n, .int .u64 x, .slice b lb cb] q fun e w' => e = .returned (.tuple #[.int .u64 (upL i n x ys lb), .int .i64 (errC i n lb)]) ∧ Below q.heap.size q w') := fun q hq => Climb_calls i n x b lb cb ys q hx (KB.out q hq) hy
  have HBad : Hid ((la = 0 ∨ 200 < la) → errP i la = errL la ∧ leavesL xs la = [] ∧ wayL xs la i = [] ∧ rootL xs la = 0 ∧ (errL la == 0) = false) := bad_says i
  have HGood : Hid (¬ (la = 0 ∨ 200 < la) → errL la = 0 ∧ leavesL xs la = leavesP xs la ∧ rootL xs la = ofP 3 [(la : Int), treeP (leavesP xs la)] ∧
    (0 ≤ i ∧ i < ((la + 3) / 4 : Nat) → errP i la = 0 ∧ wayL xs la i = wayP (leavesP xs la) i.toNat) ∧ (¬ (0 ≤ i ∧ i < ((la + 3) / 4 : Nat)) → errP i la = 1 ∧ wayL xs la i = [])) := good_says i
  have HE1 : Hid (la = 0 → errL la = 1) := fun h => if_pos h
  have HE2 : Hid (200 < la → errL la = 2) := fun h => by unfold errL; rw [if_neg (by omega), if_pos h]
  have HU : Hid (upL i n x ys lb = if okC i n ∧ lb = dpC i n then ofP 3 [n, upP i.toNat ((n.toNat + 3) / 4) x ys] else 0) := rfl
  have HG : Hid (errC i n lb = if okC i n then (if lb = dpC i n then 0 else 5) else 1) := rfl
  clear ha hb hy hx
  generalize errL la = E at *
  generalize errP i la = F at *
  generalize leavesL xs la = LV at *
  generalize wayL xs la i = WY at *
  generalize rootL xs la = RT at *
  generalize upL i n x ys lb = U at *
  generalize errC i n lb = G at *
  go_enter Try.func3, Try.ntmps3
  go_upto_block 0 with fail
  go_cut [11] (fun e q => e = .int .i64 E ∧ q = w)
  case first =>
    by_cases h0 : la = 0
    · have n0 : ((la : Int) == 0) = true := by rw [beq_iff_eq]; omega
      have hE := HE1.out h0
      clear h0
      go_wp2_with fail
      go_meet
      case rel => exact ⟨by rw [hE], rfl⟩
    · have n0 : ((la : Int) == 0) = false := by rw [beq_eq_false_iff_ne]; omega
      by_cases h2 : 200 < la
      · have hE := HE2.out h2
        go_wp2_with fail
        go_meet
        case rel => exact ⟨by rw [hE], rfl⟩
      · have hE := (HGood.out (by omega)).1
        go_wp2_with fail
        go_meet
        case rel => exact ⟨by rw [hE], rfl⟩
  case rest =>
    obtain ⟨rfl, hw0⟩ := hcut
    replace hw0 := hw0.symm
    subst hw0
    go_upto_if 36 with fail
    go_cut [12, 13, 14, 15] (fun f lv wy rt q => TreeSt w F RT LV WY f lv wy rt q)
    case first =>
      by_cases hbad : la = 0 ∨ 200 < la
      · obtain ⟨hF, hL, hW, hR, hE⟩ := HBad.out hbad
        have HR2 : Hid (F = E ∧ RT = 0 ∧ LV = [] ∧ WY = []) := ⟨hF, hR, hL, hW⟩
        clear hF hL hW hR hbad
        go_wp2_with fail
        go_meet
        case rel =>
          obtain ⟨hF, hR, hL, hW⟩ := HR2.out
          exact ⟨by rw [hF], by rw [hR], ⟨none, 0, 0, rfl, by omega, by rw [hL]; exact LstW.nil _ _ _⟩, ⟨none, 0, 0, rfl, by omega, by rw [hW]; exact LstW.nil _ _ _⟩, Below.refl _ _⟩
      · obtain ⟨hE, hL, hR, hI, hO⟩ := HGood.out hbad
        have h1 : 1 ≤ la := by omega
        have h2 : la ≤ 200 := by omega
        have e0 : (E == 0) = true := by rw [hE]; rfl
        have HR2 : Hid (RT = ofP 3 [(la : Int), treeP (leavesP xs la)] ∧ LV = leavesP xs la) := ⟨hR, hL⟩
        have HIN : Hid (0 ≤ i ∧ i < ((la + 3) / 4 : Nat) → F = 0 ∧ WY = wayP (leavesP xs la) i.toNat) := hI
        have HOUT : Hid (¬ (0 ≤ i ∧ i < ((la + 3) / 4 : Nat)) → F = 1 ∧ WY = []) := hO
        have HRL : Hid (∀ q, Below w.heap.size w q → Calls Try.prog 4 #[.slice a la ca] q fun e w' => ∃ a' c', e = .returned (.slice a' ((la + 3) / 4 : Nat) c') ∧ LstW w' a' ((la + 3) / 4) c' (leavesP xs la) ∧ Below q.heap.size q w') := fun q hq => rLeaves_calls a la ca xs q (KA.out q hq) h1 h2
        have HRR : Hid (∀ q, Below w.heap.size w q → Calls Try.prog 5 #[.slice a la ca] q fun e w' => e = .returned (.int .u64 (ofP 3 [(la : Int), treeP (leavesP xs la)])) ∧ Below q.heap.size q w') := fun q hq => rRoot_calls a la ca xs q (KA.out q hq) h1 h2
        have HLN : Hid ((leavesP xs la).length = (la + 3) / 4) := leavesP_len xs la
        have hN1 : 1 ≤ (la + 3) / 4 := by omega
        have hN2 : (la + 3) / 4 ≤ 50 := by omega
        clear hE hL hR hI hO hbad HBad HGood HE1 HE2 HLV HRT HPT HCL
        generalize (la + 3) / 4 = N at *
        go_wp2_with fail
        refine (HRL.out _ (Below.refl _ _)).mono ?_
        rintro e w1 ⟨a1, c1, rfl, hl1, T1⟩
        go_wp2_with fail
        refine (HRR.out _ T1).mono ?_
        rintro e w2 ⟨rfl, hw2⟩
        have hl2 := hl1.below hw2 (Nat.le_refl _)
        have T2 := T1.trans (hw2.mono T1.size)
        clear hl1 T1 hw2
        by_cases hin : 0 ≤ i ∧ i < (N : Int)
        · have HB : Hid (inB i 0 ((N : Int) - 1) = true) := by
            show inB i 0 ((N : Int) - 1) = true
            unfold inB
            rw [decide_eq_true hin.1, decide_eq_true (by omega)]; rfl
          obtain ⟨hF, hW⟩ := HIN.out hin
          obtain ⟨k, rfl⟩ : ∃ k : Nat, i = k := ⟨i.toNat, by omega⟩
          have HW : Hid (F = 0 ∧ WY = wayP (leavesP xs la) k) := ⟨hF, by rw [hW]; simp⟩
          have hk : k < N := by omega
          clear hF hW hin HIN HOUT
          go_wp2_with fail
          refine (rin_calls _ _ _ _).mono ?_
          rintro e w3 ⟨rfl, hw3⟩
          replace hw3 := hw3.symm
          subst hw3
          rw [HB.out]
          go_wp2_with fail
          refine (rWay_calls 50 _ _ _ (leavesP xs la) k _ (by omega) (by omega) (by omega) hk hl2 (leavesP_ok _ _)).mono ?_
          rintro e w4 ⟨v4, rfl, hown, hw4⟩
          have hl4 := hl2.below hw4 (Nat.le_refl _)
          have T4 := T2.trans (hw4.mono T2.size)
          go_wp2_with fail
          go_meet
          case rel =>
            obtain ⟨hF, hW⟩ := HW.out
            obtain ⟨hR, hL⟩ := HR2.out
            obtain ⟨a5, c5, hv, hl5⟩ := hown.lst
            have hd := (way_deep _ (leavesP xs la) k (Nat.le_refl _) (leavesP_ok _ _)).1
            have hd2 := deepP_le k (leavesP xs la).length
            rw [HLN.out] at hd hd2
            exact ⟨by rw [hF], by rw [hR], ⟨_, _, _, rfl, hN2, by rw [hL]; exact hl4⟩, ⟨a5, _, c5, hv, by omega, by rw [hW]; exact hl5⟩, T4⟩
        · have HB : Hid (inB i 0 ((N : Int) - 1) = false) := by
            show inB i 0 ((N : Int) - 1) = false
            unfold inB
            rw [Bool.and_eq_false_iff, decide_eq_false_iff_not, decide_eq_false_iff_not]
            omega
          have HW : Hid (F = 1 ∧ WY = []) := HOUT.out hin
          clear hin HIN HOUT
          go_wp2_with fail
          refine (rin_calls _ _ _ _).mono ?_
          rintro e w3 ⟨rfl, hw3⟩
          replace hw3 := hw3.symm
          subst hw3
          rw [HB.out]
          go_wp2_with fail
          go_meet
          case rel =>
            obtain ⟨hF, hW⟩ := HW.out
            obtain ⟨hR, hL⟩ := HR2.out
            exact ⟨by rw [hF], by rw [hR], ⟨_, _, _, rfl, hN2, by rw [hL]; exact hl2⟩, ⟨none, 0, 0, rfl, by omega, by rw [hW]; exact LstW.nil _ _ _⟩, T2⟩
    case rest =>
      obtain ⟨rfl, rfl, ⟨a1, n1, c1, rfl, hn1, hl1⟩, ⟨a2, n2, c2, rfl, hn2, hl2⟩, T1⟩ := hcut
      generalize hwc : wc = q1 at *
      clear hwc HBad HGood HE1 HE2
      go_upto_block 1 with fail
      go_cut [16, 17] (fun g u q => g = .int .i64 G ∧ u = .int .u64 U ∧ Below q1.heap.size q1 q)
      case first =>
        have hb1 := KB.out _ T1
        clear HLV HRT HPT HCL hl1 hl2
        by_cases h1 : 1 ≤ n ∧ n ≤ 200
        · obtain ⟨h1, h2⟩ := h1
          obtain ⟨m, rfl⟩ : ∃ m : Nat, n = m := ⟨n.toNat, by omega⟩
          have HI : Hid (inB (m : Int) 1 200 = true) := by
            show inB (m : Int) 1 200 = true
            unfold inB
            rw [decide_eq_true h1, decide_eq_true h2]; rfl
          by_cases h3 : i < 0
          · have HC : Hid (¬ okC i m) := fun h => by have := h.2.2.1; omega
            go_wp2_with (go_at_call 6; refine (rin_calls _ _ _ _).mono ?_; rintro e w' ⟨rfl, hw'⟩; replace hw' := hw'.symm; subst hw'; rw [HI.out])
            go_meet
            case rel => exact ⟨by rw [HG.out, if_neg HC.out], by rw [HU.out, if_neg (fun h => HC.out h.1)], Below.refl _ _⟩
          · obtain ⟨k, rfl⟩ : ∃ k : Nat, i = k := ⟨i.toNat, by omega⟩
            obtain ⟨M, hM⟩ : ∃ M, (m - 1) / 4 = M := ⟨_, rfl⟩
            have e1 : ((m : Int) - 1).tdiv 4 = (M : Int) := by rw [Int.tdiv_eq_ediv_of_nonneg (by omega)]; omega
            have e2 : ((m : Int) - 1) / 4 = (M : Int) := by omega
            by_cases h4 : M < k
            · have HC : Hid (¬ okC k m) := fun h => by have := h.2.2.2; omega
              clear hM
              go_wp2_with (go_at_call 6; refine (rin_calls _ _ _ _).mono ?_; rintro e w' ⟨rfl, hw'⟩; replace hw' := hw'.symm; subst hw'; rw [HI.out])
              go_meet
              case rel => exact ⟨by rw [HG.out, if_neg HC.out], by rw [HU.out, if_neg (fun h => HC.out h.1)], Below.refl _ _⟩
            · have HC : Hid (okC k m) := ⟨h1, h2, by omega, by omega⟩
              obtain ⟨N, hN⟩ : ∃ N, (m + 3) / 4 = N := ⟨_, rfl⟩
              have e3 : (M : Int) + 1 = (N : Int) := by omega
              have hN2 : N ≤ 50 := by omega
              have hk : k < N := by omega
              have HD : Hid (dpC k m = deepP k N) := by show dpC k m = _; unfold dpC; simp [hN]
              have HUP : Hid (upP (k : Int).toNat (((m : Int).toNat + 3) / 4) x ys = upP k N x ys) := by show _ = _; simp [hN]
              have hd := deepP_le k N
              by_cases h5 : lb = deepP k N
              · have HQ : Hid (deepP k N = lb) := h5.symm
                have q0 : ((lb : Int) != (lb : Int)) = false := by simp
                have hlb : lb ≤ 50 := by omega
                have hu : okW (upP k N x ys) := upP_ok HX.out
                have hm : okW (m : Int) := ⟨by omega, by omega⟩
                have HR2 : Hid (G = 0 ∧ U = ofP 3 [(m : Int), upP k N x ys]) := by
                  refine ⟨?_, ?_⟩
                  · rw [HG.out, if_pos HC.out, if_pos (by rw [HD.out]; exact h5)]
                  · rw [HU.out, if_pos ⟨HC.out, by rw [HD.out]; exact h5⟩, HUP.out]
                clear hd h5 hM hN HU HG HC HD HUP
                go_wp2_with (first | (go_at_call 6; refine (rin_calls _ _ _ _).mono ?_; rintro e w' ⟨rfl, hw'⟩; replace hw' := hw'.symm; subst hw'; rw [HI.out]) | (go_at_call 8; refine (rDeep_calls 50 _ _ _ hN2 (by omega) hN2 hk).mono ?_; rintro e w' ⟨rfl, hw'⟩; replace hw' := hw'.symm; subst hw'; rw [HQ.out]) | (go_at_call 10; refine (rUp_calls 50 _ _ _ _ _ _ ys _ hN2 (by omega) hN2 hk HX.out hb1 HY.out HQ.out.symm).mono ?_; rintro e w2 ⟨rfl, hw2⟩) | (go_at_call 9; refine (rPair_calls _ _ hm hu _).mono ?_; rintro e w3 ⟨rfl, hw3⟩))
                go_meet
                case rel => exact ⟨by rw [HR2.out.1], by rw [HR2.out.2], hw2.trans (hw3.mono hw2.size)⟩
              · obtain ⟨q, hq⟩ : ∃ q, deepP k N = q := ⟨_, rfl⟩
                have HQ : Hid (deepP k N = q) := hq
                have q0 : ((lb : Int) != (q : Int)) = true := by rw [bne_iff_ne]; omega
                have q2 : q ≤ 50 := by omega
                have HR2 : Hid (G = 5 ∧ U = 0) := by
                  refine ⟨?_, ?_⟩
                  · rw [HG.out, if_pos HC.out, if_neg (by rw [HD.out]; exact h5)]
                  · rw [HU.out, if_neg (fun h => h5 (by rw [← HD.out]; exact h.2))]
                clear hd h5 hM hN hq HU HG HC HD HUP
                go_wp2_with (first | (go_at_call 6; refine (rin_calls _ _ _ _).mono ?_; rintro e w' ⟨rfl, hw'⟩; replace hw' := hw'.symm; subst hw'; rw [HI.out]) | (go_at_call 8; refine (rDeep_calls 50 _ _ _ hN2 (by omega) hN2 hk).mono ?_; rintro e w' ⟨rfl, hw'⟩; replace hw' := hw'.symm; subst hw'; rw [HQ.out]))
                go_meet
                case rel => exact ⟨by rw [HR2.out.1], by rw [HR2.out.2], Below.refl _ _⟩
        · have HI : Hid (inB n 1 200 = false) := by
            show inB n 1 200 = false
            unfold inB
            rw [Bool.and_eq_false_iff, decide_eq_false_iff_not, decide_eq_false_iff_not]
            omega
          have HC : Hid (¬ okC i n) := fun h => h1 ⟨h.1, h.2.1⟩
          clear h1
          go_wp2_with (go_at_call 6; refine (rin_calls _ _ _ _).mono ?_; rintro e w' ⟨rfl, hw'⟩; replace hw' := hw'.symm; subst hw'; rw [HI.out])
          go_meet
          case rel => exact ⟨by rw [HG.out, if_neg HC.out], by rw [HU.out, if_neg (fun h => HC.out h.1)], Below.refl _ _⟩
      case rest =>
        obtain ⟨rfl, rfl, hq⟩ := hcut
        generalize hwc : wc = q2 at *
        have l1 := hl1.below hq (Nat.le_refl _)
        have l2 := hl2.below hq (Nat.le_refl _)
        have T2 := T1.trans (hq.mono T1.size)
        clear hwc hl1 hl2 hq T1 HU HG
        go_wp2_with fail
        refine (HLV.out _ T2).mono ?_
        rintro e w3 ⟨a3, n3, rfl, hn3, l3, hw3⟩
        replace l1 := l1.below hw3 (Nat.le_refl _)
        replace l2 := l2.below hw3 (Nat.le_refl _)
        have T3 := T2.trans (hw3.mono T2.size)
        clear hw3 T2
        go_wp2_with fail
        refine (HRT.out _ T3).mono ?_
        rintro e w4 ⟨rfl, hw4⟩
        replace l1 := l1.below hw4 (Nat.le_refl _)
        replace l2 := l2.below hw4 (Nat.le_refl _)
        replace l3 := l3.below hw4 (Nat.le_refl _)
        have T4 := T3.trans (hw4.mono T3.size)
        clear hw4 T3
        go_wp2_with fail
        refine (HPT.out _ T4).mono ?_
        rintro e w5 ⟨a5, n5, c5, rfl, hn5, l5, hw5⟩
        replace l1 := l1.below hw5 (Nat.le_refl _)
        replace l2 := l2.below hw5 (Nat.le_refl _)
        replace l3 := l3.below hw5 (Nat.le_refl _)
        have T5 := T4.trans (hw5.mono T4.size)
        clear hw5 T4
        go_wp2_with fail
        refine (HCL.out _ T5).mono ?_
        rintro e w6 ⟨rfl, hw6⟩
        replace l1 := l1.below hw6 (Nat.le_refl _)
        replace l2 := l2.below hw6 (Nat.le_refl _)
        replace l3 := l3.below hw6 (Nat.le_refl _)
        replace l5 := l5.below hw6 (Nat.le_refl _)
        have T6 := T5.trans (hw6.mono T5.size)
        clear hw6 T5
        go_wp2_with fail
        refine (weq_calls _ _ _ _ _ _ _ _ _ l3 l1 (by omega)).mono ?_
        rintro e w7 ⟨rfl, k7, hw7⟩
        rw [decide_eq_true rfl]
        replace hw7 := hw7
        have T7 : Below w.heap.size w w7 := hw7 ▸ below_drewN T6 k7
        have m2 : LstW w7 a2 n2 c2 WY := hw7 ▸ l2.drewN k7
        have m5 : LstW w7 a5 n5 c5 WY := hw7 ▸ l5.drewN k7
        clear hw7 T6 l1 l2 l3 l5
        go_wp2_with fail
        refine (weq_calls _ _ _ _ _ _ _ _ _ m5 m2 (by omega)).mono ?_
        rintro e w8 ⟨rfl, k8, hw8⟩
        rw [decide_eq_true rfl]
        have T8 : Below w.heap.size w w8 := hw8 ▸ below_drewN T7 k8
        clear hw8 T7 m2 m5
        go_wp2
        go_ret
        exact ⟨rfl, T8⟩

end Go.Proofs.Ytfegildbogabnab.Fx
