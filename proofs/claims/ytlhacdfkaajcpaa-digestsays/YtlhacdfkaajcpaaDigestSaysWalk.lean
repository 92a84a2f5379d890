/- The walk of DigestSays: it returns true, whatever words and integers lie there, and nothing that was there is written. -/
import Derived.Test.YtlhacdfkaajcpaaRefDigC
namespace Go.Proofs.Ytlhacdfkaajcpaa.Fx
open Go.RowKit

theorem ret_boolW {a b : Bool} (h : a = b) : Ending.returned (.bool a) = .returned (.bool b) := by rw [h]

theorem weq_of_getD {xs ys : List Int} {n : Nat} (hx : xs.length = n) (hy : ys.length = n) (h : ∀ j, j < n → xs.getD j 0 = ys.getD j 0) : xs = ys := by
  refine List.ext_getElem (by omega) (fun i h1 h2 => ?_)
  have := h i (by omega)
  rw [List.getD_eq_getElem?_getD, List.getD_eq_getElem?_getD, List.getElem?_eq_getElem h1, List.getElem?_eq_getElem h2] at this
  exact this

set_option maxHeartbeats 400000 in
theorem weq_calls (a b : Option Addr) (la ca lb cb : Nat) (xs ys : List Int) (w : World) (ha : LstW w a la ca xs) (hb : LstW w b lb cb ys) (h63 : la ≤ 1000000000000000000) :
    Calls Try.prog 52 #[.slice a la ca, .slice b lb cb] w fun e w' => e = .returned (.bool (decide (xs = ys))) ∧ ∃ k, w' = w.drewN k := by
  by_cases hl : la = lb
  · subst hl
    have hab : ((la : Int) != (la : Int)) = false := by simp
    go_enter Try.func52, Try.ntmps52
    go_wp2
    go_loopw [13] (fun i wr => ∃ k n : Nat, k ≤ la ∧ i = .int .i64 k ∧ Hid (∀ j, j < k → xs.getD j 0 = ys.getD j 0) ∧ wr = w.drewN n) (fun i _ => la - (intOf i).toNat)
    case atStart => exact ⟨0, 0, Nat.zero_le _, rfl, fun j hj => by omega, rfl⟩
    case round =>
      obtain ⟨k, n, hk, rfl, he, rfl⟩ := hrel
      by_cases hlt : k < la
      · obtain ⟨b1, o1, x, rfl, _, c1, HX⟩ := ha.at1 hlt
        obtain ⟨b2, o2, y, rfl, _, c2, HY⟩ := hb.at1 hlt
        by_cases hxy : x = y
        · subst hxy
          have hne : (x != x) = false := by simp
          go_wp2
          go_quiet (fail)
          go_wp2
          go_roundw
          case rel => exact ⟨k + 1, _, by omega, by go_num, fun j hj => by
            by_cases e : j = k
            · subst e; rw [HX.out, HY.out]
            · exact he.out j (by omega), rfl⟩
          case measure => simp [intOf]; omega
        · have hne : (x != y) = true := by simpa using hxy
          go_wp2
          go_quiet (fail)
          go_wp2
          go_ret
          refine ⟨ret_boolW ?_, _, World.drewN_drewN _ _ _⟩
          exact (decide_eq_false (fun e => hxy (by rw [← HX.out, ← HY.out, e]))).symm
      · go_wp2
        go_ret
        refine ⟨ret_boolW ?_, _, rfl⟩
        exact (decide_eq_true (weq_of_getD ha.len hb.len (fun j hj => he.out j (by omega)))).symm
  · have hab : ((la : Int) != (lb : Int)) = true := by rw [bne_iff_ne]; omega
    go_enter Try.func52, Try.ntmps52
    go_wp2
    go_ret
    refine ⟨ret_boolW ?_, 0, rfl⟩
    exact (decide_eq_false (fun e => hl (by rw [← ha.len, ← hb.len, e]))).symm

set_option maxHeartbeats 1600000 in
theorem digestSays_any (kind : Int) (a : Option Addr) (la ca : Nat) (xs : List Int) (b : Option Addr) (lb cb : Nat) (ys : List Int) (p q : Int) (w : World) (hk : okW kind) (ha : LstW w a la ca xs ∧ okL xs) (hb : Lst w b lb cb ys) (hp : okW p) (hq : okW q) :
    Calls Try.prog 8 #[.int .u64 kind, .slice a la ca, .slice b lb cb, .int .u64 p, .int .u64 q] w fun e w' => e = .returned (.bool true) ∧ Below w.heap.size w w' := by
  obtain ⟨ha, hx⟩ := ha
  have HX : Hid (okL xs) := hx
  clear hx
  by_cases hA : 200 < la
  · by_cases hB : 200 < lb
    · have HO : Hid (ofA kind xs la = 0) := by unfold ofA; rw [if_pos hA]; rfl
      have HE : Hid (bigI la = 2) := by unfold bigI; rw [if_pos hA]; rfl
      have HN : Hid (numL ys lb = []) := by unfold numL; rw [if_pos hB]; rfl
      have HF : Hid (bigI lb = 2) := by unfold bigI; rw [if_pos hB]; rfl
      go_enter Try.func8, Try.ntmps8
      have bw0 : Below w.heap.size w w := Below.refl _ _
      go_wp2_with fail
      refine (dOf_calls _ hk _ _ _ xs _ ha HX.out).mono ?_
      rintro e w1 ⟨rfl, hq1⟩
      rw [HO.out, HE.out]
      have bw1 := bw0.trans (hq1.mono bw0.size)
      have hb1 := hb.below hq1 (Nat.le_refl _)
      clear bw0 hb hq1
      go_wp2_with fail
      refine (dNumbers_calls _ _ _ ys _ hb1).mono ?_
      rintro e w2 ⟨ya, yn, rfl, hyn, hY, hq2⟩
      rw [HF.out]
      have bw2 := bw1.trans (hq2.mono bw1.size)
      clear bw1 hq2
      go_wp2_with fail
      refine (weq_calls _ _ _ _ _ _ _ _ _ hY (LstW.nil _ none 0) (by omega)).mono ?_
      rintro e v5 ⟨rfl, n5, rfl⟩
      rw [HN.out, decide_eq_true rfl]
      have hd := below_drewN bw2 n5
      clear hY
      go_wp2_with fail
      refine (dPair_calls _ _ hp hq _).mono ?_
      rintro e z0 ⟨rfl, g0⟩
      have i0 := hd.trans (g0.mono hd.size)
      go_wp2_with fail
      refine (rPair_calls _ _ hp hq _).mono ?_
      rintro e z1 ⟨rfl, g1⟩
      have i1 := i0.trans (g1.mono i0.size)
      go_wp2_with fail
      refine (dWord_calls _ _ hp hq _).mono ?_
      rintro e z2 ⟨rfl, g2⟩
      have i2 := i1.trans (g2.mono i1.size)
      go_wp2_with fail
      refine (rWord_calls _ _ hp hq _).mono ?_
      rintro e z3 ⟨rfl, g3⟩
      have i3 := i2.trans (g3.mono i2.size)
      go_wp2
      go_ret
      exact ⟨rfl, i3⟩
    · have HO : Hid (ofA kind xs la = 0) := by unfold ofA; rw [if_pos hA]; rfl
      have HE : Hid (bigI la = 2) := by unfold bigI; rw [if_pos hA]; rfl
      have HN : Hid (numL ys lb = (List.range lb).map (numG ys)) := by unfold numL; rw [if_neg hB]; rfl
      have HF : Hid (bigI lb = 0) := by unfold bigI; rw [if_neg hB]; rfl
      go_enter Try.func8, Try.ntmps8
      have bw0 : Below w.heap.size w w := Below.refl _ _
      go_wp2_with fail
      refine (rNumbers_calls _ _ _ ys _ hb (by omega)).mono ?_
      rintro e w1 ⟨na, nc, rfl, hN, hq1⟩
      have bw1 := bw0.trans (hq1.mono bw0.size)
      have ha1 := ha.below hq1 (Nat.le_refl _)
      have hb1 := hb.below hq1 (Nat.le_refl _)
      clear bw0 ha hb hq1
      go_wp2_with fail
      refine (dOf_calls _ hk _ _ _ xs _ ha1 HX.out).mono ?_
      rintro e w2 ⟨rfl, hq2⟩
      rw [HO.out, HE.out]
      have bw2 := bw1.trans (hq2.mono bw1.size)
      have hb2 := hb1.below hq2 (Nat.le_refl _)
      have hN2 := hN.below hq2 (Nat.le_refl _)
      clear bw1 hb1 hN hq2
      go_wp2_with fail
      refine (dNumbers_calls _ _ _ ys _ hb2).mono ?_
      rintro e w3 ⟨ya, yn, rfl, hyn, hY, hq3⟩
      rw [HF.out]
      have bw3 := bw2.trans (hq3.mono bw2.size)
      have hN3 := hN2.below hq3 (Nat.le_refl _)
      clear bw2 hN2 hq3
      go_wp2_with fail
      refine (weq_calls _ _ _ _ _ _ _ _ _ hY hN3 (by omega)).mono ?_
      rintro e v5 ⟨rfl, n5, rfl⟩
      rw [HN.out, decide_eq_true rfl]
      have hd := below_drewN bw3 n5
      clear hY
      go_wp2_with fail
      refine (dPair_calls _ _ hp hq _).mono ?_
      rintro e z0 ⟨rfl, g0⟩
      have i0 := hd.trans (g0.mono hd.size)
      go_wp2_with fail
      refine (rPair_calls _ _ hp hq _).mono ?_
      rintro e z1 ⟨rfl, g1⟩
      have i1 := i0.trans (g1.mono i0.size)
      go_wp2_with fail
      refine (dWord_calls _ _ hp hq _).mono ?_
      rintro e z2 ⟨rfl, g2⟩
      have i2 := i1.trans (g2.mono i1.size)
      go_wp2_with fail
      refine (rWord_calls _ _ hp hq _).mono ?_
      rintro e z3 ⟨rfl, g3⟩
      have i3 := i2.trans (g3.mono i2.size)
      go_wp2
      go_ret
      exact ⟨rfl, i3⟩
  · by_cases hB : 200 < lb
    · have HO : Hid (ofA kind xs la = ofP kind xs) := by unfold ofA; rw [if_neg hA]; rfl
      have HE : Hid (bigI la = 0) := by unfold bigI; rw [if_neg hA]; rfl
      have HN : Hid (numL ys lb = []) := by unfold numL; rw [if_pos hB]; rfl
      have HF : Hid (bigI lb = 2) := by unfold bigI; rw [if_pos hB]; rfl
      go_enter Try.func8, Try.ntmps8
      have bw0 : Below w.heap.size w w := Below.refl _ _
      go_wp2_with fail
      refine (rof_calls _ hk _ _ _ xs _ ha HX.out (by omega)).mono ?_
      rintro e w1 ⟨rfl, hq1⟩
      have bw1 := bw0.trans (hq1.mono bw0.size)
      have ha1 := ha.below hq1 (Nat.le_refl _)
      have hb1 := hb.below hq1 (Nat.le_refl _)
      clear bw0 ha hb hq1
      go_wp2_with fail
      refine (dOf_calls _ hk _ _ _ xs _ ha1 HX.out).mono ?_
      rintro e w2 ⟨rfl, hq2⟩
      rw [HO.out, HE.out]
      have bw2 := bw1.trans (hq2.mono bw1.size)
      have hb2 := hb1.below hq2 (Nat.le_refl _)
      clear bw1 hb1 hq2
      go_wp2_with fail
      refine (dNumbers_calls _ _ _ ys _ hb2).mono ?_
      rintro e w3 ⟨ya, yn, rfl, hyn, hY, hq3⟩
      rw [HF.out]
      have bw3 := bw2.trans (hq3.mono bw2.size)
      clear bw2 hq3
      go_wp2_with fail
      refine (weq_calls _ _ _ _ _ _ _ _ _ hY (LstW.nil _ none 0) (by omega)).mono ?_
      rintro e v5 ⟨rfl, n5, rfl⟩
      rw [HN.out, decide_eq_true rfl]
      have hd := below_drewN bw3 n5
      clear hY
      go_wp2_with fail
      refine (dPair_calls _ _ hp hq _).mono ?_
      rintro e z0 ⟨rfl, g0⟩
      have i0 := hd.trans (g0.mono hd.size)
      go_wp2_with fail
      refine (rPair_calls _ _ hp hq _).mono ?_
      rintro e z1 ⟨rfl, g1⟩
      have i1 := i0.trans (g1.mono i0.size)
      go_wp2_with fail
      refine (dWord_calls _ _ hp hq _).mono ?_
      rintro e z2 ⟨rfl, g2⟩
      have i2 := i1.trans (g2.mono i1.size)
      go_wp2_with fail
      refine (rWord_calls _ _ hp hq _).mono ?_
      rintro e z3 ⟨rfl, g3⟩
      have i3 := i2.trans (g3.mono i2.size)
      go_wp2
      go_ret
      exact ⟨rfl, i3⟩
    · have HO : Hid (ofA kind xs la = ofP kind xs) := by unfold ofA; rw [if_neg hA]; rfl
      have HE : Hid (bigI la = 0) := by unfold bigI; rw [if_neg hA]; rfl
      have HN : Hid (numL ys lb = (List.range lb).map (numG ys)) := by unfold numL; rw [if_neg hB]; rfl
      have HF : Hid (bigI lb = 0) := by unfold bigI; rw [if_neg hB]; rfl
      go_enter Try.func8, Try.ntmps8
      have bw0 : Below w.heap.size w w := Below.refl _ _
      go_wp2_with fail
      refine (rof_calls _ hk _ _ _ xs _ ha HX.out (by omega)).mono ?_
      rintro e w1 ⟨rfl, hq1⟩
      have bw1 := bw0.trans (hq1.mono bw0.size)
      have ha1 := ha.below hq1 (Nat.le_refl _)
      have hb1 := hb.below hq1 (Nat.le_refl _)
      clear bw0 ha hb hq1
      go_wp2_with fail
      refine (rNumbers_calls _ _ _ ys _ hb1 (by omega)).mono ?_
      rintro e w2 ⟨na, nc, rfl, hN, hq2⟩
      have bw2 := bw1.trans (hq2.mono bw1.size)
      have ha2 := ha1.below hq2 (Nat.le_refl _)
      have hb2 := hb1.below hq2 (Nat.le_refl _)
      clear bw1 ha1 hb1 hq2
      go_wp2_with fail
      refine (dOf_calls _ hk _ _ _ xs _ ha2 HX.out).mono ?_
      rintro e w3 ⟨rfl, hq3⟩
      rw [HO.out, HE.out]
      have bw3 := bw2.trans (hq3.mono bw2.size)
      have hb3 := hb2.below hq3 (Nat.le_refl _)
      have hN3 := hN.below hq3 (Nat.le_refl _)
      clear bw2 hb2 hN hq3
      go_wp2_with fail
      refine (dNumbers_calls _ _ _ ys _ hb3).mono ?_
      rintro e w4 ⟨ya, yn, rfl, hyn, hY, hq4⟩
      rw [HF.out]
      have bw4 := bw3.trans (hq4.mono bw3.size)
      have hN4 := hN3.below hq4 (Nat.le_refl _)
      clear bw3 hN3 hq4
      go_wp2_with fail
      refine (weq_calls _ _ _ _ _ _ _ _ _ hY hN4 (by omega)).mono ?_
      rintro e v5 ⟨rfl, n5, rfl⟩
      rw [HN.out, decide_eq_true rfl]
      have hd := below_drewN bw4 n5
      clear hY
      go_wp2_with fail
      refine (dPair_calls _ _ hp hq _).mono ?_
      rintro e z0 ⟨rfl, g0⟩
      have i0 := hd.trans (g0.mono hd.size)
      go_wp2_with fail
      refine (rPair_calls _ _ hp hq _).mono ?_
      rintro e z1 ⟨rfl, g1⟩
      have i1 := i0.trans (g1.mono i0.size)
      go_wp2_with fail
      refine (dWord_calls _ _ hp hq _).mono ?_
      rintro e z2 ⟨rfl, g2⟩
      have i2 := i1.trans (g2.mono i1.size)
      go_wp2_with fail
      refine (rWord_calls _ _ hp hq _).mono ?_
      rintro e z3 ⟨rfl, g3⟩
      have i3 := i2.trans (g3.mono i2.size)
      go_wp2
      go_ret
      exact ⟨rfl, i3⟩

end Go.Proofs.Ytlhacdfkaajcpaa.Fx
