/- DeskHead: what follows is not seen in what was answered. -/
import Derived.Test.YthmiojmlaclgaaaGreatDoorJ34
namespace Go.Proofs.YthmiojmlaclgaaaGreatDoor.Fx
open Go.RowKit

/-- A byte 10 between two texts. -/
theorem cat_two (s m : List UInt8) : (⟨s.toArray⟩ : ByteArray) ++ ⟨#[10]⟩ ++ ⟨m.toArray⟩ = ⟨(s ++ 10 :: m).toArray⟩ := by
  rw [cat_arr, arr_cat2, List.append_assoc]
  rfl
theorem aB_at (i : Nat) : (aB ++ [[]]).getD i [] = aB.getD i [] := by
  by_cases h : i < aB.length
  · rw [List.getD_eq_getElem?_getD, List.getD_eq_getElem?_getD, List.getElem?_append_left h]
  · rw [List.getD_eq_getElem?_getD, List.getD_eq_getElem?_getD, List.getElem?_eq_none (l := aB) (by omega)]
    by_cases h2 : i = aB.length
    · rw [h2, List.getElem?_append_right (Nat.le_refl _)]; simp
    · rw [List.getElem?_eq_none (by rw [List.length_append]; simp; omega)]

set_option maxRecDepth 100000 in
set_option maxHeartbeats 3200000 in
theorem deskHead_core (s m : List UInt8) (hs : s.length ≤ 1000000000000000000) (hm : m.length ≤ 1000000000000000000) (w : World) (hL : LD w) :
    Calls Tryz.prog 4 #[.string ⟨s.toArray⟩, .string ⟨m.toArray⟩] w fun e w' => e = .returned (.bool true) ∧ Below w.heap.size w w' := by
  obtain ⟨O, HO⟩ : ∃ X : ByteArray, Hid ((⟨(runP tB).toArray⟩ : ByteArray) = X) := ⟨_, rfl⟩
  have RB : Hid (Calls Tryz.prog 6 #[.string ⟨#[100, 97, 116, 97, 32, 54, 53, 53, 51, 54, 32, 47, 32, 49, 51, 49, 48, 55, 50, 10, 115, 116, 101, 112, 10, 115, 116, 101, 112, 10, 97, 117, 100, 105, 116, 10, 99, 114, 97, 115, 104, 32, 48, 10, 98, 121, 116, 101, 115, 10, 97, 117, 100, 105, 116, 10]⟩] w fun e w' => e = .returned (.string O) ∧ Below w.heap.size w w') := by
    have h := run_calls tB (by decide) w hL
    rw [HO.out] at h
    exact h
  have HSP : Hid (∀ q, Below w.heap.size w q → Calls Tryz.prog 8 #[.string O, .string ⟨#[10]⟩] q fun e w' => ∃ n a, e = .returned (.slice a n n) ∧ LstS w' a n n (aB ++ [[]]) ∧ Below q.heap.size q w') := fun q hq => by
    have h := ssplit_calls (runP tB) 10 (by
      have hn := (dTo_ok (tlines tB) _ (Nat.le_refl _)).2
      have e : runP tB = (dTo (tlines tB) (tlines tB).length).2 := runP_not (by rw [tB_lines]; decide)
      have e2 : (tlines tB).length = 7 := by rw [tB_lines]; rfl
      rw [e]
      omega) q (hL.below hq (Nat.le_refl _))
    rw [HO.out, words_tB] at h
    exact h
  have HRS : Hid (∀ q, Below w.heap.size w q → Calls Tryz.prog 6 #[.string ⟨s.toArray⟩] q fun e w' => e = .returned (.string ⟨(runP s).toArray⟩) ∧ Below q.heap.size q w') := fun q hq => run_calls s (by omega) q (hL.below hq (Nat.le_refl _))
  have HRA : Hid (∀ q, Below w.heap.size w q → Calls Tryz.prog 6 #[.string ⟨(s ++ 10 :: m).toArray⟩] q fun e w' => e = .returned (.string ⟨(runP (s ++ 10 :: m)).toArray⟩) ∧ Below q.heap.size q w') := fun q hq => run_calls _ (by rw [List.length_append]; simp; omega) q (hL.below hq (Nat.le_refl _))
  have HTL : Hid ((s ++ 10 :: m).length ≤ 65536 → ∀ q, Calls Tryz.prog 10 #[.string ⟨(s ++ 10 :: m).toArray⟩] q fun e w' => ∃ a n c, e = .returned (.slice a n c) ∧ LstS w' a n c (tlines (s ++ 10 :: m)) ∧ Below q.heap.size q w') := fun h q => textLines_calls _ (by omega) q
  have HPX : Hid (¬ (65536 < (s ++ 10 :: m).length ∨ 200 < (tlines (s ++ 10 :: m)).length) → Lib.hasPrefix (runP (s ++ 10 :: m)) (runP s) = true) := fun h => List.isPrefixOf_iff_prefix.2 (run_head h)
  have HCA := Lib.hid (cat_two s m)
  have hal : (s ++ 10 :: m).length = s.length + 1 + m.length := by rw [List.length_append, List.length_cons]; omega
  obtain ⟨al, HAL⟩ : ∃ t, Hid (s ++ 10 :: m = t) := ⟨_, rfl⟩
  rw [HAL.out] at HRA HTL HPX HCA hal
  obtain ⟨A, HA⟩ : ∃ X : ByteArray, Hid ((⟨al.toArray⟩ : ByteArray) = X) := ⟨_, rfl⟩
  have hA : A.size = al.length := by rw [← HA.out]; rfl
  obtain ⟨S, HS⟩ : ∃ X : ByteArray, Hid ((⟨s.toArray⟩ : ByteArray) = X) := ⟨_, rfl⟩
  have hS : S.size = s.length := by rw [← HS.out]; rfl
  obtain ⟨M, HM⟩ : ∃ X : ByteArray, Hid ((⟨m.toArray⟩ : ByteArray) = X) := ⟨_, rfl⟩
  have hM : M.size = m.length := by rw [← HM.out]; rfl
  obtain ⟨RS, HR1⟩ : ∃ X : ByteArray, Hid ((⟨(runP s).toArray⟩ : ByteArray) = X) := ⟨_, rfl⟩
  obtain ⟨RAl, HR2⟩ : ∃ X : ByteArray, Hid ((⟨(runP al).toArray⟩ : ByteArray) = X) := ⟨_, rfl⟩
  rw [HS.out, HM.out, HA.out] at HCA
  have hCA : S ++ ⟨#[10]⟩ ++ M = A := HCA.out
  rw [HS.out, HR1.out] at HRS
  rw [HA.out, HR2.out] at HRA
  rw [HA.out] at HTL
  rw [HS.out, HM.out]
  have z1 : S.size + 1 ≤ 9223372036854775807 := by omega
  have z2 : S.size + 1 + M.size ≤ 9223372036854775807 := by omega
  go_enter Tryz.func4, Tryz.ntmps4
  go_wp2_with fail
  refine RB.out.mono ?_
  rintro e w1 ⟨rfl, hw1⟩
  go_wp2_with fail
  refine (HSP.out _ hw1).mono ?_
  rintro e w2 ⟨n2, a2, rfl, l2, hw2⟩
  have hB2 := hw1.trans (hw2.mono hw1.size)
  obtain rfl : 8 = n2 := l2.len
  obtain ⟨b, off, rfl, hb, hc⟩ := l2.at (by omega)
  have c0 := hc 0 (by omega)
  have c1 := hc 1 (by omega)
  have c2 := hc 2 (by omega)
  have c3 := hc 3 (by omega)
  have c5 := hc 5 (by omega)
  have c6 := hc 6 (by omega)
  rw [aB_at] at c0 c1 c2 c3 c5 c6
  rw [Nat.add_zero] at c0
  clear hc l2 RB HSP
  obtain ⟨V0, HV0⟩ : ∃ X : ByteArray, Hid ((⟨(aB.getD 0 []).toArray⟩ : ByteArray) = X) := ⟨_, rfl⟩
  obtain ⟨V1, HV1⟩ : ∃ X : ByteArray, Hid ((⟨(aB.getD 1 []).toArray⟩ : ByteArray) = X) := ⟨_, rfl⟩
  obtain ⟨V2, HV2⟩ : ∃ X : ByteArray, Hid ((⟨(aB.getD 2 []).toArray⟩ : ByteArray) = X) := ⟨_, rfl⟩
  obtain ⟨V3, HV3⟩ : ∃ X : ByteArray, Hid ((⟨(aB.getD 3 []).toArray⟩ : ByteArray) = X) := ⟨_, rfl⟩
  obtain ⟨V5, HV5⟩ : ∃ X : ByteArray, Hid ((⟨(aB.getD 5 []).toArray⟩ : ByteArray) = X) := ⟨_, rfl⟩
  obtain ⟨V6, HV6⟩ : ∃ X : ByteArray, Hid ((⟨(aB.getD 6 []).toArray⟩ : ByteArray) = X) := ⟨_, rfl⟩
  have e0 : (V0.toList == [111, 107]) = true := by rw [← HV0.out]; exact (strEqL okA [111, 107]).trans (by decide)
  have e3 : (V3.toList == [50]) = true := by rw [← HV3.out]; exact (strEqL [50] [50]).trans (by decide)
  have e5 : (V5.toList == [48]) = true := by rw [← HV5.out]; exact (strEqL [48] [48]).trans (by decide)
  have e6 : (V6.toList == [48]) = true := by rw [← HV6.out]; exact (strEqL [48] [48]).trans (by decide)
  have f0 : (V0.toList != [111, 107]) = false := by unfold bne; rw [e0]; rfl
  have f3 : (V3.toList != [50]) = false := by unfold bne; rw [e3]; rfl
  have f5 : (V5.toList != [48]) = false := by unfold bne; rw [e5]; rfl
  have f6 : (V6.toList != [48]) = false := by unfold bne; rw [e6]; rfl
  have P1 : Hid (Calls Tryz.prog 9 #[.string V1, .string ⟨#[48, 32, 54, 53, 53, 52, 32]⟩] w2 fun e w' => e = .returned (.bool true) ∧ w' = w2) := by
    have h := hasP_calls V1 ⟨#[48, 32, 54, 53, 53, 52, 32]⟩ w2
    have e : Lib.hasPrefix V1.data.toList (⟨#[48, 32, 54, 53, 53, 52, 32]⟩ : ByteArray).data.toList = true := by rw [← HV1.out]; exact lB_pre0
    rw [e] at h
    exact h
  have P2 : Hid (Calls Tryz.prog 9 #[.string V2, .string ⟨#[49, 32, 54, 53, 53, 52, 32]⟩] w2 fun e w' => e = .returned (.bool true) ∧ w' = w2) := by
    have h := hasP_calls V2 ⟨#[49, 32, 54, 53, 53, 52, 32]⟩ w2
    have e : Lib.hasPrefix V2.data.toList (⟨#[49, 32, 54, 53, 53, 52, 32]⟩ : ByteArray).data.toList = true := by rw [← HV2.out]; exact lB_pre1
    rw [e] at h
    exact h
  rw [HV0.out] at c0
  rw [HV1.out] at c1
  rw [HV2.out] at c2
  rw [HV3.out] at c3
  rw [HV5.out] at c5
  rw [HV6.out] at c6
  go_wp2_with fail
  refine P1.out.mono ?_
  rintro e w' ⟨rfl, hwE⟩
  have hwF := hwE.symm
  subst hwF
  go_wp2_with fail
  refine P2.out.mono ?_
  rintro e w' ⟨rfl, hwE⟩
  have hwF := hwE.symm
  subst hwF
  clear P1 P2
  by_cases hbig : 65536 < al.length
  · have k1 : (65536 : Int) < (A.size : Int) := by omega
    go_wp2_with fail
    go_ret
    exact ⟨rfl, hB2⟩
  have k1 : ¬ (65536 : Int) < (A.size : Int) := by omega
  have TL := Lib.hid (HTL.out (by omega))
  clear HTL
  go_wp2_with fail
  refine (TL.out _).mono ?_
  rintro e w3 ⟨a3, n3, c3', rfl, l3, hw3⟩
  have hB3 := hB2.trans (hw3.mono hB2.size)
  have hn3 := l3.len
  by_cases h200 : 200 < (tlines al).length
  · have k2 : (200 : Int) < (n3 : Int) := by omega
    go_wp2_with fail
    go_ret
    exact ⟨rfl, hB3⟩
  have k2 : ¬ (200 : Int) < (n3 : Int) := by omega
  have hpx := HPX.out (fun h => h.elim hbig h200)
  have HP3 : Hid (∀ q, Calls Tryz.prog 9 #[.string RAl, .string RS] q fun e w' => e = .returned (.bool true) ∧ w' = q) := fun q => by
    have h := hasP_calls RAl RS q
    have e : Lib.hasPrefix RAl.data.toList RS.data.toList = true := by rw [← HR1.out, ← HR2.out]; exact hpx
    rw [e] at h
    exact h
  clear hpx HPX l3 hn3
  go_wp2_with fail
  refine (HRA.out _ hB3).mono ?_
  rintro e w4 ⟨rfl, hw4⟩
  have hB4 := hB3.trans (hw4.mono hB3.size)
  go_wp2_with fail
  refine (HRS.out _ hB4).mono ?_
  rintro e w5 ⟨rfl, hw5⟩
  have hB5 := hB4.trans (hw5.mono hB4.size)
  go_wp2_with fail
  refine (HP3.out _).mono ?_
  rintro e w' ⟨rfl, hwE⟩
  have hwF := hwE.symm
  subst hwF
  go_wp2_with fail
  go_ret
  exact ⟨rfl, hB5⟩
end Go.Proofs.YthmiojmlaclgaaaGreatDoor.Fx
