/- What coachref.LineText returns of a record that may be told: its line. -/
import Derived.Test.YtfcnnolpcnacoaaDoorStC
namespace Go.Proofs.YtfcnnolpcnacoaaDoor.Fx
open Go.RowKit

theorem join_snoc (b : UInt8) (ws : List (List UInt8)) (x : List UInt8) (h : ws ≠ []) : Lib.join (ws ++ [x]) [b] = Lib.join ws [b] ++ ([b] ++ x) := by
  have e := List.dropLast_concat_getLast h
  rw [← e, join_glue, join_glue]
  simp [glue]
/-- The line of the numbers ahead of the batch, and of its first q ones. -/
def preL (s r root chain : Int) (D : List Int) (q : Nat) : List UInt8 := Lib.join (([s, r, root, chain] ++ D.take q).map dg) [32]
theorem preL_zero (s r root chain : Int) (D : List Int) : preL s r root chain D 0 = dg s ++ [32] ++ dg r ++ [32] ++ dg root ++ [32] ++ dg chain := by
  simp [preL, Lib.join, List.intercalate, List.intersperse]
theorem preL_succ {s r root chain : Int} {D : List Int} {q : Nat} (h : q < D.length) : preL s r root chain D (q + 1) = preL s r root chain D q ++ ([32] ++ dg (D.getD q 0)) := by
  unfold preL
  rw [List.take_add_one, List.getElem?_eq_getElem h, Option.toList_some, ← List.append_assoc, List.map_append (l₂ := [D[q]]), List.map_singleton, join_snoc 32 _ _ (by simp), List.getD_eq_getElem?_getD, List.getElem?_eq_getElem h]
  rfl
theorem preL_all {s r root chain : Int} {D : List Int} {q : Nat} (h : D.length = q) : preL s r root chain D q ++ [10] = Ln.text ⟨s, r, root, chain, D⟩ := by
  subst h
  rw [preL, List.take_length]
  rfl
theorem arr_cat (x y : List UInt8) : (⟨x.toArray⟩ : ByteArray) ++ ⟨y.toArray⟩ = ⟨(x ++ y).toArray⟩ := by
  apply ByteArray.ext
  simp

set_option maxRecDepth 100000 in
set_option maxHeartbeats 6400000 in
theorem rtext_calls (x : Rcm) (D : List Int) (w : World) (hl : Lst w x.a x.n x.k D) (ok : (x.ln D).ok) (hL : LD w) :
    Calls Tryd.prog 8 #[x.val] w fun e w' => e = .returned (.string ⟨(x.ln D).text.toArray⟩) ∧ Below w.heap.size w w' := by
  obtain ⟨s, a, n, k, r, root, chain⟩ := x
  simp only [Rcm.val, Rcm.cells, Rcm.ln] at *
  have hal := (Below.refl w.heap.size w).alloc (Nat.le_refl _) (.cells #[.int .i64 s, .slice a n k, .int .i64 r, .int .u64 root, .int .u64 chain] 31)
  have HN : Hid (D.length = n) := hl.len
  have HK : Hid (Ln.ok ⟨s, r, root, chain, D⟩) := ok
  obtain ⟨A1, E1⟩ : ∃ A : ByteArray, Hid (A = ⟨(dg s).toArray⟩) := ⟨_, rfl⟩
  obtain ⟨A2, E2⟩ : ∃ A : ByteArray, Hid (A = ⟨(dg r).toArray⟩) := ⟨_, rfl⟩
  obtain ⟨A3, E3⟩ : ∃ A : ByteArray, Hid (A = ⟨(dg root).toArray⟩) := ⟨_, rfl⟩
  obtain ⟨A4, E4⟩ : ∃ A : ByteArray, Hid (A = ⟨(dg chain).toArray⟩) := ⟨_, rfl⟩
  have z1 : A1.size ≤ 2 := by rw [E1.out, sz_arr]; exact dg_short (by omega) ok.s.1 (by have := ok.s.2; dsimp only at *; omega)
  have z2 : A2.size ≤ 10 := by rw [E2.out, sz_arr]; exact dg_short (by omega) ok.r.1 (by have := ok.r.2; dsimp only at *; omega)
  have z3 : A3.size ≤ 19 := by rw [E3.out, sz_arr]; exact dg_short (by omega) ok.root.1 (by have := ok.root.2; dsimp only at *; omega)
  have z4 : A4.size ≤ 19 := by rw [E4.out, sz_arr]; exact dg_short (by omega) ok.chain.1 (by have := ok.chain.2; dsimp only at *; omega)
  have m1 : ¬ 9223372036854775807 < A1.size + 1 := by omega
  have m2 : ¬ 9223372036854775807 < A1.size + 1 + A2.size := by omega
  have m3 : ¬ 9223372036854775807 < A1.size + 1 + A2.size + 1 := by omega
  have m4 : ¬ 9223372036854775807 < A1.size + 1 + A2.size + 1 + A3.size := by omega
  have m5 : ¬ 9223372036854775807 < A1.size + 1 + A2.size + 1 + A3.size + 1 := by omega
  have m6 : ¬ 9223372036854775807 < A1.size + 1 + A2.size + 1 + A3.size + 1 + A4.size := by omega
  obtain ⟨W, HW⟩ : ∃ W, Hid (w.alloc (.cells #[.int .i64 s, .slice a n k, .int .i64 r, .int .u64 root, .int .u64 chain] 31) = W) := ⟨_, rfl⟩
  have hW : Below w.heap.size w W := by rw [← HW.out]; exact hal
  have KB : Hid (∀ q, Below W.heap.size W q → Box5 q w.heap.size (.int .i64 s) (.slice a n k) (.int .i64 r) (.int .u64 root) (.int .u64 chain)) := fun q hq => box5 _ _ _ _ _ 31 (B := w.heap.size + 1) (by rw [HW.out]; exact hq.mono (by rw [← HW.out]; simp)) (Nat.lt_succ_self _)
  have KL : Hid (∀ q, Below W.heap.size W q → LD q) := fun q hq => hL.below (hW.trans (hq.mono hW.size)) (Nat.le_refl _)
  have I1 : Hid (∀ q, Below W.heap.size W q → Calls Tryd.prog 18 #[.int .i64 s] q fun e w' => e = .returned (.string A1) ∧ Below q.heap.size q w') := fun q hq => by rw [E1.out]; exact itoa_calls s ok.s.1 (by have := ok.s.2; dsimp only at *; omega) q (KL.out q hq)
  have I2 : Hid (∀ q, Below W.heap.size W q → Calls Tryd.prog 18 #[.int .i64 r] q fun e w' => e = .returned (.string A2) ∧ Below q.heap.size q w') := fun q hq => by rw [E2.out]; exact itoa_calls r ok.r.1 (by have := ok.r.2; dsimp only at *; omega) q (KL.out q hq)
  have I3 : Hid (∀ q, Below W.heap.size W q → Calls Tryd.prog 19 #[.int .u64 root, .int .i64 10] q fun e w' => e = .returned (.string A3) ∧ Below q.heap.size q w') := fun q hq => by rw [E3.out]; exact fmtu_calls root ok.root.1 (by have := ok.root.2; dsimp only at *; omega) q (KL.out q hq)
  have I4 : Hid (∀ q, Below W.heap.size W q → Calls Tryd.prog 19 #[.int .u64 chain, .int .i64 10] q fun e w' => e = .returned (.string A4) ∧ Below q.heap.size q w') := fun q hq => by rw [E4.out]; exact fmtu_calls chain ok.chain.1 (by have := ok.chain.2; dsimp only at *; omega) q (KL.out q hq)
  have KS : Hid (∀ q, Below W.heap.size W q → q.cell? ⟨w.heap.size, 0, none⟩ = some (.int .i64 s) ∧ q.cell? ⟨w.heap.size, 2, none⟩ = some (.int .i64 r) ∧ q.cell? ⟨w.heap.size, 3, none⟩ = some (.int .u64 root) ∧ q.cell? ⟨w.heap.size, 4, none⟩ = some (.int .u64 chain)) := fun q hq => ⟨(KB.out q hq).c0, (KB.out q hq).c2, (KB.out q hq).c3, (KB.out q hq).c4⟩
  have l1 := hl.below hW (Nat.le_refl _)
  have hBd : Below W.heap.size W W.drew := Below.drew (Below.refl _ _)
  have S0 := KS.out _ hBd
  have n8 := ok.n
  dsimp only at n8
  rw [HN.out] at n8
  clear hL hl ok hal
  go_enter Tryd.func8, Tryd.ntmps8
  go_wp2_with fail
  rw [HW.out]
  clear HW
  go_region_held3 (fun q => q.cell? ⟨w.heap.size, 0, none⟩ = some (.int .i64 s) ∧ q.cell? ⟨w.heap.size, 2, none⟩ = some (.int .i64 r) ∧ q.cell? ⟨w.heap.size, 3, none⟩ = some (.int .u64 root) ∧ q.cell? ⟨w.heap.size, 4, none⟩ = some (.int .u64 chain)) (first | with_reducible exact S4 | with_reducible exact S3 | with_reducible exact S2 | with_reducible exact S1 | with_reducible exact S0)
    (first | (go_at_call 19; refine (I4.out _ T3).mono ?_; rintro e q4 ⟨rfl, hq4⟩; have T4 := T3.trans (hq4.mono T3.size); have S4 := KS.out _ T4) | (go_at_call 19; refine (I3.out _ T2).mono ?_; rintro e q3 ⟨rfl, hq3⟩; have T3 := T2.trans (hq3.mono T2.size); have S3 := KS.out _ T3) | (go_at_call 18; refine (I2.out _ T1).mono ?_; rintro e q2 ⟨rfl, hq2⟩; have T2 := T1.trans (hq2.mono T1.size); have S2 := KS.out _ T2) | (go_at_call 18; refine (I1.out _ hBd).mono ?_; rintro e q1 ⟨rfl, hq1⟩; have T1 := undrewS hq1; have S1 := KS.out _ T1))
  all_goals
    clear S0 S1 S2 S3 S4 hq1 hq2 hq3 hq4 T1 T2 T3 m1 m2 m3 m4 m5 m6
    obtain ⟨X0, HX0⟩ : ∃ X : ByteArray, Hid (A1 ++ ⟨#[32]⟩ ++ A2 ++ ⟨#[32]⟩ ++ A3 ++ ⟨#[32]⟩ ++ A4 = X) := ⟨_, rfl⟩
    have zx : X0.size ≤ 53 := by rw [← HX0.out]; simp only [ByteArray.size_append]; show A1.size + 1 + A2.size + 1 + A3.size + 1 + A4.size ≤ 53; omega
    have HX : Hid (X0 = ⟨(preL s r root chain D 0).toArray⟩) := by
      show _ = _
      rw [← HX0.out, E1.out, E2.out, E3.out, E4.out, preL_zero]
      apply ByteArray.ext
      simp
    rw [HX0.out]
    clear HX0
    go_wp2
    go_loopw [3, 4] (fun v i wr => ∃ (q : Nat) (X : ByteArray), q ≤ n ∧ v = .string X ∧ i = .int .i64 q ∧ Hid (X = ⟨(preL s r root chain D q).toArray⟩) ∧ X.size ≤ 53 + 3 * q ∧ Below W.heap.size W wr) (fun _ i _ => n - (intOf i).toNat)
    case atStart => exact ⟨0, X0, Nat.zero_le _, rfl, rfl, HX, by omega, T4⟩
    case round =>
      obtain ⟨q, X, hq, rfl, rfl, HQ, hsz, TR⟩ := hrel
      have C1 := (KB.out _ TR).c1
      by_cases hlt : q < n
      · obtain ⟨b1, o1, z, rfl, g1, c1, HZ⟩ := l1.at1b TR (Nat.le_refl _) hlt
        have hqD : q < D.length := by rw [HN.out]; exact hlt
        have hz := HK.out.b z (by rw [← HZ.out]; exact getD_mem hqD)
        obtain ⟨A5, E5⟩ : ∃ A : ByteArray, Hid (A = ⟨(dg z).toArray⟩) := ⟨_, rfl⟩
        have z5 : A5.size ≤ 2 := by rw [E5.out, sz_arr]; exact dg_short (by omega) hz.1 (by have := hz.2; omega)
        have I5 : Calls Tryd.prog 18 #[.int .i64 z] wr fun e w' => e = .returned (.string A5) ∧ Below wr.heap.size wr w' := by rw [E5.out]; exact itoa_calls z hz.1 (by have := hz.2; omega) wr (KL.out _ TR)
        have HI5 := Lib.hid I5
        have m1 : ¬ 9223372036854775807 < 1 + A5.size := by omega
        have m2 : ¬ 9223372036854775807 < X.size + (1 + A5.size) := by omega
        have HS : Hid (X ++ (⟨#[32]⟩ ++ A5) = ⟨(preL s r root chain D (q + 1)).toArray⟩) := by
          show _ = _
          rw [HQ.out, E5.out, preL_succ hqD, HZ.out]
          apply ByteArray.ext
          simp
        have HSz : Hid ((X ++ (⟨#[32]⟩ ++ A5)).size ≤ 53 + 3 * (q + 1)) := by
          show _ ≤ _
          simp only [ByteArray.size_append]
          show X.size + (1 + A5.size) ≤ 53 + 3 * (q + 1)
          omega
        clear hz I5
        go_wp2_with (go_at_call 18; refine (HI5.out).mono ?_; rintro e q6 ⟨rfl, hq6⟩)
        go_roundw
        case rel => exact ⟨q + 1, _, by omega, by trivial, by go_num, HS, HSz.out, TR.trans (hq6.mono TR.size)⟩
        case measure => simp [intOf]; omega
      · obtain rfl : q = n := by omega
        have m1 : ¬ 9223372036854775807 < X.size + 1 := by omega
        go_wp2
        go_ret
        refine ⟨?_, hW.trans (TR.mono hW.size)⟩
        show Ending.returned (.string (X ++ ⟨#[10]⟩)) = _
        rw [HQ.out, cat_arr, preL_all HN.out]
end Go.Proofs.YtfcnnolpcnacoaaDoor.Fx
