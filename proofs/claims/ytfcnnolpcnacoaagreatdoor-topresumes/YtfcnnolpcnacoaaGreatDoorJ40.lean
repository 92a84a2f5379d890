/- What store.Print returns, whatever record lies there: its line, or that it can't be told. -/
import Derived.Test.YtfcnnolpcnacoaaGreatDoorJ38
import Derived.Test.YtfcnnolpcnacoaaGreatDoorJ39
namespace Go.Proofs.YtfcnnolpcnacoaaGreatDoor.Fx
open Go.RowKit

theorem undrewS {w w1 : World} (h : Below w.drew.heap.size w.drew w1) : Below w.heap.size w w1 := (Below.drew (Below.refl w.heap.size w)).trans h
/-- A record's line as Print tells it. -/
def PrintR (l : Ln) (e : Ending) : Prop := (l.ok ∧ e = .returned (.tuple #[.string ⟨l.text.toArray⟩, .int .i64 0])) ∨ (¬ l.ok ∧ e = .returned (.tuple #[.string ⟨#[]⟩, .int .i64 5]))
theorem cat_arr (x : List UInt8) (c : UInt8) : (⟨x.toArray⟩ : ByteArray) ++ ⟨#[c]⟩ = ⟨(x ++ [c]).toArray⟩ := by
  apply ByteArray.ext
  simp
theorem sz_arr (x : List UInt8) : (⟨x.toArray⟩ : ByteArray).size = x.length := rfl

set_option maxRecDepth 100000 in
set_option maxHeartbeats 6400000 in
theorem print_calls (x : Rcm) (D : List Int) (w : World) (hl : Lst w x.a x.n x.k D) (hr : 0 ≤ x.root) (hc : 0 ≤ x.chain) (hL : LD w) :
    Calls Tryz.prog 22 #[x.val] w fun e w' => PrintR (x.ln D) e ∧ Below w.heap.size w w' := by
  have PC := fun q (h : Below w.heap.size w q) => printable_calls x D q (hl.below h (Nat.le_refl _)) hr hc
  have HP : Hid (∀ q, Below w.heap.size w q → Calls Tryz.prog 38 #[x.val] q fun e w' => IsB e (x.ln D).ok ∧ Below q.heap.size q w') := PC
  clear PC
  obtain ⟨s, a, n, k, r, root, chain⟩ := x
  simp only [Rcm.val, Rcm.cells, Rcm.ln] at *
  have hal := (Below.refl w.heap.size w).alloc (Nat.le_refl _) (.cells #[.int .i64 s, .slice a n k, .int .i64 r, .int .u64 root, .int .u64 chain] 40)
  have HN : Hid (D.length = n) := hl.len
  go_enter Tryz.func22, Tryz.ntmps22
  go_wp2_with fail
  refine (HP.out _ hal).mono ?_
  rintro e w1 ⟨⟨b, rfl, H1⟩, hw1⟩
  have hb1 := hal.trans (hw1.mono hal.size)
  cases b with
  | false =>
    go_wp2
    go_ret2
    exact ⟨.inr ⟨H1.no, rfl⟩, hb1⟩
  | true =>
    have ok := H1.yes
    have HK : Hid (Ln.ok ⟨s, r, root, chain, D⟩) := ok
    have s0 := ok.s.1
    have s1 := ok.s.2
    have r0 := ok.r.1
    have r1 := ok.r.2
    have t1 := ok.root.2
    have u1 := ok.chain.2
    have n1 := ok.n
    dsimp only at s0 s1 r0 r1 t1 u1 n1
    rw [HN.out] at n1
    have s2 : s ≤ 9223372036854775807 := by omega
    have r2 : r ≤ 9223372036854775807 := by omega
    have t2 : root < 18446744073709551616 := by omega
    have u2 : chain < 18446744073709551616 := by omega
    clear ok H1
    have KB : Hid (∀ q, Below w1.heap.size w1 q → Box5 q w.heap.size (.int .i64 s) (.slice a n k) (.int .i64 r) (.int .u64 root) (.int .u64 chain)) := fun q hq => box5 _ _ _ _ _ 40 ((hw1.mono (by simp)).trans (hq.mono (Nat.le_trans (by simp) hw1.size))) (Nat.lt_succ_self _)
    have KS : Hid (∀ q, Below w1.heap.size w1 q → q.cell? ⟨w.heap.size, 0, none⟩ = some (.int .i64 s) ∧ q.cell? ⟨w.heap.size, 2, none⟩ = some (.int .i64 r) ∧ q.cell? ⟨w.heap.size, 3, none⟩ = some (.int .u64 root) ∧ q.cell? ⟨w.heap.size, 4, none⟩ = some (.int .u64 chain)) := fun q hq => ⟨(KB.out q hq).c0, (KB.out q hq).c2, (KB.out q hq).c3, (KB.out q hq).c4⟩
    have KL : Hid (∀ q, Below w1.heap.size w1 q → LD q) := fun q hq => hL.below (hb1.trans (hq.mono hb1.size)) (Nat.le_refl _)
    have hBd : Below w1.heap.size w1 w1.drew := Below.drew (Below.refl _ _)
    have S0 := KS.out _ hBd
    have L0 := KL.out _ hBd
    have l1 := hl.below hb1 (Nat.le_refl _)
    clear hL hl HP
    go_wp2_with fail
    go_region_held3 (fun q => q.cell? ⟨w.heap.size, 0, none⟩ = some (.int .i64 s) ∧ q.cell? ⟨w.heap.size, 2, none⟩ = some (.int .i64 r) ∧ q.cell? ⟨w.heap.size, 3, none⟩ = some (.int .u64 root) ∧ q.cell? ⟨w.heap.size, 4, none⟩ = some (.int .u64 chain)) (first | with_reducible exact S5 | with_reducible exact S4 | with_reducible exact S3 | with_reducible exact S2 | with_reducible exact S1 | with_reducible exact S0)
      (first | (go_at_call 40; refine (fmtu_calls chain hc u2 _ L3).mono ?_; rintro e q4 ⟨rfl, hq4⟩; have T4 := T3.trans (hq4.mono T3.size); have S4 := KS.out _ T4; have T5 := T4.alloc T4.size (.cells #[.string ⟨(dg s).toArray⟩, .string ⟨(dg r).toArray⟩, .string ⟨(dg root).toArray⟩, .string ⟨(dg chain).toArray⟩] 9); have S5 := KS.out _ T5) | (go_at_call 40; refine (fmtu_calls root hr t2 _ L2).mono ?_; rintro e q3 ⟨rfl, hq3⟩; have T3 := T2.trans (hq3.mono T2.size); have S3 := KS.out _ T3; have L3 := KL.out _ T3) | (go_at_call 39; refine (itoa_calls r r0 r2 _ L1).mono ?_; rintro e q2 ⟨rfl, hq2⟩; have T2 := T1.trans (hq2.mono T1.size); have S2 := KS.out _ T2; have L2 := KL.out _ T2) | (go_at_call 39; refine (itoa_calls s s0 s2 _ L0).mono ?_; rintro e q1 ⟨rfl, hq1⟩; have T1 := undrewS hq1; have S1 := KS.out _ T1; have L1 := KL.out _ T1))
    all_goals
      have O5 := (OwnX.lits 9 q4 [sv (dg s), sv (dg r), sv (dg root), sv (dg chain)] (by simp)).mono T4.size
      have C1 := (KB.out _ T5).c1
      have HV : Hid ([sv (dg s), sv (dg r), sv (dg root), sv (dg chain)] = ([s, r, root, chain] ++ D.take 0).map fun z => sv (dg z)) := rfl
      have O6 := O5.congr HV.out
      clear O5 HV S0 S1 S2 S3 S4 S5 L0 L1 L2 L3 hq1 hq2 hq3 hq4
      dsimp only [List.length_cons, List.length_nil, sv] at O6
      generalize hW5 : q4.alloc (.cells #[.string ⟨(dg s).toArray⟩, .string ⟨(dg r).toArray⟩, .string ⟨(dg root).toArray⟩, .string ⟨(dg chain).toArray⟩] 9) = W5 at *
      clear hW5
      go_wp2
      go_loopw [4, 26] (fun v i wr => ∃ q : Nat, q ≤ n ∧ i = .int .i64 q ∧ OwnX 9 w1.heap.size wr v (([s, r, root, chain] ++ D.take q).map fun z => sv (dg z)) ∧ Below w1.heap.size w1 wr) (fun _ i _ => n - (intOf i).toNat)
      case atStart => exact ⟨0, Nat.zero_le _, rfl, O6, T5⟩
      case round =>
        obtain ⟨q, hq, rfl, OR, TR⟩ := hrel
        by_cases hlt : q < n
        · obtain ⟨b1, o1, z, rfl, g1, c1, HX⟩ := l1.at1b TR (Nat.le_refl _) hlt
          have hz := HK.out.b z (by rw [← HX.out]; exact getD_mem (by dsimp only; rw [HN.out]; exact hlt))
          have z0 := hz.1
          have z1 : z ≤ 9223372036854775807 := by omega
          have LR := KL.out _ TR
          have HT : Hid (([s, r, root, chain] ++ D.take q).map (fun z => sv (dg z)) ++ [sv (dg z)] = ([s, r, root, chain] ++ D.take (q + 1)).map fun z => sv (dg z)) := by
            show _ = _
            have hqD : q < D.length := by rw [HN.out]; exact hlt
            rw [List.take_add_one, List.getElem?_eq_getElem hqD, Option.toList_some, ← List.append_assoc, List.map_append (l₂ := [D[q]]), ← HX.out, List.getD_eq_getElem?_getD, List.getElem?_eq_getElem hqD]
            rfl
          clear hz
          go_wp2_with (first | (go_at_call 39; refine (itoa_calls z z0 z1 _ LR).mono ?_; rintro e q6 ⟨rfl, hq6⟩; have T7 := hq6.alloc hq6.size (.cells #[.string ⟨(dg z).toArray⟩] 9); have O7 := OR.below T7; have T8 := TR.trans (T7.mono TR.size)) | (at_builtin; refine wpList_append_x Tryz.underlying78 infoStr rfl (by decide) (by rfl) _ _ (by rfl) w1.heap.size _ _ (sv (dg z)) q6.heap.size w1 (by rfl) (by rfl) (by exact O7) (by exact cell_new _ _ _) (by rfl) (by simp; omega) (by exact T8.size) (by exact T8) ?_; intro v9 w9 O9 T9 _ _))
          go_roundw
          case rel => exact ⟨q + 1, by omega, by go_num, O9.congr HT.out, T9⟩
          case measure => simp [intOf]; omega
        · obtain rfl : q = n := by omega
          have HT : Hid (([s, r, root, chain] ++ D.take q).map (fun z => sv (dg z)) = (Ln.words ⟨s, r, root, chain, D⟩).map sv) := by
            show _ = _
            rw [← HN.out, List.take_length, Ln.words, Ln.nums, List.map_map]
            rfl
          obtain ⟨g, c, rfl, hg, LS⟩ := (OR.congr HT.out).strs (by rw [Ln.words_len]; omega)
          have hsh := HK.out.short
          rw [Ln.text, List.length_append] at hsh
          have hwl : 0 < (Ln.words ⟨s, r, root, chain, D⟩).length := by rw [Ln.words_len]; omega
          have hwm : (Ln.words ⟨s, r, root, chain, D⟩).length ≤ 140737488355328 := by rw [Ln.words_len]; dsimp only; rw [HN.out]; omega
          have hjl : (Lib.join (Ln.words ⟨s, r, root, chain, D⟩) [32]).length ≤ 140737488355328 := by unfold Ln.line at hsh; omega
          have hcat : ¬ 9223372036854775807 < (⟨(Lib.join (Ln.words ⟨s, r, root, chain, D⟩) [32]).toArray⟩ : ByteArray).size + 1 := by rw [sz_arr]; omega
          clear OR HT hsh
          generalize (Ln.words ⟨s, r, root, chain, D⟩).length = M at *
          go_wp2_with (go_at_call 41; refine (join_calls g 0 M c _ 32 _ LS hwl hjl hwm).mono ?_; rintro e q7 ⟨rfl, hq7⟩)
          go_ret2
          refine ⟨.inl ⟨HK.out, ?_⟩, hb1.trans ((TR.trans (hq7.mono TR.size)).mono hb1.size)⟩
          show Ending.returned (.tuple #[.string (⟨(Lib.join (Ln.words ⟨s, r, root, chain, D⟩) [32]).toArray⟩ ++ ⟨#[10]⟩), .int .i64 0]) = _
          rw [cat_arr]
          rfl
end Go.Proofs.YtfcnnolpcnacoaaGreatDoor.Fx
