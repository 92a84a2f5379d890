/- What coachref.Pieces and whole return, whatever text lies there. -/
import Derived.Test.YtfcnnolpcnacoaaDoorStE
namespace Go.Proofs.YtfcnnolpcnacoaaDoor.Fx
open Go.RowKit

theorem wordsOf_snoc (b : UInt8) (l : List UInt8) (c : UInt8) : wordsOf b (l ++ [c]) = if c = b then wordsOf b l ++ [[]] else (wordsOf b l).dropLast ++ [(wordsOf b l).getLastD [] ++ [c]] := by
  unfold wordsOf
  rw [ps_snoc, psStep]
  split
  · simp
  · simp
theorem byte_at {S : ByteArray} {s : List UInt8} (hS : S.data.toList = s) {q : Nat} (h : q < S.size) : ∃ hq : q < s.length, S[q]'h = s[q] := by
  subst hS
  exact ⟨h, rfl⟩
theorem ext_one {S : ByteArray} {s : List UInt8} (hS : S.data.toList = s) {q : Nat} (h : q < s.length) : S.extract q (q + 1) = ⟨#[s[q]]⟩ := by
  subst hS
  apply Go.WideShapes.bytes_inj
  rw [Lib.extract_data]
  apply List.ext_getElem?
  intro j
  rcases j with _ | j
  · simp
  · simp
    omega

set_option maxRecDepth 100000 in
set_option maxHeartbeats 3200000 in
theorem pieces_calls (S : ByteArray) (s : List UInt8) (w : World) (hS : Hid (S.data.toList = s)) (hs : S.size ≤ 1048576) :
    Calls Tryd.prog 33 #[.string S, .int .u8 32] w fun e w' => ∃ g n c, e = .returned (.slice (some ⟨g, 0, none⟩) n c) ∧ LstS w' (some ⟨g, 0, none⟩) n c (wordsOf 32 s) ∧ Below w.heap.size w w' := by
  have hsl : s.length = S.size := by rw [← hS.out]; rfl
  have O0 : OwnX 9 w.heap.size (w.alloc (.cells #[.string ⟨#[]⟩] 9)) (.slice (some ⟨w.heap.size, 0, none⟩) 1 1) ((wordsOf 32 (s.take 0)).map sv) := OwnX.lits 9 w [.string ⟨#[]⟩] (by simp)
  have HWl : Hid (∀ q, (wordsOf 32 (s.take q)).length ≤ S.size + 1) := fun q => by
    have h := (words_short 32 (s.take q)).1
    have h2 : (s.take q).length ≤ s.length := by rw [List.length_take]; omega
    omega
  have HWp : Hid (∀ q, 0 < (wordsOf 32 (s.take q)).length) := fun q => by simp [wordsOf]
  go_enter Tryd.func33, Tryd.ntmps33
  go_wp2
  go_loopw [5, 6] (fun v i wr => ∃ q : Nat, q ≤ S.size ∧ i = .int .i64 q ∧ OwnX 9 w.heap.size wr v ((wordsOf 32 (s.take q)).map sv) ∧ Below w.heap.size w wr) (fun _ i _ => S.size - (intOf i).toNat)
  case atStart => exact ⟨0, Nat.zero_le _, rfl, O0, (Below.refl _ _).alloc (Nat.le_refl _) _⟩
  case round =>
    obtain ⟨q, hq, rfl, OR, TR⟩ := hrel
    by_cases hlt : q < S.size
    · have q0 : (0 : Int) ≤ (q : Int) := by omega
      have q1 : (q : Int) < (S.size : Int) := by omega
      obtain ⟨hqs, hb⟩ := byte_at hS.out hlt
      have HTk : Hid (s.take (q + 1) = s.take q ++ [s[q]]) := by show _ = _; rw [List.take_add_one, List.getElem?_eq_getElem hqs, Option.toList_some]
      have HX := Lib.hid (ext_one hS.out hqs)
      generalize s[q] = c at *
      have hwl := HWl.out q
      have hwp := HWp.out q
      by_cases hc : c = 32
      · have hcb : ((S[q].toNat : Int) == 32) = true := by rw [hb, hc]; rfl
        have HN : Hid ((wordsOf 32 (s.take q)).map sv ++ [.string ⟨#[]⟩] = (wordsOf 32 (s.take (q + 1))).map sv) := by
          show _ = _
          rw [HTk.out, wordsOf_snoc, if_pos hc, List.map_append]
          rfl
        have T1 : Below wr.heap.size wr (wr.alloc (.cells #[.string ⟨#[]⟩] 9)) := (Below.refl _ _).alloc (Nat.le_refl _) _
        have O1 := OR.below T1
        have T2 := TR.trans (T1.mono TR.size)
        have hml : ((wordsOf 32 (s.take q)).map sv).length = (wordsOf 32 (s.take q)).length := List.length_map _
        clear hb hc
        go_wp2_with (at_builtin; refine wpList_append_x Tryd.underlying59 infoStr rfl (by decide) (by rfl) _ _ (by rfl) w.heap.size _ ((wordsOf 32 (s.take q)).map sv) (.string ⟨#[]⟩) wr.heap.size w (by rfl) (by rfl) (by exact O1) (by exact cell_new _ _ _) (by rfl) (by rw [hml]; omega) (by exact T2.size) (by exact T2) ?_; intro v9 w9 O9 T9 _ _)
        go_roundw
        case rel => exact ⟨q + 1, by omega, by go_num, O9.congr HN.out, T9⟩
        case measure => simp [intOf]; omega
      · have hcb : ((S[q].toNat : Int) == 32) = false := by
          rw [hb, beq_eq_false_iff_ne]
          intro e
          apply hc
          apply UInt8.toNat_inj.1
          have : ((32 : UInt8).toNat : Int) = 32 := rfl
          omega
        obtain ⟨g, cp, rfl, hg, hgl, hcap, hcells⟩ := OR.row (by simpa using hwp)
        have hml : ((wordsOf 32 (s.take q)).map sv).length = (wordsOf 32 (s.take q)).length := List.length_map _
        obtain ⟨M, hM⟩ : ∃ M, (wordsOf 32 (s.take q)).length = M + 1 := ⟨(wordsOf 32 (s.take q)).length - 1, by omega⟩
        obtain ⟨N, HNN⟩ : ∃ N, Hid (((wordsOf 32 (s.take q)).map sv).length = N) := ⟨_, rfl⟩
        have hNM : N = M + 1 := by rw [← HNN.out, hml, hM]
        obtain ⟨L, HL⟩ : ∃ L : List UInt8, Hid ((wordsOf 32 (s.take q)).getLastD [] = L) := ⟨_, rfl⟩
        have hsetw : (wordsOf 32 (s.take q)).dropLast ++ [L ++ [c]] = (wordsOf 32 (s.take (q + 1))) := by rw [HTk.out, wordsOf_snoc, if_neg hc, HL.out]
        have hlast : (wordsOf 32 (s.take q))[M]? = some L := by
          rw [← HL.out, List.getLastD_eq_getLast?, List.getLast?_eq_getElem?, hM, Nat.add_sub_cancel]
          cases h : (wordsOf 32 (s.take q))[M]? with
          | none => rw [List.getElem?_eq_none_iff] at h; omega
          | some x => rfl
        have HSet : Hid (((wordsOf 32 (s.take q)).map sv).set M (sv (L ++ [c])) = (wordsOf 32 (s.take (q + 1))).map sv) := by
          show _ = _
          rw [← hsetw, ← List.map_set]
          congr 1
          apply List.ext_getElem?
          intro j
          rw [List.getElem?_set]
          by_cases hj : M = j
          · subst hj
            rw [if_pos rfl, if_pos (by omega), List.getElem?_append_right (by simp; omega)]
            simp [hM]
          · rw [if_neg hj]
            by_cases hj2 : j < M
            · rw [List.getElem?_append_left (by simp; omega), List.getElem?_dropLast, if_pos (by omega)]
            · rw [List.getElem?_eq_none (by omega), List.getElem?_eq_none (by simp; omega)]
        have cM : wr.cell? ⟨g, M, none⟩ = some (sv L) := hcells M _ (by rw [List.getElem?_map, hlast]; rfl)
        have fM : wr.frozen? ⟨g, M, none⟩ = false := World.ownsRow.frozenAt (show wr.ownsRow w.heap.size 9 1 (.slice (some ⟨g, 0, none⟩) ((wordsOf 32 (s.take q)).map sv).length cp) ((wordsOf 32 (s.take q)).map sv).length ((wordsOf 32 (s.take q)).map sv) from OR) M
        have OS := fun u => World.ownsRow.stored (show wr.ownsRow w.heap.size 9 1 (.slice (some ⟨g, 0, none⟩) ((wordsOf 32 (s.take q)).map sv).length cp) ((wordsOf 32 (s.take q)).map sv).length ((wordsOf 32 (s.take q)).map sv) from OR) M u
        have HOS : Hid (OwnX 9 w.heap.size (wr.setCell ⟨g, M, none⟩ (sv (L ++ [c]))) (.slice (some ⟨g, 0, none⟩) N cp) ((wordsOf 32 (s.take (q + 1))).map sv)) := by
          have h := (OS (sv (L ++ [c]))).1
          rw [HSet.out, HNN.out] at h
          unfold OwnX
          rw [← HSet.out, List.length_set, HNN.out, HSet.out]
          exact h
        have TS : Below w.heap.size w (wr.setCell ⟨g, M, none⟩ (sv (L ++ [c]))) := TR.setCell hg _
        rw [HNN.out] at hcap
        have hLl : L.length ≤ S.size := by
          have h := (words_short 32 (s.take q)).2 M
          have h2 : (s.take q).length ≤ s.length := by rw [List.length_take]; omega
          rw [List.getD_eq_getElem?_getD, hlast] at h
          simp at h
          omega
        obtain ⟨LB, HLB⟩ : ∃ B : ByteArray, Hid ((⟨L.toArray⟩ : ByteArray) = B) := ⟨_, rfl⟩
        obtain ⟨Q1, HQ1⟩ : ∃ Q, Hid (q + 1 = Q) := ⟨_, rfl⟩
        have hq1 : Q1 = q + 1 := HQ1.out.symm
        have HXc : Hid (S.extract q Q1 = ⟨#[c]⟩) := by show _ = _; rw [hq1]; exact HX.out
        obtain ⟨CB, HCB⟩ : ∃ B : ByteArray, Hid ((⟨#[c]⟩ : ByteArray) = B) := ⟨_, rfl⟩
        have x1 : S.extract q Q1 = CB := by rw [HXc.out]; exact HCB.out
        have hcs : CB.size = 1 := by rw [← HCB.out]; rfl
        have hLs : LB.size = L.length := by rw [← HLB.out]; rfl
        have HRes : Hid (Value.string (LB ++ CB) = sv (L ++ [c])) := by show _ = _; rw [← HLB.out, ← HCB.out, cat_arr]; rfl
        have w1 : IntKind.i64.wrap ((N : Int) - 1) = (M : Int) := by rw [wrap_in _ (by omega) (by omega)]; omega
        have w2 : IntKind.i64.wrap ((q : Int) + 1) = (Q1 : Int) := by rw [wrap_in _ (by omega) (by omega)]; omega
        have b0 : (0 : Int) ≤ (M : Int) := by omega
        have b1 : (M : Int) < (N : Int) := by omega
        have b2 : M < N := by omega
        have b3 : (q : Int) ≤ (Q1 : Int) := by omega
        have b4 : (Q1 : Int) ≤ (S.size : Int) := by omega
        have b5 : q ≤ Q1 := by omega
        have b6 : Q1 ≤ S.size := by omega
        have b7 : ¬ 9223372036854775807 < LB.size + CB.size := by omega
        have b8 : ¬ 9223372036854775807 < LB.size + 1 := by omega
        rw [sv, HLB.out] at cM
        rw [HNN.out]
        have hQle : Q1 ≤ S.size := b6
        clear hb hc OS hsetw hlast hcells hwl hwp hM OR hml hNM hq1 hLs
        go_wp2
        go_region
        all_goals
          rw [HRes.out]
          go_wp2
          go_roundw
          case rel => exact ⟨Q1, hQle, by rw [← HQ1.out], by rw [← HQ1.out]; exact HOS.out, Below.drew TS⟩
          case measure => simp [intOf]; have := HQ1.out; omega
    · obtain rfl : q = S.size := by omega
      have hwp := HWp.out S.size
      rw [List.take_of_length_le (by omega)] at OR hwp
      obtain ⟨g, cp, rfl, hg, LS⟩ := OR.strs hwp
      go_wp2
      go_ret
      exact ⟨g, _, cp, rfl, LS, TR⟩

/-- What digits tell. -/
def valN (l : List UInt8) : Nat := l.foldl (fun a c => a * 10 + (c.toNat - 48)) 0
theorem valN_snoc (l : List UInt8) (c : UInt8) : valN (l ++ [c]) = valN l * 10 + (c.toNat - 48) := by simp [valN]
def WholeR (l : List UInt8) (e : Ending) : Prop :=
  (∃ u : Nat, u < 10000000000000000000 ∧ l = Lib.decDigits u ∧ e = .returned (.tuple #[.int .u64 u, .bool true])) ∨ ((∀ u : Nat, u < 10000000000000000000 → l ≠ Lib.decDigits u) ∧ ∃ z, e = .returned (.tuple #[.int .u64 z, .bool false]))
theorem dec_val (u : Nat) : valN (Lib.decDigits u) = u := by
  induction u using Nat.strongRecOn with
  | _ u ih =>
    rw [Lib.decDigits]
    split
    · rename_i h
      show 0 * 10 + ((UInt8.ofNat (48 + u)).toNat - 48) = u
      rw [digit_toNat h]
      omega
    · rw [valN_snoc, ih (u / 10) (by omega), digit_toNat (by omega)]
      omega

set_option maxRecDepth 100000 in
set_option maxHeartbeats 400000 in
theorem whole_calls (S : ByteArray) (s : List UInt8) (w : World) (hS : Hid (S.data.toList = s)) (hs : S.size ≤ 9223372036854775807) (hL : LD w) :
    Calls Tryd.prog 34 #[.string S] w fun e w' => WholeR s e ∧ Below w.heap.size w w' := by
  have hsl : s.length = S.size := by rw [← hS.out]; rfl
  go_enter Tryd.func34, Tryd.ntmps34
  go_wp2
  go_loopw [4, 5] (fun v i wr => ∃ (q : Nat) (z : Int), q ≤ S.size ∧ q ≤ 20 ∧ v = .int .u64 z ∧ i = .int .i64 q ∧ Hid ((q ≤ 19 → z = (valN (s.take q) : Int) ∧ valN (s.take q) < 10 ^ q) ∧ (0 ≤ z ∧ z < 18446744073709551616) ∧ ∀ j (hj : j < s.length), j < q → 48 ≤ s[j].toNat ∧ s[j].toNat ≤ 57) ∧ wr = w) (fun _ i _ => 20 - (intOf i).toNat)
  case atStart => exact ⟨0, 0, Nat.zero_le _, by omega, rfl, rfl, ⟨fun _ => ⟨rfl, by simp [valN]⟩, by omega, fun j _ hj => by omega⟩, rfl⟩
  case round =>
    obtain ⟨q, z, hq, hq20, rfl, rfl, HR, hw⟩ := hrel
    replace hw := hw.symm
    subst hw
    by_cases hlt : q < S.size ∧ q < 20
    · obtain ⟨h1, h2⟩ := hlt
      have q0 : (0 : Int) ≤ (q : Int) := by omega
      have q1 : (q : Int) < (S.size : Int) := by omega
      have q2 : (q : Int) < 20 := by omega
      obtain ⟨hqs, hb⟩ := byte_at hS.out h1
      have HTk : Hid (s.take (q + 1) = s.take q ++ [s[q]]) := by show _ = _; rw [List.take_add_one, List.getElem?_eq_getElem hqs, Option.toList_some]
      by_cases hd : 48 ≤ s[q].toNat ∧ s[q].toNat ≤ 57
      · have d0 : (48 : Int) ≤ (S[q].toNat : Int) := by rw [hb]; omega
        have d1 : (S[q].toNat : Int) ≤ 57 := by rw [hb]; omega
        have HN : Hid ((q + 1 ≤ 19 → IntKind.u64.wrap (IntKind.u64.wrap (IntKind.u64.wrap (z * 10) + (S[q].toNat : Int)) - 48) = (valN (s.take (q + 1)) : Int) ∧ valN (s.take (q + 1)) < 10 ^ (q + 1)) ∧ (0 ≤ IntKind.u64.wrap (IntKind.u64.wrap (IntKind.u64.wrap (z * 10) + (S[q].toNat : Int)) - 48) ∧ IntKind.u64.wrap (IntKind.u64.wrap (IntKind.u64.wrap (z * 10) + (S[q].toNat : Int)) - 48) < 18446744073709551616) ∧ ∀ j (hj : j < s.length), j < q + 1 → 48 ≤ s[j].toNat ∧ s[j].toNat ≤ 57) := by
          refine ⟨fun h => ?_, ?_, fun j hj hjq => ?_⟩
          · obtain ⟨e1, e2⟩ := HR.out.1 (by omega)
            have hp : 10 ^ q ≤ 1000000000000000000 := Nat.le_trans (Nat.pow_le_pow_right (by decide) (show q ≤ 18 by omega)) (by decide)
            rw [HTk.out, valN_snoc, Nat.pow_succ, IntKind.wrap_u64, IntKind.wrap_u64, IntKind.wrap_u64, hb]
            constructor <;> omega
          · rw [IntKind.wrap_u64]; omega
          · by_cases e : j = q
            · subst e; exact hd
            · exact HR.out.2.2 j hj (by omega)
        clear hb hd
        go_wp2
        go_roundw
        case rel => exact ⟨q + 1, _, by omega, by omega, by trivial, by go_num, HN, by trivial⟩
        case measure => simp [intOf]; omega
      · have HE : Hid (∀ u : Nat, u < 10000000000000000000 → s ≠ Lib.decDigits u) := fun u _ e => by
          have hm : s[q] ∈ Lib.decDigits u := by rw [← e]; exact List.getElem_mem hqs
          exact hd (dec_digit u _ hm)
        by_cases hd0 : (S[q].toNat : Int) < 48
        · clear hb hd
          go_wp2
          go_ret2
          exact ⟨.inr ⟨HE.out, _, rfl⟩, Below.refl _ _⟩
        · have hd1 : 57 < (S[q].toNat : Int) := by rw [hb] at hd0 ⊢; omega
          clear hb hd
          go_wp2
          go_ret2
          exact ⟨.inr ⟨HE.out, _, rfl⟩, Below.refl _ _⟩
    · by_cases h19 : S.size ≤ 19
      · obtain rfl : q = S.size := by omega
        obtain ⟨h1, h2, h3⟩ := HR.out
        obtain ⟨e1, e2⟩ := h1 h19
        have hsv : s.take S.size = s := List.take_of_length_le (by omega)
        rw [hsv] at e1 e2
        have hp : 10 ^ S.size ≤ 10000000000000000000 := Nat.le_trans (Nat.pow_le_pow_right (by decide) h19) (by decide)
        have FM := fmtu_calls z h2.1 h2.2 w hL
        have hdg : dg z = Lib.decDigits (valN s) := by unfold dg; rw [e1]; rfl
        rw [hdg] at FM
        obtain ⟨F, HF⟩ : ∃ F : ByteArray, Hid ((⟨(Lib.decDigits (valN s)).toArray⟩ : ByteArray) = F) := ⟨_, rfl⟩
        rw [HF.out] at FM
        have HFM := Lib.hid FM
        have l1 : ¬ (S.size : Int) < (S.size : Int) := by omega
        have l2 : (S.size : Int) ≤ 19 := by omega
        have HZ : Hid (z = (valN s : Int) ∧ valN s < 10000000000000000000) := ⟨e1, by omega⟩
        by_cases heq : F = S
        · have hq := str_eq heq
          have HG : Hid (s = Lib.decDigits (valN s)) := by
            show _ = _
            have : (⟨(Lib.decDigits (valN s)).toArray⟩ : ByteArray).data.toList = s := by rw [HF.out, heq]; exact hS.out
            exact this.symm
          clear FM heq h1 h2 h3 e1 e2 hsv hp hdg hlt hL
          go_wp2_with (go_at_call 19; refine HFM.out.mono ?_; rintro e w1 ⟨rfl, hw1⟩)
          go_ret2
          refine ⟨.inl ⟨valN s, HZ.out.2, HG.out, ?_⟩, hw1⟩
          rw [HZ.out.1]
          rfl
        · have hq := str_ne heq
          have HE : Hid (∀ u : Nat, u < 10000000000000000000 → s ≠ Lib.decDigits u) := fun u _ e => heq (by
            rw [← HF.out]
            apply Go.WideShapes.bytes_inj
            show Lib.decDigits (valN s) = S.data.toList
            rw [hS.out, e, dec_val])
          clear FM heq h1 h2 h3 e1 e2 hsv hp hdg hlt hL
          go_wp2_with (go_at_call 19; refine HFM.out.mono ?_; rintro e w1 ⟨rfl, hw1⟩)
          go_ret2
          exact ⟨.inr ⟨HE.out, _, rfl⟩, hw1⟩
      · have HE : Hid (∀ u : Nat, u < 10000000000000000000 → s ≠ Lib.decDigits u) := fun u hu e => by
          have h := dec_short (u := u) (k := 19) (by omega) (by omega)
          rw [← e] at h
          omega
        obtain rfl : q = 20 := by omega
        have l2 : ¬ (S.size : Int) ≤ 19 := by omega
        clear hlt
        go_wp2
        all_goals
          go_ret2
          exact ⟨.inr ⟨HE.out, _, rfl⟩, Below.refl _ _⟩
end Go.Proofs.YtfcnnolpcnacoaaDoor.Fx
