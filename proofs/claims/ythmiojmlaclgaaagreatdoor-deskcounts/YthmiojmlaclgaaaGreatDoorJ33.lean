/- How long lines and words are. -/
import Derived.Test.YthmiojmlaclgaaaGreatDoorJ32
import Derived.Test.YthmiojmlaclgaaaGreatDoorJ23
import Derived.Test.YthmiojmlaclgaaaGreatDoorJ24
import Derived.Lib.AtoiAllCases
import Derived.Lib.ItoaMem
import Derived.Test.YthmiojmlaclgaaaGreatDoorJ22
namespace Go.Proofs.YthmiojmlaclgaaaGreatDoor.Fx
open Go.RowKit
theorem mem_short {b : UInt8} {l x : List UInt8} (h : x ∈ wordsOf b l) : x.length ≤ l.length := by
  obtain ⟨i, hi, rfl⟩ := List.getElem_of_mem h
  have := (words_short b l).2 i
  rw [List.getD_eq_getElem?_getD, List.getElem?_eq_getElem hi] at this
  exact this
theorem lwords_short (l : List UInt8) : (lwords l).length ≤ l.length + 1 ∧ ∀ i, ((lwords l).getD i []).length ≤ l.length := by
  refine ⟨Nat.le_trans (List.length_filter_le _ _) (words_short 32 l).1, fun i => ?_⟩
  by_cases hi : i < (lwords l).length
  · rw [List.getD_eq_getElem?_getD, List.getElem?_eq_getElem hi]
    exact mem_short (List.mem_filter.1 (show (lwords l)[i] ∈ (wordsOf 32 l).filter (fun p => !p.isEmpty) from List.getElem_mem hi)).1
  · rw [List.getD_eq_getElem?_getD, List.getElem?_eq_none (by omega)]
    exact Nat.zero_le _
theorem tline_short (s : List UInt8) (i : Nat) : ((tlines s).getD i []).length ≤ s.length := by
  by_cases hi : i < (tlines s).length
  · rw [List.getD_eq_getElem?_getD, List.getElem?_eq_getElem hi]
    have hm : (tlines s)[i] ∈ tlines s := List.getElem_mem hi
    generalize (tlines s)[i] = x at hm
    show x.length ≤ _
    unfold tlines at hm
    split at hm
    · exact mem_short (List.dropLast_subset _ hm)
    · exact mem_short hm
  · rw [List.getD_eq_getElem?_getD, List.getElem?_eq_none (by omega)]
    exact Nat.zero_le _
theorem sil_ne {ws : List (List UInt8)} (h : silB ws = false) : 1 ≤ ws.length := by
  cases ws with
  | nil => simp [silB] at h
  | cons x r => simp
theorem dLine_len {d : Dsk} (h : d.ok) (o l : List UInt8) : (dLine (d, o) l).2.length ≤ o.length + 5001 := by
  unfold dLine
  split
  · show o.length ≤ _
    omega
  · have := Out.line_short (outB_step h (lwords l))
    show (o ++ ((dStep d (lwords l)).line ++ [10])).length ≤ _
    rw [List.length_append, List.length_append]
    show _ + (_ + 1) ≤ _
    omega
theorem dLine_sil {p : Dsk × List UInt8} {l : List UInt8} (h : silB (lwords l) = true) : dLine p l = p := by unfold dLine; rw [if_pos h]
theorem dLine_not {p : Dsk × List UInt8} {l : List UInt8} (h : silB (lwords l) = false) : dLine p l = ((dStep p.1 (lwords l)).d, p.2 ++ ((dStep p.1 (lwords l)).line ++ [10])) := by unfold dLine; rw [if_neg (by rw [h]; decide)]
end Go.Proofs.YthmiojmlaclgaaaGreatDoor.Fx

/- What a desk answers to a text that is not too large. -/
namespace Go.Proofs.YthmiojmlaclgaaaGreatDoor.Fx
open Go.RowKit
def RunI (base b sb bB : Nat) (ls : List (List UInt8)) (w1 : World) (k : Nat) (wr : World) : Prop := (∃ a cap X, DkIn base wr b sb (dTo ls k).1 a cap X) ∧ Lib.IsBuilderF 38 5 base bB (Lib.byteCells (dTo ls k).2) wr ∧ (dTo ls k).2.length ≤ k * 5001 ∧ Below base w1 wr
theorem run_wstr {B b sb bB : Nat} {ls : List (List UInt8)} {w1 w5 : World} {k : Nat} {OD : Out} {a4 : Option Addr} {cap4 : Nat} {X4 : Nat → Exm} (d5 : DkIn B w5 b sb OD.d a4 cap4 X4) (B5 : Lib.IsBuilderF 38 5 B bB (Lib.byteCells (dTo ls k).2) w5) (hk3 : (dTo ls k).2.length ≤ k * 5001) (hls : OD.line.length ≤ 5000) (HT : dTo ls (k + 1) = (OD.d, (dTo ls k).2 ++ (OD.line ++ [10]))) (hk : k ≤ 200) (hlow : Below B w1 w5) :
    Calls Tryz.prog 19 #[.pointer (some ⟨bB, 0, none⟩), .string ⟨(OD.line ++ [10]).toArray⟩] w5 fun e w' => (∃ v, e = .returned (.tuple #[v, .nilIface])) ∧ Hid (RunI B b sb bB ls w1 (k + 1) w') := by
  have W0 := wstr_calls _ _ _ ⟨(OD.line ++ [10]).toArray⟩ w5 B5 (by
    have e1 : (Lib.byteCells (dTo ls k).2).length = (dTo ls k).2.length := by unfold Lib.byteCells; rw [List.length_map]
    rw [e1]
    show _ + (OD.line ++ [10]).length ≤ _
    rw [List.length_append]
    show _ + (_ + 1) ≤ _
    omega) d5.lt
  refine Calls.mono (show Calls Tryz.prog 19 _ _ _ from W0) (fun e w6 h => ⟨⟨_, h.1⟩, ?_⟩)
  obtain ⟨_, hB6, hw6, ho6⟩ := h
  show RunI _ _ _ _ _ _ _ _
  unfold RunI
  rw [HT]
  refine ⟨⟨a4, cap4, X4, ?_⟩, .inr ?_, ?_, hlow.trans hw6⟩
  · rcases B5 with h | h
    · obtain ⟨_, v, h5, _⟩ := h
      exact d5.others h5 hw6.size ho6 (d5.ldb.low hw6)
    · obtain ⟨_, v, h5, _⟩ := h
      exact d5.others h5 hw6.size ho6 (d5.ldb.low hw6)
  · have e2 : Lib.byteCells ((dTo ls k).2 ++ (OD.line ++ [10])) = Lib.byteCells (dTo ls k).2 ++ Lib.strCells ⟨(OD.line ++ [10]).toArray⟩ := by
      unfold Lib.byteCells Lib.strCells
      rw [List.map_append]
    rw [e2]
    exact hB6
  · show ((dTo ls k).2 ++ (OD.line ++ [10])).length ≤ _
    rw [List.length_append, List.length_append]
    show _ + (_ + 1) ≤ _
    omega
set_option maxRecDepth 100000 in
set_option maxHeartbeats 3200000 in
theorem run_good (s : List UInt8) (w : World) (hL : LD w) (hb : ¬ (65536 < s.length ∨ 200 < (tlines s).length)) :
    Calls Tryz.prog 6 #[.string ⟨s.toArray⟩] w fun e w' => e = .returned (.string ⟨(runP s).toArray⟩) ∧ Below w.heap.size w w' := by
  have LN := Lib.hid (linesOf_calls s (by omega) w hL)
  have HR : Hid (runP s = (dTo (tlines s) (tlines s).length).2) := by show _ = _; unfold runP; rw [if_neg hb]
  obtain ⟨Z, HZ⟩ : ∃ X : ByteArray, Hid ((⟨s.toArray⟩ : ByteArray) = X) := ⟨_, rfl⟩
  rw [HZ.out] at LN ⊢
  obtain ⟨V, HV⟩ : ∃ X : ByteArray, Hid ((⟨(runP s).toArray⟩ : ByteArray) = X) := ⟨_, rfl⟩
  rw [HV.out]
  rw [HR.out] at HV
  go_enter Tryz.func6, Tryz.ntmps6
  go_wp2_with fail
  refine LN.out.mono ?_
  rintro e w1 ⟨hr, hw1⟩
  rcases hr with ⟨hn, _⟩ | ⟨_, al, nl, cl, rfl, ll⟩
  · exact absurd hn hb
  have L1 := hL.below hw1 (Nat.le_refl _)
  have ND := Lib.hid (newDesk_calls w1 L1)
  have HS : Hid (∀ i, ((tlines s).getD i []).length ≤ 65536) := fun i => Nat.le_trans (tline_short s i) (by omega)
  have HN2 : Hid ((tlines s).length ≤ 200) := by show _ ≤ _; omega
  clear hb hL LN
  obtain ⟨ls, HLS⟩ : ∃ t, Hid (tlines s = t) := ⟨_, rfl⟩
  rw [HLS.out] at HS HN2 HV ll
  have hll := ll.len
  have hN2 := HN2.out
  go_wp2_with fail
  refine ND.out.mono ?_
  rintro e w2 ⟨b, sb, X, rfl, hd, hw2⟩
  go_wp2_with fail
  go_loopw [24] (fun i wr => ∃ k : Nat, k ≤ nl ∧ i = .int .i64 k ∧ Hid (RunI w1.heap.size b sb w2.heap.size ls w1 k wr)) (fun i _ => nl - (intOf i).toNat)
  case atStart =>
    refine ⟨0, Nat.zero_le _, rfl, ?_⟩
    show RunI _ _ _ _ _ _ _ _
    unfold RunI
    rw [dTo_zero]
    have hal := low_alloc w2 (.cells #[.pointer none, .slice none 0 0] 38)
    exact ⟨⟨none, 0, X, hd.below hal⟩, .inl ⟨hw2.size, .slice none 0 0, Array.getElem?_push_size, ⟨rfl, .inl ⟨rfl, rfl⟩⟩, by simp [Value.ownBlock]⟩, Nat.zero_le _, hw2.trans (hal.mono hw2.size)⟩
  case round =>
    obtain ⟨k, hk, rfl, HI⟩ := hrel
    obtain ⟨⟨a, cap, X', hk1⟩, hk2, hk3, hk4⟩ := HI.out
    by_cases hlt : k < nl
    · obtain ⟨b1, o1, rfl, g1, c1⟩ := ll.at1b hk4 (Nat.le_refl _) hlt
      have WO := Lib.hid (dwordsOf_calls (ls.getD k []) (HS.out k) wr hk1.ld)
      obtain ⟨Y, HY⟩ : ∃ X : ByteArray, Hid ((⟨(ls.getD k []).toArray⟩ : ByteArray) = X) := ⟨_, rfl⟩
      rw [HY.out] at c1 WO
      go_wp2_with fail
      refine WO.out.mono ?_
      rintro e w3 ⟨a3, n3, c3, rfl, l3, hw3⟩
      have hkl : k < ls.length := by omega
      have SI := Lib.hid (isSilent_calls a3 n3 c3 _ w3 l3)
      have d3 := hk1.below hw3
      have B3 := isBuilder_ch (DkCh.ofBelow hw3 hk1.lt) hk2
      have e3 := hk4.trans (hw3.mono hk1.lt)
      have hw3s := hw3.size
      by_cases hsl : silB (lwords (ls.getD k [])) = true
      · rw [hsl] at SI
        have HI2 : Hid (RunI w1.heap.size b sb w2.heap.size ls w1 (k + 1) w3) := by
          show RunI _ _ _ _ _ _ _ _
          unfold RunI
          rw [dTo_succ hkl, dLine_sil hsl]
          exact ⟨⟨a, cap, X', d3⟩, B3, by omega, e3⟩
        clear HI hk1 hk2 hk3 hk4 d3 B3 hsl
        go_wp2_with fail
        refine SI.out.mono ?_
        rintro e w' ⟨rfl, hwE⟩
        have hwF := hwE.symm
        subst hwF
        go_wp2_with fail
        go_roundw
        case rel => exact ⟨k + 1, by omega, by go_num, HI2⟩
        case measure => simp [intOf]; omega
      · have hsl : silB (lwords (ls.getD k [])) = false := by simpa using hsl
        rw [hsl] at SI
        have hws := lwords_short (ls.getD k [])
        have hlk := HS.out k
        have hn3 := l3.len
        have hws1 := hws.1
        have h1n := sil_ne hsl
        have DO := Lib.hid (do_calls d3 a3 n3 c3 _ l3 (by omega) (by omega) (fun i => Nat.le_trans (hws.2 i) (by omega)))
        have HOB := Lib.hid (outB_step hk1.ok (lwords (ls.getD k [])))
        have HT : Hid (dTo ls (k + 1) = ((dStep (dTo ls k).1 (lwords (ls.getD k []))).d, (dTo ls k).2 ++ ((dStep (dTo ls k).1 (lwords (ls.getD k []))).line ++ [10]))) := by show _ = _; rw [dTo_succ hkl, dLine_not hsl]
        obtain ⟨OD, HOD⟩ : ∃ t, Hid (dStep (dTo ls k).1 (lwords (ls.getD k [])) = t) := ⟨_, rfl⟩
        rw [HOD.out] at DO HOB HT
        clear hws HI
        go_wp2_with fail
        refine SI.out.mono ?_
        rintro e w' ⟨rfl, hwE⟩
        have hwF := hwE.symm
        subst hwF
        go_wp2_with fail
        refine DO.out.mono ?_
        rintro e w4 ⟨rfl, ⟨a4, cap4, X4, d4⟩, ch4⟩
        obtain ⟨LB, HLB0⟩ : ∃ X : ByteArray, (⟨(OD.line ++ [10]).toArray⟩ : ByteArray) = X := ⟨_, rfl⟩
        have HLB := Lib.hid HLB0
        clear HLB0
        have AN : Hid (Calls Tryz.prog 14 #[.string ⟨OD.told.toArray⟩, .int .i64 OD.e] w4 fun e w' => e = .returned (.string LB) ∧ Below w4.heap.size w4 w') := by
          have h := answer_calls OD.told (Nat.le_trans HOB.out.1 (by omega)) OD.e HOB.out.2.1 HOB.out.2.2 w4 d4.ld
          rw [Out.line_is, HLB.out] at h
          exact h
        go_wp2_with fail
        refine AN.out.mono ?_
        rintro e w5 ⟨rfl, hw5⟩
        have ch5 := ch4.trans (DkCh.ofBelow hw5 d4.lt)
        have d5 := d4.below hw5
        have B5 := isBuilder_ch ch5 B3
        have hls := Out.line_short HOB.out
        have WS := Lib.hid (run_wstr d5 B5 hk3 hls HT.out (by omega) (e3.trans ch5.low))
        rw [HLB.out] at WS
        clear hk3 hls d5 B5 ch5 e3 hk1 hk2 hk4
        go_wp2_with fail
        refine WS.out.mono ?_
        rintro e w6 ⟨⟨v6, rfl⟩, HI6⟩
        go_wp2_with fail
        go_roundw
        case rel => exact ⟨k + 1, by omega, by go_num, HI6⟩
        case measure => simp [intOf]; omega
    · obtain rfl : k = nl := by omega
      have BS : Hid (Calls Tryz.prog 20 #[.pointer (some ⟨w2.heap.size, 0, none⟩)] wr fun e w' => e = .returned (.string V) ∧ Below w1.heap.size wr w') := by
        have BS0 := bstr_calls _ _ _ wr hk2 hk1.lt
        rw [hll] at HV
        rw [HV.out] at BS0
        exact BS0.mono (fun e w' h => ⟨h.1, h.2.2⟩)
      go_wp2_with fail
      refine BS.out.mono ?_
      rintro e w6 ⟨rfl, hw6⟩
      go_wp2_with fail
      go_ret
      exact ⟨rfl, hw1.trans ((hk4.trans hw6).mono hw1.size)⟩
/-- What a desk answers to any text. -/
theorem run_calls (s : List UInt8) (hs : s.length ≤ 9223372036854775807) (w : World) (hL : LD w) :
    Calls Tryz.prog 6 #[.string ⟨s.toArray⟩] w fun e w' => e = .returned (.string ⟨(runP s).toArray⟩) ∧ Below w.heap.size w w' := by
  by_cases hb : 65536 < s.length ∨ 200 < (tlines s).length
  · exact run_large s hs w hL hb
  · exact run_good s w hL hb
end Go.Proofs.YthmiojmlaclgaaaGreatDoor.Fx

/- Plain: answers have no byte 10 and one is put behind each; what follows is not seen in what was answered. -/
namespace Go.Proofs.YthmiojmlaclgaaaGreatDoor.Fx
open Go.RowKit

theorem itoa_not10 (z : Int) : (10 : UInt8) ∉ Lib.itoa z := by
  unfold Lib.itoa
  have key : ∀ u, (10 : UInt8) ∉ Lib.decDigits u := fun u h => by
    have := dec_digit _ _ h
    revert this
    decide
  split
  · intro h
    rcases List.mem_cons.1 h with h | h
    · revert h; decide
    · exact key _ h
  · exact key _
theorem errA_not10 (e : Int) : (10 : UInt8) ∉ errA e := by
  unfold errA
  intro h
  rcases List.mem_append.1 h with h | h
  · revert h; decide
  · exact itoa_not10 e h
theorem okA_not10 : (10 : UInt8) ∉ okA := by decide
theorem Out.not10 {o : Out} (h : (10 : UInt8) ∉ o.told) : (10 : UInt8) ∉ o.line := by
  unfold Out.line
  split
  · exact h
  · exact errA_not10 _
theorem dNum_not10 (n e : Int) (d : Dsk) : (10 : UInt8) ∉ (dNum n e d).told := by
  unfold dNum
  split
  · exact itoa_not10 n
  · exact List.not_mem_nil
theorem dTake_not10 (d : Dsk) : (10 : UInt8) ∉ (dTake d).told := by
  unfold dTake
  split
  · split
    · exact List.not_mem_nil
    · exact Ln.line_not _
  · exact List.not_mem_nil
theorem dAlone_not10 (v : List UInt8) (d : Dsk) : (10 : UInt8) ∉ (dAlone v d).told := by
  unfold dAlone
  split
  · exact dTake_not10 d
  split
  · exact okA_not10
  split
  · unfold dRepair
    exact itoa_not10 _
  split
  · exact dNum_not10 _ _ d
  split
  · exact itoa_not10 (d.T.length : Int)
  · exact List.not_mem_nil
theorem dStep_not10 (d : Dsk) (ws : List (List UInt8)) : (10 : UInt8) ∉ (dStep d ws).line := by
  apply Out.not10
  unfold dStep
  split
  · unfold dData
    split
    · exact List.not_mem_nil
    · split
      · exact List.not_mem_nil
      · exact okA_not10
  split
  · exact dAlone_not10 _ d
  split
  · exact List.not_mem_nil
  · unfold dNums
    split
    · unfold dConf
      split
      · exact okA_not10
      · exact List.not_mem_nil
    split
    · exact okA_not10
    split
    · exact dNum_not10 _ _ d
    · exact List.not_mem_nil

/-! Every desk is as it should be. -/
theorem dStep_ok {d : Dsk} (h : d.ok) (ws : List (List UInt8)) : (dStep d ws).d.ok := by
  unfold dStep
  split
  · unfold dData
    split
    · exact h
    · split
      · exact h
      · exact ⟨h.c, h.s, by show (d.ex ++ [_]).length ≤ 16; rw [List.length_append]; simp; omega, h.T, h.sy⟩
  split
  · unfold dAlone
    split
    · unfold dTake
      split
      · split
        · exact h
        · exact ⟨h.c, h.s, h.n, by show (d.T ++ _).length ≤ 4096; rw [List.length_append]; omega, by show d.sy ≤ (d.T ++ _).length; rw [List.length_append]; have := h.sy; omega⟩
      · exact h
    split
    · exact ⟨h.c, h.s, h.n, h.T, Nat.le_refl _⟩
    split
    · have hF := flat_le d.T
      have hT := h.T
      exact ⟨h.c, h.s, h.n, by show (d.T.take _).length ≤ 4096; rw [List.length_take]; omega, by show (flatLn (begL d.T)).length ≤ (d.T.take (flatLn (begL d.T)).length).length; rw [List.length_take]; omega⟩
    split
    · unfold dAudit
      rw [dNum_d]
      exact h
    split
    · exact h
    · exact h
  split
  · exact h
  · rename_i z hz
    unfold dNums
    split
    · unfold dConf
      split
      · rename_i hc
        have hb := numsO_bd hz 3
        refine ⟨?_, ?_, h.n, h.T, h.sy⟩
        · show cfgB (cfgOf z) = true
          cases e : cfgB (cfgOf z) with
          | true => rfl
          | false => rw [cfgI_no e] at hc; cases hc
        · show 0 ≤ max (z.getD 3 0) 0 ∧ max (z.getD 3 0) 0 < 18446744073709551616
          omega
      · exact h
    split
    · unfold dCrash
      have hT := h.T
      have hcr := crN_le (z.getD 0 0) h.sy
      exact ⟨h.c, h.s, h.n, by show (d.T.take _).length ≤ 4096; rw [List.length_take]; omega, by show crN d.T.length d.sy (z.getD 0 0) ≤ (d.T.take (crN d.T.length d.sy (z.getD 0 0))).length; rw [List.length_take]; omega⟩
    split
    · unfold dLoss
      rw [dNum_d]
      exact h
    · exact h
theorem dTo_ok (ls : List (List UInt8)) : ∀ j, j ≤ ls.length → (dTo ls j).1.ok ∧ (dTo ls j).2.length ≤ j * 5001
  | 0, _ => by rw [dTo_zero]; exact ⟨d0_ok, Nat.zero_le _⟩
  | j + 1, h => by
    obtain ⟨h1, h2⟩ := dTo_ok ls j (by omega)
    rw [dTo_succ (by omega)]
    have hl := dLine_len h1 (dTo ls j).2 (ls.getD j [])
    refine ⟨?_, by have e : (dTo ls j) = ((dTo ls j).1, (dTo ls j).2) := rfl
                   rw [e]; omega⟩
    cases hs : silB (lwords (ls.getD j [])) with
    | true => rw [dLine_sil hs]; exact h1
    | false => rw [dLine_not hs]; exact dStep_ok h1 _

/-- How many of the first j lines are answered. -/
def ansN (ls : List (List UInt8)) : Nat → Nat
  | 0 => 0
  | j + 1 => ansN ls j + (if silB (lwords (ls.getD j [])) = true then 0 else 1)
theorem ansN_le (ls : List (List UInt8)) : ∀ j, ansN ls j ≤ j
  | 0 => Nat.le_refl _
  | j + 1 => by
    have := ansN_le ls j
    unfold ansN
    split <;> omega
theorem ans_count (ls : List (List UInt8)) : ∀ j, j ≤ ls.length → (dTo ls j).2.count 10 = ansN ls j ∧ ((dTo ls j).2 = [] ∨ (dTo ls j).2.getLast? = some 10)
  | 0, _ => by rw [dTo_zero]; exact ⟨rfl, .inl rfl⟩
  | j + 1, h => by
    obtain ⟨h1, h2⟩ := ans_count ls j (by omega)
    rw [dTo_succ (by omega)]
    unfold ansN
    cases hs : silB (lwords (ls.getD j [])) with
    | true => rw [dLine_sil hs]; exact ⟨h1, h2⟩
    | false =>
      rw [dLine_not hs]
      have h3 := List.count_eq_zero_of_not_mem (dStep_not10 (dTo ls j).1 (lwords (ls.getD j [])))
      refine ⟨?_, .inr ?_⟩
      · show ((dTo ls j).2 ++ ((dStep (dTo ls j).1 (lwords (ls.getD j []))).line ++ [10])).count 10 = _
        rw [List.count_append, List.count_append, h1, h3]
        rfl
      · show ((dTo ls j).2 ++ ((dStep (dTo ls j).1 (lwords (ls.getD j []))).line ++ [10])).getLast? = _
        rw [← List.append_assoc, List.getLast?_append]
        rfl

/-! What follows is not seen in what was answered. -/
theorem dTo_grow (ls : List (List UInt8)) (i : Nat) : ∀ j, i + j ≤ ls.length → (dTo ls i).2 <+: (dTo ls (i + j)).2
  | 0, _ => List.prefix_refl _
  | j + 1, h => by
    have ih := dTo_grow ls i j (by omega)
    refine ih.trans ?_
    rw [← Nat.add_assoc, dTo_succ (by omega)]
    cases hs : silB (lwords (ls.getD (i + j) [])) with
    | true => rw [dLine_sil hs]; exact List.prefix_refl _
    | false => rw [dLine_not hs]; exact List.prefix_append _ _
theorem dTo_pre {ls ms : List (List UInt8)} (h : ls <+: ms) : dTo ms ls.length = dTo ls ls.length := by
  obtain ⟨r, rfl⟩ := h
  unfold dTo
  rw [List.take_left', List.take_length]
  rfl
theorem ps_app (b : UInt8) (x y : List UInt8) : ps b (x ++ b :: y) = ((ps b x).1 ++ [(ps b x).2] ++ (ps b y).1, (ps b y).2) := by
  have e : x ++ b :: y = glue b ((ps b x).1 ++ [(ps b x).2] ++ (ps b y).1) (ps b y).2 := by
    have h1 := ps_glue b x
    have h2 := ps_glue b y
    unfold glue at *
    rw [List.map_append, List.map_append, List.flatten_append, List.flatten_append, List.append_assoc, h2]
    simp only [List.map_cons, List.map_nil, List.flatten_cons, List.flatten_nil, List.append_nil]
    rw [← List.append_assoc, h1, List.append_assoc]
    rfl
  rw [e]
  refine ps_of_glue b _ _ (fun w hw => ?_) (ps_in b y).2
  rcases List.mem_append.1 hw with hw | hw
  · rcases List.mem_append.1 hw with hw | hw
    · exact (ps_in b x).1 w hw
    · rw [List.mem_singleton] at hw
      rw [hw]
      exact (ps_in b x).2
  · exact (ps_in b y).1 w hw
theorem words_app (b : UInt8) (x y : List UInt8) : wordsOf b (x ++ b :: y) = wordsOf b x ++ wordsOf b y := by
  unfold wordsOf
  rw [ps_app]
  simp only [List.append_assoc]
theorem tlines_pre (s : List UInt8) : tlines s <+: wordsOf 10 s := by
  unfold tlines
  split
  · exact List.dropLast_prefix _
  · exact List.prefix_refl _
theorem tlines_app (x y : List UInt8) : tlines x <+: tlines (x ++ 10 :: y) := by
  have hy : ∃ r, tlines (x ++ 10 :: y) = wordsOf 10 x ++ r := by
    unfold tlines
    rw [words_app]
    split
    · exact ⟨(wordsOf 10 y).dropLast, by rw [List.dropLast_append_of_ne_nil (by unfold wordsOf; simp)]⟩
    · exact ⟨_, rfl⟩
  obtain ⟨r, hr⟩ := hy
  rw [hr]
  exact (tlines_pre x).trans (List.prefix_append _ _)
/-- A text's answers begin those of a longer one that is not too large. -/
theorem run_head {x y : List UInt8} (h : ¬ (65536 < (x ++ 10 :: y).length ∨ 200 < (tlines (x ++ 10 :: y)).length)) : runP x <+: runP (x ++ 10 :: y) := by
  have hp := tlines_app x y
  have hl := hp.length_le
  have hx : ¬ (65536 < x.length ∨ 200 < (tlines x).length) := by
    rw [List.length_append] at h
    omega
  unfold runP
  rw [if_neg h, if_neg hx, ← dTo_pre hp]
  generalize tlines (x ++ 10 :: y) = ms at *
  generalize (tlines x).length = n at *
  obtain ⟨j, hj⟩ : ∃ j, ms.length = n + j := ⟨ms.length - n, by omega⟩
  rw [hj]
  exact dTo_grow ms n j (by omega)
end Go.Proofs.YthmiojmlaclgaaaGreatDoor.Fx

/- What coachref.Pieces and whole return, whatever text lies there. -/
namespace Go.Proofs.YthmiojmlaclgaaaGreatDoor.Fx
open Go.RowKit

theorem wordsOf_snoc (b : UInt8) (l : List UInt8) (c : UInt8) : wordsOf b (l ++ [c]) = if c = b then wordsOf b l ++ [[]] else (wordsOf b l).dropLast ++ [(wordsOf b l).getLastD [] ++ [c]] := by
  unfold wordsOf
  rw [ps_snoc, psStep]
  split
  · simp
  · simp
theorem byte_at {S : ByteArray} {s : List UInt8} (hS : S.data.toList = s) {q : Nat} (h : q < S.size) : ∃ hq : q < s.length, S[q]'h = s[q] := by
  subst hS
  exact ⟨h, rfl⟩
theorem ext_one {S : ByteArray} {s : List UInt8} (hS : S.data.toList = s) {q : Nat} (h : q < s.length) : S.extract q (q + 1) = ⟨#[s[q]]⟩ := by
  subst hS
  apply Go.WideShapes.bytes_inj
  rw [Lib.extract_data]
  apply List.ext_getElem?
  intro j
  rcases j with _ | j
  · simp
  · simp
    omega

set_option maxRecDepth 100000 in
set_option maxHeartbeats 3200000 in
theorem pieces_calls (S : ByteArray) (s : List UInt8) (w : World) (hS : Hid (S.data.toList = s)) (hs : S.size ≤ 1048576) :
    Calls Tryz.prog 24 #[.string S, .int .u8 32] w fun e w' => ∃ g n c, e = .returned (.slice (some ⟨g, 0, none⟩) n c) ∧ LstS w' (some ⟨g, 0, none⟩) n c (wordsOf 32 s) ∧ Below w.heap.size w w' := by
  have hsl : s.length = S.size := by rw [← hS.out]; rfl
  have O0 : OwnX 9 w.heap.size (w.alloc (.cells #[.string ⟨#[]⟩] 9)) (.slice (some ⟨w.heap.size, 0, none⟩) 1 1) ((wordsOf 32 (s.take 0)).map sv) := OwnX.lits 9 w [.string ⟨#[]⟩] (by simp)
  have HWl : Hid (∀ q, (wordsOf 32 (s.take q)).length ≤ S.size + 1) := fun q => by
    have h := (words_short 32 (s.take q)).1
    have h2 : (s.take q).length ≤ s.length := by rw [List.length_take]; omega
    omega
  have HWp : Hid (∀ q, 0 < (wordsOf 32 (s.take q)).length) := fun q => by simp [wordsOf]
  go_enter Tryz.func24, Tryz.ntmps24
  go_wp2
  go_loopw [5, 6] (fun v i wr => ∃ q : Nat, q ≤ S.size ∧ i = .int .i64 q ∧ OwnX 9 w.heap.size wr v ((wordsOf 32 (s.take q)).map sv) ∧ Below w.heap.size w wr) (fun _ i _ => S.size - (intOf i).toNat)
  case atStart => exact ⟨0, Nat.zero_le _, rfl, O0, (Below.refl _ _).alloc (Nat.le_refl _) _⟩
  case round =>
    obtain ⟨q, hq, rfl, OR, TR⟩ := hrel
    by_cases hlt : q < S.size
    · have q0 : (0 : Int) ≤ (q : Int) := by omega
      have q1 : (q : Int) < (S.size : Int) := by omega
      obtain ⟨hqs, hb⟩ := byte_at hS.out hlt
      have HTk : Hid (s.take (q + 1) = s.take q ++ [s[q]]) := by show _ = _; rw [List.take_add_one, List.getElem?_eq_getElem hqs, Option.toList_some]
      have HX := Lib.hid (ext_one hS.out hqs)
      generalize s[q] = c at *
      have hwl := HWl.out q
      have hwp := HWp.out q
      by_cases hc : c = 32
      · have hcb : ((S[q].toNat : Int) == 32) = true := by rw [hb, hc]; rfl
        have HN : Hid ((wordsOf 32 (s.take q)).map sv ++ [.string ⟨#[]⟩] = (wordsOf 32 (s.take (q + 1))).map sv) := by
          show _ = _
          rw [HTk.out, wordsOf_snoc, if_pos hc, List.map_append]
          rfl
        have T1 : Below wr.heap.size wr (wr.alloc (.cells #[.string ⟨#[]⟩] 9)) := (Below.refl _ _).alloc (Nat.le_refl _) _
        have O1 := OR.below T1
        have T2 := TR.trans (T1.mono TR.size)
        have hml : ((wordsOf 32 (s.take q)).map sv).length = (wordsOf 32 (s.take q)).length := List.length_map _
        clear hb hc
        go_wp2_with (at_builtin; refine wpList_append_x Tryz.underlying24 infoStr rfl (by decide) (by rfl) _ _ (by rfl) w.heap.size _ ((wordsOf 32 (s.take q)).map sv) (.string ⟨#[]⟩) wr.heap.size w (by rfl) (by rfl) (by exact O1) (by exact cell_new _ _ _) (by rfl) (by rw [hml]; omega) (by exact T2.size) (by exact T2) ?_; intro v9 w9 O9 T9 _ _)
        go_roundw
        case rel => exact ⟨q + 1, by omega, by go_num, O9.congr HN.out, T9⟩
        case measure => simp [intOf]; omega
      · have hcb : ((S[q].toNat : Int) == 32) = false := by
          rw [hb, beq_eq_false_iff_ne]
          intro e
          apply hc
          apply UInt8.toNat_inj.1
          have : ((32 : UInt8).toNat : Int) = 32 := rfl
          omega
        obtain ⟨g, cp, rfl, hg, hgl, hcap, hcells⟩ := OR.row (by simpa using hwp)
        have hml : ((wordsOf 32 (s.take q)).map sv).length = (wordsOf 32 (s.take q)).length := List.length_map _
        obtain ⟨M, hM⟩ : ∃ M, (wordsOf 32 (s.take q)).length = M + 1 := ⟨(wordsOf 32 (s.take q)).length - 1, by omega⟩
        obtain ⟨N, HNN⟩ : ∃ N, Hid (((wordsOf 32 (s.take q)).map sv).length = N) := ⟨_, rfl⟩
        have hNM : N = M + 1 := by rw [← HNN.out, hml, hM]
        obtain ⟨L, HL⟩ : ∃ L : List UInt8, Hid ((wordsOf 32 (s.take q)).getLastD [] = L) := ⟨_, rfl⟩
        have hsetw : (wordsOf 32 (s.take q)).dropLast ++ [L ++ [c]] = (wordsOf 32 (s.take (q + 1))) := by rw [HTk.out, wordsOf_snoc, if_neg hc, HL.out]
        have hlast : (wordsOf 32 (s.take q))[M]? = some L := by
          rw [← HL.out, List.getLastD_eq_getLast?, List.getLast?_eq_getElem?, hM, Nat.add_sub_cancel]
          cases h : (wordsOf 32 (s.take q))[M]? with
          | none => rw [List.getElem?_eq_none_iff] at h; omega
          | some x => rfl
        have HSet : Hid (((wordsOf 32 (s.take q)).map sv).set M (sv (L ++ [c])) = (wordsOf 32 (s.take (q + 1))).map sv) := by
          show _ = _
          rw [← hsetw, ← List.map_set]
          congr 1
          apply List.ext_getElem?
          intro j
          rw [List.getElem?_set]
          by_cases hj : M = j
          · subst hj
            rw [if_pos rfl, if_pos (by omega), List.getElem?_append_right (by simp; omega)]
            simp [hM]
          · rw [if_neg hj]
            by_cases hj2 : j < M
            · rw [List.getElem?_append_left (by simp; omega), List.getElem?_dropLast, if_pos (by omega)]
            · rw [List.getElem?_eq_none (by omega), List.getElem?_eq_none (by simp; omega)]
        have cM : wr.cell? ⟨g, M, none⟩ = some (sv L) := hcells M _ (by rw [List.getElem?_map, hlast]; rfl)
        have fM : wr.frozen? ⟨g, M, none⟩ = false := World.ownsRow.frozenAt (show wr.ownsRow w.heap.size 9 1 (.slice (some ⟨g, 0, none⟩) ((wordsOf 32 (s.take q)).map sv).length cp) ((wordsOf 32 (s.take q)).map sv).length ((wordsOf 32 (s.take q)).map sv) from OR) M
        have OS := fun u => World.ownsRow.stored (show wr.ownsRow w.heap.size 9 1 (.slice (some ⟨g, 0, none⟩) ((wordsOf 32 (s.take q)).map sv).length cp) ((wordsOf 32 (s.take q)).map sv).length ((wordsOf 32 (s.take q)).map sv) from OR) M u
        have HOS : Hid (OwnX 9 w.heap.size (wr.setCell ⟨g, M, none⟩ (sv (L ++ [c]))) (.slice (some ⟨g, 0, none⟩) N cp) ((wordsOf 32 (s.take (q + 1))).map sv)) := by
          have h := (OS (sv (L ++ [c]))).1
          rw [HSet.out, HNN.out] at h
          unfold OwnX
          rw [← HSet.out, List.length_set, HNN.out, HSet.out]
          exact h
        have TS : Below w.heap.size w (wr.setCell ⟨g, M, none⟩ (sv (L ++ [c]))) := TR.setCell hg _
        rw [HNN.out] at hcap
        have hLl : L.length ≤ S.size := by
          have h := (words_short 32 (s.take q)).2 M
          have h2 : (s.take q).length ≤ s.length := by rw [List.length_take]; omega
          rw [List.getD_eq_getElem?_getD, hlast] at h
          simp at h
          omega
        obtain ⟨LB, HLB⟩ : ∃ B : ByteArray, Hid ((⟨L.toArray⟩ : ByteArray) = B) := ⟨_, rfl⟩
        obtain ⟨Q1, HQ1⟩ : ∃ Q, Hid (q + 1 = Q) := ⟨_, rfl⟩
        have hq1 : Q1 = q + 1 := HQ1.out.symm
        have HXc : Hid (S.extract q Q1 = ⟨#[c]⟩) := by show _ = _; rw [hq1]; exact HX.out
        obtain ⟨CB, HCB⟩ : ∃ B : ByteArray, Hid ((⟨#[c]⟩ : ByteArray) = B) := ⟨_, rfl⟩
        have x1 : S.extract q Q1 = CB := by rw [HXc.out]; exact HCB.out
        have hcs : CB.size = 1 := by rw [← HCB.out]; rfl
        have hLs : LB.size = L.length := by rw [← HLB.out]; rfl
        have HRes : Hid (Value.string (LB ++ CB) = sv (L ++ [c])) := by show _ = _; rw [← HLB.out, ← HCB.out, cat_arr]; rfl
        have w1 : IntKind.i64.wrap ((N : Int) - 1) = (M : Int) := by rw [wrap_in _ (by omega) (by omega)]; omega
        have w2 : IntKind.i64.wrap ((q : Int) + 1) = (Q1 : Int) := by rw [wrap_in _ (by omega) (by omega)]; omega
        have b0 : (0 : Int) ≤ (M : Int) := by omega
        have b1 : (M : Int) < (N : Int) := by omega
        have b2 : M < N := by omega
        have b3 : (q : Int) ≤ (Q1 : Int) := by omega
        have b4 : (Q1 : Int) ≤ (S.size : Int) := by omega
        have b5 : q ≤ Q1 := by omega
        have b6 : Q1 ≤ S.size := by omega
        have b7 : ¬ 9223372036854775807 < LB.size + CB.size := by omega
        have b8 : ¬ 9223372036854775807 < LB.size + 1 := by omega
        rw [sv, HLB.out] at cM
        rw [HNN.out]
        have hQle : Q1 ≤ S.size := b6
        clear hb hc OS hsetw hlast hcells hwl hwp hM OR hml hNM hq1 hLs
        go_wp2
        go_region
        all_goals
          rw [HRes.out]
          go_wp2
          go_roundw
          case rel => exact ⟨Q1, hQle, by rw [← HQ1.out], by rw [← HQ1.out]; exact HOS.out, Below.drew TS⟩
          case measure => simp [intOf]; have := HQ1.out; omega
    · obtain rfl : q = S.size := by omega
      have hwp := HWp.out S.size
      rw [List.take_of_length_le (by omega)] at OR hwp
      obtain ⟨g, cp, rfl, hg, LS⟩ := OR.strs hwp
      go_wp2
      go_ret
      exact ⟨g, _, cp, rfl, LS, TR⟩

end Go.Proofs.YthmiojmlaclgaaaGreatDoor.Fx

/- Numbers as words, plain: a word is a number just if that number is told by it. -/
namespace Go.Proofs.YthmiojmlaclgaaaGreatDoor.Fx
open Go.RowKit

theorem trim_minus (r : List UInt8) : Lib.trimPrefix (45 :: r) [45] = r := by
  unfold Lib.trimPrefix Lib.hasPrefix
  rw [if_pos (by simp [List.isPrefixOf])]
  rfl
theorem trim_other {c : UInt8} {r : List UInt8} (h : c ≠ 45) : Lib.trimPrefix (c :: r) [45] = c :: r := by
  unfold Lib.trimPrefix Lib.hasPrefix
  rw [if_neg (by simp [List.isPrefixOf]; exact fun e => h e.symm)]
theorem dec_cons (u : Nat) : ∃ c r, Lib.decDigits u = c :: r ∧ c ≠ 45 ∧ c.toNat ≠ 43 ∧ c.toNat ≠ 45 := by
  cases h : Lib.decDigits u with
  | nil => exact absurd h (dec_ne u)
  | cons c r =>
    have hd := dec_digit u c (by rw [h]; simp)
    refine ⟨c, r, rfl, fun e => ?_, by omega, by omega⟩
    rw [e] at hd
    revert hd
    decide
theorem trim_itoa (v : Int) : Lib.trimPrefix (Lib.itoa v) [45] = Lib.decDigits v.natAbs := by
  unfold Lib.itoa
  by_cases h : v < 0
  · rw [if_pos h, trim_minus]
  · rw [if_neg h]
    have e : v.toNat = v.natAbs := by omega
    rw [e]
    obtain ⟨c, r, h1, h2, _⟩ := dec_cons v.natAbs
    rw [h1, trim_other h2]
theorem dec_ltN {u k : Nat} (h : (Lib.decDigits u).length ≤ k) : u < 10 ^ k := by
  rw [Lib.decDigits_length] at h
  exact Nat.lt_of_lt_of_le (Lib.lt_pow_nDigits u) (Nat.pow_le_pow_right (by decide) h)
theorem atoi_itoa {v : Int} (h : v.natAbs < 10 ^ 10) : Lib.atoiAll (Lib.itoa v) = .ok v := by
  have hp : Lib.parseMag (Lib.decDigits v.natAbs) = .ok v.natAbs := by
    have := dec_parseB v.natAbs (by omega)
    rw [Lib.parseUintB_64] at this
    exact this
  unfold Lib.itoa
  by_cases hv : v < 0
  · rw [if_pos hv, Lib.atoiAll]
    have e : (if (45 : UInt8).toNat = 43 ∨ (45 : UInt8).toNat = 45 then Lib.decDigits v.natAbs else 45 :: Lib.decDigits v.natAbs) = Lib.decDigits v.natAbs := rfl
    rw [e, hp]
    have t : (45 : UInt8).toNat = 45 := rfl
    simp only [t, not_true_eq_false, false_and, if_false, true_and, if_true]
    rw [if_neg (by omega)]
    congr 1
    omega
  · rw [if_neg hv]
    have e : v.toNat = v.natAbs := by omega
    rw [e]
    obtain ⟨c, r, h1, _, h3, h4⟩ := dec_cons v.natAbs
    rw [h1] at hp ⊢
    rw [Lib.atoiAll]
    rw [if_neg (by omega), hp]
    simp only [h4, not_false_eq_true, true_and, false_and, if_false]
    rw [if_neg (by omega)]
    congr 1
    omega
theorem num_yes {x : List UInt8} {v : Int} (h : Lib.itoa v = x) (h10 : (Lib.trimPrefix x [45]).length ≤ 10) : numO x = some v := by
  subst h
  have hb : v.natAbs < 10 ^ 10 := by
    rw [trim_itoa] at h10
    exact dec_ltN h10
  unfold numO
  rw [if_pos h10, atoi_itoa hb]
  simp
end Go.Proofs.YthmiojmlaclgaaaGreatDoor.Fx

/- What coachref.LineText returns of a record that may be told: its line. -/
namespace Go.Proofs.YthmiojmlaclgaaaGreatDoor.Fx
open Go.RowKit

theorem join_snoc (b : UInt8) (ws : List (List UInt8)) (x : List UInt8) (h : ws ≠ []) : Lib.join (ws ++ [x]) [b] = Lib.join ws [b] ++ ([b] ++ x) := by
  have e := List.dropLast_concat_getLast h
  rw [← e, join_glue, join_glue]
  simp [glue]
/-- The line of the numbers ahead of the batch, and of its first q ones. -/
def preL (s r root chain : Int) (D : List Int) (q : Nat) : List UInt8 := Lib.join (([s, r, root, chain] ++ D.take q).map dg) [32]
theorem preL_zero (s r root chain : Int) (D : List Int) : preL s r root chain D 0 = dg s ++ [32] ++ dg r ++ [32] ++ dg root ++ [32] ++ dg chain := by
  simp [preL, Lib.join, List.intercalate, List.intersperse]
theorem preL_succ {s r root chain : Int} {D : List Int} {q : Nat} (h : q < D.length) : preL s r root chain D (q + 1) = preL s r root chain D q ++ ([32] ++ dg (D.getD q 0)) := by
  unfold preL
  rw [List.take_add_one, List.getElem?_eq_getElem h, Option.toList_some, ← List.append_assoc, List.map_append (l₂ := [D[q]]), List.map_singleton, join_snoc 32 _ _ (by simp), List.getD_eq_getElem?_getD, List.getElem?_eq_getElem h]
  rfl
theorem preL_all {s r root chain : Int} {D : List Int} {q : Nat} (h : D.length = q) : preL s r root chain D q ++ [10] = Ln.text ⟨s, r, root, chain, D⟩ := by
  subst h
  rw [preL, List.take_length]
  rfl
end Go.Proofs.YthmiojmlaclgaaaGreatDoor.Fx
