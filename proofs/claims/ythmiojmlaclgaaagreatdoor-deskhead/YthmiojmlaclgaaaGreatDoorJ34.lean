/- Plain: what a desk answers to two texts. -/
import Derived.Test.YthmiojmlaclgaaaGreatDoorJ33
import Derived.Test.YthmiojmlaclgaaaGreatDoorJ24
namespace Go.Proofs.YthmiojmlaclgaaaGreatDoor.Fx
open Go.RowKit

theorem dLine_at {p : Dsk × List UInt8} {l : List UInt8} {ws : List (List UInt8)} (hw : lwords l = ws) (hs : silB ws = false) : dLine p l = ((dStep p.1 ws).d, p.2 ++ ((dStep p.1 ws).line ++ [10])) := by
  rw [dLine_not (by rw [hw]; exact hs), hw]
/-! A text whose two first lines are silent. -/
def tA : List UInt8 := [35, 10, 10, 115, 116, 101, 112]
theorem tA_lines : tlines tA = [[35], [], [115, 116, 101, 112]] := by decide +kernel
theorem take_d0 : dTake d0 = ⟨[], 1, d0⟩ := by
  have h : ∀ X DI DO m, mkE d0.c d0.n X DI DO m = 1 := fun X DI DO m => by
    have e : courseI d0.c d0.n X DI DO = 1 := by
      unfold courseI
      rw [if_pos (by decide), if_pos (by decide)]
    unfold mkE
    rw [e]
    rfl
  unfold dTake
  rw [h, if_neg (by decide)]
theorem run_tA : runP tA = errA 1 ++ [10] := by
  unfold runP
  rw [tA_lines, if_neg (by decide)]
  unfold dTo
  show (dLine (dLine (dLine (d0, []) [35]) []) [115, 116, 101, 112]).2 = _
  rw [dLine_sil (l := [35]) (by decide +kernel), dLine_sil (l := []) (by decide +kernel), dLine_at (ws := [[115, 116, 101, 112]]) (by decide +kernel) (by decide)]
  have e : dStep d0 [[115, 116, 101, 112]] = dTake d0 := by
    unfold dStep
    rw [if_neg (by decide), if_pos (by decide)]
    unfold dAlone
    rw [if_pos (by decide)]
  show [] ++ ((dStep d0 [[115, 116, 101, 112]]).line ++ [10]) = _
  rw [e, take_d0]
  rfl

/-! A course of two steps that a stop takes away. -/
def tB : List UInt8 := [100, 97, 116, 97, 32, 54, 53, 53, 51, 54, 32, 47, 32, 49, 51, 49, 48, 55, 50, 10, 115, 116, 101, 112, 10, 115, 116, 101, 112, 10, 97, 117, 100, 105, 116, 10, 99, 114, 97, 115, 104, 32, 48, 10, 98, 121, 116, 101, 115, 10, 97, 117, 100, 105, 116, 10]
theorem tB_lines : tlines tB = [[100, 97, 116, 97, 32, 54, 53, 53, 51, 54, 32, 47, 32, 49, 51, 49, 48, 55, 50], [115, 116, 101, 112], [115, 116, 101, 112], [97, 117, 100, 105, 116], [99, 114, 97, 115, 104, 32, 48], [98, 121, 116, 101, 115], [97, 117, 100, 105, 116]] := by decide +kernel
theorem itoa_small : Lib.itoa 0 = [48] ∧ Lib.itoa 2 = [50] ∧ Lib.itoa 65536 = [54, 53, 53, 51, 54] ∧ Lib.itoa 131072 = [49, 51, 49, 48, 55, 50] := by
  refine ⟨?_, ?_, ?_, ?_⟩ <;> simp [Lib.itoa, Lib.decDigits]
theorem num_small : numO [48] = some 0 ∧ numO [54, 53, 53, 51, 54] = some 65536 ∧ numO [49, 51, 49, 48, 55, 50] = some 131072 :=
  ⟨num_yes itoa_small.1 (by decide), num_yes itoa_small.2.2.1 (by decide), num_yes itoa_small.2.2.2 (by decide)⟩
def d1 : Dsk := { d0 with ex := [([65536], [131072])] }
theorem d1_course : courseI d1.c d1.n d1.X d1.DI d1.DO = 0 := by decide +kernel
noncomputable def lB : Nat → Ln := jrL d1.c d1.n d1.DI d1.DO
theorem lB_good : GoodL lB 3 := jrL_good d1_course (by decide) (by decide) (by decide)
noncomputable def dB (j : Nat) : Dsk := { d1 with T := fT lB j }
theorem dB_beg {j : Nat} (hj : j ≤ 3) : begL (dB j).T = lnsTo lB j := begL_of (fT_beg lB_good hj)
theorem dB_k {j : Nat} (hj : j ≤ 3) : (dB j).k = j := by
  unfold Dsk.k
  rw [dB_beg hj, lnsTo_len]
theorem dB_data : dStep d0 [[100, 97, 116, 97], [54, 53, 53, 51, 54], [47], [49, 51, 49, 48, 55, 50]] = ⟨okA, 0, dB 0⟩ := by
  unfold dStep
  rw [if_pos (by decide)]
  unfold dData
  have hs : slashAt [[54, 53, 53, 51, 54], [47], [49, 51, 49, 48, 55, 50]] = ((1 : Nat) : Int) := by decide +kernel
  have h1 : numsO [[54, 53, 53, 51, 54]] = some [65536] := by unfold numsO; rw [num_small.2.1]; rfl
  have h2 : numsO [[49, 51, 49, 48, 55, 50]] = some [131072] := by unfold numsO; rw [num_small.2.2]; rfl
  have e : exO [[54, 53, 53, 51, 54], [47], [49, 51, 49, 48, 55, 50]] = some ([65536], [131072]) := by
    unfold exO
    rw [hs, if_neg (by decide)]
    show (match numsO [[54, 53, 53, 51, 54]], numsO [[49, 51, 49, 48, 55, 50]] with | some a, some b => some (a, b) | _, _ => none) = _
    rw [h1, h2]
  show (match exO [[54, 53, 53, 51, 54], [47], [49, 51, 49, 48, 55, 50]] with | none => (⟨[], 3, d0⟩ : Out) | some x => if 16 ≤ d0.ex.length then ⟨[], 2, d0⟩ else ⟨okA, 0, { d0 with ex := d0.ex ++ [x] }⟩) = _
  rw [e]
  show (if 16 ≤ d0.ex.length then (⟨[], 2, d0⟩ : Out) else ⟨okA, 0, { d0 with ex := d0.ex ++ [([65536], [131072])] }⟩) = _
  rw [if_neg (by decide)]
  rfl
theorem dB_step {j : Nat} (hj : j < 3) : dStep (dB j) [[115, 116, 101, 112]] = ⟨(lB j).line, 0, dB (j + 1)⟩ := by
  unfold dStep
  rw [if_neg (by decide), if_pos (by decide)]
  unfold dAlone
  rw [if_pos (by decide)]
  unfold dTake
  have hm : mkE (dB j).c (dB j).n (dB j).X (dB j).DI (dB j).DO (((dB j).k : Int) + 1) = 0 := by
    show mkE d1.c d1.n d1.X d1.DI d1.DO (((dB j).k : Int) + 1) = 0
    rw [dB_k (by omega)]
    unfold mkE
    rw [if_pos d1_course, if_pos]
    show inB ((j : Int) + 1) 0 3 = true
    unfold inB
    rw [decide_eq_true (by omega), decide_eq_true (by omega)]
    rfl
  rw [hm, if_pos (by decide)]
  have hl : (jrL (dB j).c (dB j).n (dB j).DI (dB j).DO (dB j).k) = lB j := by rw [dB_k (by omega)]; rfl
  rw [hl]
  have h1 := fT_len lB_good j (by omega)
  have h2 := (lB_good j hj).1.short
  have h3 : (dB j).T.length = (fT lB j).length := rfl
  rw [if_neg (by omega)]
  show (⟨(lB j).line, 0, { d1 with T := fT lB j ++ (lB j).text }⟩ : Out) = _
  rw [← fT_succ]
  rfl
theorem dB_audit {j : Nat} (hj : j ≤ 3) : dStep (dB j) [[97, 117, 100, 105, 116]] = ⟨Lib.itoa j, 0, dB j⟩ := by
  unfold dStep
  rw [if_neg (by decide), if_pos (by decide)]
  unfold dAlone
  rw [if_neg (by decide), if_neg (by decide), if_neg (by decide), if_pos (by decide)]
  unfold dAudit
  have hE : whE (dB j).c (dB j).n (dB j).X (dB j).DI (dB j).DO (dB j).k = 0 := by
    show whE d1.c d1.n d1.X d1.DI d1.DO (dB j).k = 0
    rw [dB_k hj]
    unfold whE
    rw [if_pos d1_course, if_pos]
    show (j : Int) ≤ 3
    omega
  have hN : whN (dB j).c (dB j).n (dB j).X (dB j).DI (dB j).DO (dB j).k (rcL (begL (dB j).T)) (fun i => (lnAt (begL (dB j).T) i).b) = j := by
    unfold whN
    rw [hE, if_pos (by decide), dB_beg hj, dB_k hj]
    refine firstNo_eq _ j j (Nat.le_refl _) (fun i hi => ?_) (fun h => by omega)
    have e := lnsTo_at lB hi
    unfold auB
    rw [Bool.and_eq_true, Bool.and_eq_true, Bool.and_eq_true, Bool.and_eq_true]
    refine ⟨⟨⟨⟨decide_eq_true ?_, decide_eq_true ?_⟩, decide_eq_true ?_⟩, decide_eq_true ?_⟩, decide_eq_true ?_⟩
    · show (lnAt (lnsTo lB j) i).s = _
      rw [e]
      rfl
    · show (lnAt (lnsTo lB j) i).r = _
      rw [e]
      rfl
    · show (lnAt (lnsTo lB j) i).root = _
      rw [e]
      rfl
    · show (lnAt (lnsTo lB j) i).b = _
      rw [e]
      rfl
    · show (lnAt (lnsTo lB j) i).chain = _
      rw [e]
      rfl
  rw [hE, hN]
  rfl
theorem dB_crash (j : Nat) : dStep (dB j) [[99, 114, 97, 115, 104], [48]] = ⟨okA, 0, dB 0⟩ := by
  unfold dStep
  rw [if_neg (by decide), if_neg (by decide)]
  have h1 : numsO [[48]] = some [0] := by unfold numsO; rw [num_small.1]; rfl
  show (match numsO [[48]] with | none => (⟨[], 3, dB j⟩ : Out) | some z => dNums [99, 114, 97, 115, 104] z (dB j)) = _
  rw [h1]
  show dNums [99, 114, 97, 115, 104] [0] (dB j) = _
  unfold dNums
  rw [if_neg (by decide), if_pos ⟨rfl, rfl⟩]
  unfold dCrash
  have e : crN (dB j).T.length (dB j).sy ([0].getD 0 0) = 0 := by
    show 0 + (min (max (0 : Int) 0) (((dB j).T.length : Int) - ((0 : Nat) : Int))).toNat = 0
    omega
  rw [e]
  rfl
theorem dB_bytes : dStep (dB 0) [[98, 121, 116, 101, 115]] = ⟨Lib.itoa 0, 0, dB 0⟩ := by
  unfold dStep
  rw [if_neg (by decide), if_pos (by decide)]
  unfold dAlone
  rw [if_neg (by decide), if_neg (by decide), if_neg (by decide), if_neg (by decide), if_pos (by decide)]
  rfl
/-- What is answered, line by line. -/
noncomputable def aB : List (List UInt8) := [okA, (lB 0).line, (lB 1).line, [50], okA, [48], [48]]
theorem run_tB : runP tB = glue 10 aB [] := by
  unfold runP
  rw [tB_lines, if_neg (by decide)]
  unfold dTo
  show (dLine (dLine (dLine (dLine (dLine (dLine (dLine (d0, []) [100, 97, 116, 97, 32, 54, 53, 53, 51, 54, 32, 47, 32, 49, 51, 49, 48, 55, 50]) [115, 116, 101, 112]) [115, 116, 101, 112]) [97, 117, 100, 105, 116]) [99, 114, 97, 115, 104, 32, 48]) [98, 121, 116, 101, 115]) [97, 117, 100, 105, 116]).2 = _
  have s0 : dLine (d0, ([] : List UInt8)) [100, 97, 116, 97, 32, 54, 53, 53, 51, 54, 32, 47, 32, 49, 51, 49, 48, 55, 50] = (dB 0, ([] : List UInt8) ++ (okA ++ [10])) := by
    rw [dLine_at (ws := [[100, 97, 116, 97], [54, 53, 53, 51, 54], [47], [49, 51, 49, 48, 55, 50]]) (by decide +kernel) (by decide)]
    show ((dStep (d0) [[100, 97, 116, 97], [54, 53, 53, 51, 54], [47], [49, 51, 49, 48, 55, 50]]).d, _ ++ ((dStep (d0) [[100, 97, 116, 97], [54, 53, 53, 51, 54], [47], [49, 51, 49, 48, 55, 50]]).line ++ [10])) = _
    rw [dB_data]
    rfl
  have s1 : dLine (dB 0, (([] : List UInt8) ++ (okA ++ [10]))) [115, 116, 101, 112] = (dB 1, (([] : List UInt8) ++ (okA ++ [10])) ++ ((lB 0).line ++ [10])) := by
    rw [dLine_at (ws := [[115, 116, 101, 112]]) (by decide +kernel) (by decide)]
    show ((dStep (dB 0) [[115, 116, 101, 112]]).d, _ ++ ((dStep (dB 0) [[115, 116, 101, 112]]).line ++ [10])) = _
    rw [dB_step (j := 0) (by omega)]
    rfl
  have s2 : dLine (dB 1, ((([] : List UInt8) ++ (okA ++ [10])) ++ ((lB 0).line ++ [10]))) [115, 116, 101, 112] = (dB 2, ((([] : List UInt8) ++ (okA ++ [10])) ++ ((lB 0).line ++ [10])) ++ ((lB 1).line ++ [10])) := by
    rw [dLine_at (ws := [[115, 116, 101, 112]]) (by decide +kernel) (by decide)]
    show ((dStep (dB 1) [[115, 116, 101, 112]]).d, _ ++ ((dStep (dB 1) [[115, 116, 101, 112]]).line ++ [10])) = _
    rw [dB_step (j := 1) (by omega)]
    rfl
  have s3 : dLine (dB 2, (((([] : List UInt8) ++ (okA ++ [10])) ++ ((lB 0).line ++ [10])) ++ ((lB 1).line ++ [10]))) [97, 117, 100, 105, 116] = (dB 2, (((([] : List UInt8) ++ (okA ++ [10])) ++ ((lB 0).line ++ [10])) ++ ((lB 1).line ++ [10])) ++ (Lib.itoa ((2 : Nat) : Int) ++ [10])) := by
    rw [dLine_at (ws := [[97, 117, 100, 105, 116]]) (by decide +kernel) (by decide)]
    show ((dStep (dB 2) [[97, 117, 100, 105, 116]]).d, _ ++ ((dStep (dB 2) [[97, 117, 100, 105, 116]]).line ++ [10])) = _
    rw [dB_audit (j := 2) (by omega)]
    rfl
  have s4 : dLine (dB 2, ((((([] : List UInt8) ++ (okA ++ [10])) ++ ((lB 0).line ++ [10])) ++ ((lB 1).line ++ [10])) ++ (Lib.itoa ((2 : Nat) : Int) ++ [10]))) [99, 114, 97, 115, 104, 32, 48] = (dB 0, ((((([] : List UInt8) ++ (okA ++ [10])) ++ ((lB 0).line ++ [10])) ++ ((lB 1).line ++ [10])) ++ (Lib.itoa ((2 : Nat) : Int) ++ [10])) ++ (okA ++ [10])) := by
    rw [dLine_at (ws := [[99, 114, 97, 115, 104], [48]]) (by decide +kernel) (by decide)]
    show ((dStep (dB 2) [[99, 114, 97, 115, 104], [48]]).d, _ ++ ((dStep (dB 2) [[99, 114, 97, 115, 104], [48]]).line ++ [10])) = _
    rw [dB_crash 2]
    rfl
  have s5 : dLine (dB 0, (((((([] : List UInt8) ++ (okA ++ [10])) ++ ((lB 0).line ++ [10])) ++ ((lB 1).line ++ [10])) ++ (Lib.itoa ((2 : Nat) : Int) ++ [10])) ++ (okA ++ [10]))) [98, 121, 116, 101, 115] = (dB 0, (((((([] : List UInt8) ++ (okA ++ [10])) ++ ((lB 0).line ++ [10])) ++ ((lB 1).line ++ [10])) ++ (Lib.itoa ((2 : Nat) : Int) ++ [10])) ++ (okA ++ [10])) ++ (Lib.itoa 0 ++ [10])) := by
    rw [dLine_at (ws := [[98, 121, 116, 101, 115]]) (by decide +kernel) (by decide)]
    show ((dStep (dB 0) [[98, 121, 116, 101, 115]]).d, _ ++ ((dStep (dB 0) [[98, 121, 116, 101, 115]]).line ++ [10])) = _
    rw [dB_bytes]
    rfl
  have s6 : dLine (dB 0, ((((((([] : List UInt8) ++ (okA ++ [10])) ++ ((lB 0).line ++ [10])) ++ ((lB 1).line ++ [10])) ++ (Lib.itoa ((2 : Nat) : Int) ++ [10])) ++ (okA ++ [10])) ++ (Lib.itoa 0 ++ [10]))) [97, 117, 100, 105, 116] = (dB 0, ((((((([] : List UInt8) ++ (okA ++ [10])) ++ ((lB 0).line ++ [10])) ++ ((lB 1).line ++ [10])) ++ (Lib.itoa ((2 : Nat) : Int) ++ [10])) ++ (okA ++ [10])) ++ (Lib.itoa 0 ++ [10])) ++ (Lib.itoa ((0 : Nat) : Int) ++ [10])) := by
    rw [dLine_at (ws := [[97, 117, 100, 105, 116]]) (by decide +kernel) (by decide)]
    show ((dStep (dB 0) [[97, 117, 100, 105, 116]]).d, _ ++ ((dStep (dB 0) [[97, 117, 100, 105, 116]]).line ++ [10])) = _
    rw [dB_audit (j := 0) (by omega)]
    rfl
  rw [s0, s1, s2, s3, s4, s5, s6]
  have e2 : Lib.itoa ((2 : Nat) : Int) = [50] := itoa_small.2.1
  have e0 : Lib.itoa ((0 : Nat) : Int) = [48] := itoa_small.1
  have e1 : Lib.itoa 0 = [48] := itoa_small.1
  dsimp only
  rw [e2, e0, e1]
  unfold glue aB
  simp only [List.map_cons, List.map_nil, List.flatten_cons, List.flatten_nil, List.append_nil, List.nil_append, List.append_assoc]
theorem aB_not : ∀ x ∈ aB, (10 : UInt8) ∉ x := by
  intro x hx
  unfold aB at hx
  simp only [List.mem_cons, List.not_mem_nil, or_false] at hx
  rcases hx with rfl | rfl | rfl | rfl | rfl | rfl | rfl
  · exact okA_not10
  · exact Ln.line_not _
  · exact Ln.line_not _
  · decide
  · exact okA_not10
  · decide
  · decide
theorem words_tB : wordsOf 10 (runP tB) = aB ++ [[]] := by
  rw [run_tB]
  unfold wordsOf
  rw [ps_of_glue 10 aB [] aB_not (by decide)]
theorem preL_mono (s r root chain : Int) (D : List Int) : ∀ q, q ≤ D.length → preL s r root chain D 0 <+: preL s r root chain D q
  | 0, _ => List.prefix_refl _
  | q + 1, h => by
    refine (preL_mono s r root chain D q (by omega)).trans ?_
    rw [preL_succ (by omega)]
    exact List.prefix_append _ _
theorem lB_line (j : Nat) : dg j ++ [32] ++ dg 6554 ++ [32] <+: (lB j).line := by
  have h := preL_all (s := (lB j).s) (r := (lB j).r) (root := (lB j).root) (chain := (lB j).chain) (D := (lB j).b) rfl
  have e : (lB j).text = (lB j).line ++ [10] := rfl
  have e2 : Ln.text ⟨(lB j).s, (lB j).r, (lB j).root, (lB j).chain, (lB j).b⟩ = (lB j).text := rfl
  rw [e2, e] at h
  have h2 := List.append_cancel_right h
  have h3 := preL_mono (lB j).s (lB j).r (lB j).root (lB j).chain (lB j).b _ (Nat.le_refl _)
  rw [h2, preL_zero] at h3
  refine List.IsPrefix.trans ?_ h3
  have er : (lB j).r = 6554 := rfl
  have es : (lB j).s = (j : Int) := rfl
  rw [er, es]
  rw [List.append_assoc _ [32] (dg (lB j).chain), List.append_assoc _ (dg (lB j).root) _]
  exact List.prefix_append _ _
theorem dg_small : dg 0 = [48] ∧ dg 1 = [49] ∧ dg 6554 = [54, 53, 53, 52] := by
  refine ⟨?_, ?_, ?_⟩ <;> simp [dg, Lib.decDigits]
theorem lB_pre0 : Lib.hasPrefix (lB 0).line [48, 32, 54, 53, 53, 52, 32] = true := by
  have h := lB_line 0
  rw [show dg ((0 : Nat) : Int) = [48] from dg_small.1, dg_small.2.2] at h
  exact List.isPrefixOf_iff_prefix.2 h
theorem lB_pre1 : Lib.hasPrefix (lB 1).line [49, 32, 54, 53, 53, 52, 32] = true := by
  have h := lB_line 1
  rw [show dg ((1 : Nat) : Int) = [49] from dg_small.2.1, dg_small.2.2] at h
  exact List.isPrefixOf_iff_prefix.2 h
end Go.Proofs.YthmiojmlaclgaaaGreatDoor.Fx

/- What coachref.TextLines and LineWords return: a text's lines, a line's words. -/
namespace Go.Proofs.YthmiojmlaclgaaaGreatDoor.Fx
open Go.RowKit

set_option maxRecDepth 100000 in
set_option maxHeartbeats 3200000 in
theorem pieces10_calls (S : ByteArray) (s : List UInt8) (w : World) (hS : Hid (S.data.toList = s)) (hs : S.size ≤ 1048576) :
    Calls Tryz.prog 24 #[.string S, .int .u8 10] w fun e w' => ∃ g n c, e = .returned (.slice (some ⟨g, 0, none⟩) n c) ∧ LstS w' (some ⟨g, 0, none⟩) n c (wordsOf 10 s) ∧ Below w.heap.size w w' := by
  have hsl : s.length = S.size := by rw [← hS.out]; rfl
  have O0 : OwnX 9 w.heap.size (w.alloc (.cells #[.string ⟨#[]⟩] 9)) (.slice (some ⟨w.heap.size, 0, none⟩) 1 1) ((wordsOf 10 (s.take 0)).map sv) := OwnX.lits 9 w [.string ⟨#[]⟩] (by simp)
  have HWl : Hid (∀ q, (wordsOf 10 (s.take q)).length ≤ S.size + 1) := fun q => by
    have h := (words_short 10 (s.take q)).1
    have h2 : (s.take q).length ≤ s.length := by rw [List.length_take]; omega
    omega
  have HWp : Hid (∀ q, 0 < (wordsOf 10 (s.take q)).length) := fun q => by simp [wordsOf]
  go_enter Tryz.func24, Tryz.ntmps24
  go_wp2
  go_loopw [5, 6] (fun v i wr => ∃ q : Nat, q ≤ S.size ∧ i = .int .i64 q ∧ OwnX 9 w.heap.size wr v ((wordsOf 10 (s.take q)).map sv) ∧ Below w.heap.size w wr) (fun _ i _ => S.size - (intOf i).toNat)
  case atStart => exact ⟨0, Nat.zero_le _, rfl, O0, (Below.refl _ _).alloc (Nat.le_refl _) _⟩
  case round =>
    obtain ⟨q, hq, rfl, OR, TR⟩ := hrel
    by_cases hlt : q < S.size
    · have q0 : (0 : Int) ≤ (q : Int) := by omega
      have q1 : (q : Int) < (S.size : Int) := by omega
      obtain ⟨hqs, hb⟩ := byte_at hS.out hlt
      have HTk : Hid (s.take (q + 1) = s.take q ++ [s[q]]) := by show _ = _; rw [List.take_add_one, List.getElem?_eq_getElem hqs, Option.toList_some]
      have HX := Lib.hid (ext_one hS.out hqs)
      generalize s[q] = c at *
      have hwl := HWl.out q
      have hwp := HWp.out q
      by_cases hc : c = 10
      · have hcb : ((S[q].toNat : Int) == 10) = true := by rw [hb, hc]; rfl
        have HN : Hid ((wordsOf 10 (s.take q)).map sv ++ [.string ⟨#[]⟩] = (wordsOf 10 (s.take (q + 1))).map sv) := by
          show _ = _
          rw [HTk.out, wordsOf_snoc, if_pos hc, List.map_append]
          rfl
        have T1 : Below wr.heap.size wr (wr.alloc (.cells #[.string ⟨#[]⟩] 9)) := (Below.refl _ _).alloc (Nat.le_refl _) _
        have O1 := OR.below T1
        have T2 := TR.trans (T1.mono TR.size)
        have hml : ((wordsOf 10 (s.take q)).map sv).length = (wordsOf 10 (s.take q)).length := List.length_map _
        clear hb hc
        go_wp2_with (at_builtin; refine wpList_append_x Tryz.underlying24 infoStr rfl (by decide) (by rfl) _ _ (by rfl) w.heap.size _ ((wordsOf 10 (s.take q)).map sv) (.string ⟨#[]⟩) wr.heap.size w (by rfl) (by rfl) (by exact O1) (by exact cell_new _ _ _) (by rfl) (by rw [hml]; omega) (by exact T2.size) (by exact T2) ?_; intro v9 w9 O9 T9 _ _)
        go_roundw
        case rel => exact ⟨q + 1, by omega, by go_num, O9.congr HN.out, T9⟩
        case measure => simp [intOf]; omega
      · have hcb : ((S[q].toNat : Int) == 10) = false := by
          rw [hb, beq_eq_false_iff_ne]
          intro e
          apply hc
          apply UInt8.toNat_inj.1
          have : ((10 : UInt8).toNat : Int) = 10 := rfl
          omega
        obtain ⟨g, cp, rfl, hg, hgl, hcap, hcells⟩ := OR.row (by simpa using hwp)
        have hml : ((wordsOf 10 (s.take q)).map sv).length = (wordsOf 10 (s.take q)).length := List.length_map _
        obtain ⟨M, hM⟩ : ∃ M, (wordsOf 10 (s.take q)).length = M + 1 := ⟨(wordsOf 10 (s.take q)).length - 1, by omega⟩
        obtain ⟨N, HNN⟩ : ∃ N, Hid (((wordsOf 10 (s.take q)).map sv).length = N) := ⟨_, rfl⟩
        have hNM : N = M + 1 := by rw [← HNN.out, hml, hM]
        obtain ⟨L, HL⟩ : ∃ L : List UInt8, Hid ((wordsOf 10 (s.take q)).getLastD [] = L) := ⟨_, rfl⟩
        have hsetw : (wordsOf 10 (s.take q)).dropLast ++ [L ++ [c]] = (wordsOf 10 (s.take (q + 1))) := by rw [HTk.out, wordsOf_snoc, if_neg hc, HL.out]
        have hlast : (wordsOf 10 (s.take q))[M]? = some L := by
          rw [← HL.out, List.getLastD_eq_getLast?, List.getLast?_eq_getElem?, hM, Nat.add_sub_cancel]
          cases h : (wordsOf 10 (s.take q))[M]? with
          | none => rw [List.getElem?_eq_none_iff] at h; omega
          | some x => rfl
        have HSet : Hid (((wordsOf 10 (s.take q)).map sv).set M (sv (L ++ [c])) = (wordsOf 10 (s.take (q + 1))).map sv) := by
          show _ = _
          rw [← hsetw, ← List.map_set]
          congr 1
          apply List.ext_getElem?
          intro j
          rw [List.getElem?_set]
          by_cases hj : M = j
          · subst hj
            rw [if_pos rfl, if_pos (by omega), List.getElem?_append_right (by simp; omega)]
            simp [hM]
          · rw [if_neg hj]
            by_cases hj2 : j < M
            · rw [List.getElem?_append_left (by simp; omega), List.getElem?_dropLast, if_pos (by omega)]
            · rw [List.getElem?_eq_none (by omega), List.getElem?_eq_none (by simp; omega)]
        have cM : wr.cell? ⟨g, M, none⟩ = some (sv L) := hcells M _ (by rw [List.getElem?_map, hlast]; rfl)
        have fM : wr.frozen? ⟨g, M, none⟩ = false := World.ownsRow.frozenAt (show wr.ownsRow w.heap.size 9 1 (.slice (some ⟨g, 0, none⟩) ((wordsOf 10 (s.take q)).map sv).length cp) ((wordsOf 10 (s.take q)).map sv).length ((wordsOf 10 (s.take q)).map sv) from OR) M
        have OS := fun u => World.ownsRow.stored (show wr.ownsRow w.heap.size 9 1 (.slice (some ⟨g, 0, none⟩) ((wordsOf 10 (s.take q)).map sv).length cp) ((wordsOf 10 (s.take q)).map sv).length ((wordsOf 10 (s.take q)).map sv) from OR) M u
        have HOS : Hid (OwnX 9 w.heap.size (wr.setCell ⟨g, M, none⟩ (sv (L ++ [c]))) (.slice (some ⟨g, 0, none⟩) N cp) ((wordsOf 10 (s.take (q + 1))).map sv)) := by
          have h := (OS (sv (L ++ [c]))).1
          rw [HSet.out, HNN.out] at h
          unfold OwnX
          rw [← HSet.out, List.length_set, HNN.out, HSet.out]
          exact h
        have TS : Below w.heap.size w (wr.setCell ⟨g, M, none⟩ (sv (L ++ [c]))) := TR.setCell hg _
        rw [HNN.out] at hcap
        have hLl : L.length ≤ S.size := by
          have h := (words_short 10 (s.take q)).2 M
          have h2 : (s.take q).length ≤ s.length := by rw [List.length_take]; omega
          rw [List.getD_eq_getElem?_getD, hlast] at h
          simp at h
          omega
        obtain ⟨LB, HLB⟩ : ∃ B : ByteArray, Hid ((⟨L.toArray⟩ : ByteArray) = B) := ⟨_, rfl⟩
        obtain ⟨Q1, HQ1⟩ : ∃ Q, Hid (q + 1 = Q) := ⟨_, rfl⟩
        have hq1 : Q1 = q + 1 := HQ1.out.symm
        have HXc : Hid (S.extract q Q1 = ⟨#[c]⟩) := by show _ = _; rw [hq1]; exact HX.out
        obtain ⟨CB, HCB⟩ : ∃ B : ByteArray, Hid ((⟨#[c]⟩ : ByteArray) = B) := ⟨_, rfl⟩
        have x1 : S.extract q Q1 = CB := by rw [HXc.out]; exact HCB.out
        have hcs : CB.size = 1 := by rw [← HCB.out]; rfl
        have hLs : LB.size = L.length := by rw [← HLB.out]; rfl
        have HRes : Hid (Value.string (LB ++ CB) = sv (L ++ [c])) := by show _ = _; rw [← HLB.out, ← HCB.out, cat_arr]; rfl
        have w1 : IntKind.i64.wrap ((N : Int) - 1) = (M : Int) := by rw [wrap_in _ (by omega) (by omega)]; omega
        have w2 : IntKind.i64.wrap ((q : Int) + 1) = (Q1 : Int) := by rw [wrap_in _ (by omega) (by omega)]; omega
        have b0 : (0 : Int) ≤ (M : Int) := by omega
        have b1 : (M : Int) < (N : Int) := by omega
        have b2 : M < N := by omega
        have b3 : (q : Int) ≤ (Q1 : Int) := by omega
        have b4 : (Q1 : Int) ≤ (S.size : Int) := by omega
        have b5 : q ≤ Q1 := by omega
        have b6 : Q1 ≤ S.size := by omega
        have b7 : ¬ 9223372036854775807 < LB.size + CB.size := by omega
        have b8 : ¬ 9223372036854775807 < LB.size + 1 := by omega
        rw [sv, HLB.out] at cM
        rw [HNN.out]
        have hQle : Q1 ≤ S.size := b6
        clear hb hc OS hsetw hlast hcells hwl hwp hM OR hml hNM hq1 hLs
        go_wp2
        go_region
        all_goals
          rw [HRes.out]
          go_wp2
          go_roundw
          case rel => exact ⟨Q1, hQle, by rw [← HQ1.out], by rw [← HQ1.out]; exact HOS.out, Below.drew TS⟩
          case measure => simp [intOf]; have := HQ1.out; omega
    · obtain rfl : q = S.size := by omega
      have hwp := HWp.out S.size
      rw [List.take_of_length_le (by omega)] at OR hwp
      obtain ⟨g, cp, rfl, hg, LS⟩ := OR.strs hwp
      go_wp2
      go_ret
      exact ⟨g, _, cp, rfl, LS, TR⟩

set_option maxRecDepth 100000 in
set_option maxHeartbeats 1600000 in
theorem textLines_calls (s : List UInt8) (hs : s.length ≤ 1048576) (w : World) :
    Calls Tryz.prog 10 #[.string ⟨s.toArray⟩] w fun e w' => ∃ a n c, e = .returned (.slice a n c) ∧ LstS w' a n c (tlines s) ∧ Below w.heap.size w w' := by
  have SP := Lib.hid (pieces10_calls ⟨s.toArray⟩ s w rfl hs)
  obtain ⟨X, HX⟩ : ∃ X : ByteArray, Hid ((⟨s.toArray⟩ : ByteArray) = X) := ⟨_, rfl⟩
  have HW := words_short 10 s
  have hne := wordsOf_ne 10 s
  have HTL : Hid (tlines s = if (wordsOf 10 s).getLastD [] = [] then (wordsOf 10 s).dropLast else wordsOf 10 s) := rfl
  rw [HX.out] at SP
  rw [HX.out]
  go_enter Tryz.func10, Tryz.ntmps10
  go_wp2_with fail
  refine SP.out.mono ?_
  rintro e w1 ⟨g, n, c, rfl, ls, hw1⟩
  have hln := ls.len
  have hcap := ls.cap
  generalize wordsOf 10 s = W at *
  have hn1 : 1 ≤ n := by
    cases W with
    | nil => exact absurd rfl hne
    | cons x y => simp at hln; omega
  have hn2 : n ≤ 1048577 := by omega
  obtain ⟨m, rfl⟩ : ∃ m, n = m + 1 := ⟨n - 1, by omega⟩
  obtain ⟨b, off, e0, hb, hc⟩ := ls.at (by omega)
  simp only [Option.some.injEq, Addr.mk.injEq, and_true] at e0
  obtain ⟨rfl, rfl⟩ := e0
  have c1 := hc m (by omega)
  rw [Nat.zero_add] at c1
  clear hc SP HW
  have elast : W.getLastD [] = W.getD m [] := by rw [getLastD_at, hln]; rfl
  have edrop : W.dropLast = W.take m := by rw [List.dropLast_eq_take, hln]; rfl
  rw [elast, edrop] at HTL
  obtain ⟨Y, HY⟩ : ∃ X : ByteArray, Hid ((⟨(W.getD m []).toArray⟩ : ByteArray) = X) := ⟨_, rfl⟩
  have lp := ls.pre (m := m) (by omega)
  have q1 : (m : Int) < (m : Int) + 1 := by omega
  have q2 : (m : Int) ≤ (m : Int) + 1 := by omega
  have q3 : (0 : Int) ≤ (m : Int) := by omega
  have q4 : (m : Int) ≤ (c : Int) := by omega
  by_cases hl : W.getD m [] = []
  · have hcm : Y.toList.isEmpty = true := by rw [← HY.out, strEmpty]; exact decide_eq_true hl
    rw [if_pos hl] at HTL
    rw [HY.out] at c1
    go_wp2_with fail
    go_ret
    exact ⟨_, _, _, rfl, by rw [HTL.out]; exact lp, hw1⟩
  · have hcm : Y.toList.isEmpty = false := by rw [← HY.out, strEmpty]; exact decide_eq_false hl
    rw [if_neg hl] at HTL
    rw [HY.out] at c1
    go_wp2_with fail
    go_ret
    exact ⟨_, _, _, rfl, by rw [HTL.out]; exact ls, hw1⟩

set_option maxRecDepth 100000 in
set_option maxHeartbeats 1600000 in
theorem lineWords_calls (l : List UInt8) (hl : l.length ≤ 1048576) (w : World) :
    Calls Tryz.prog 11 #[.string ⟨l.toArray⟩] w fun e w' => ∃ a n c, e = .returned (.slice a n c) ∧ LstS w' a n c (lwords l) ∧ Below w.heap.size w w' := by
  have SP := Lib.hid (pieces_calls ⟨l.toArray⟩ l w rfl hl)
  obtain ⟨X, HX⟩ : ∃ X : ByteArray, Hid ((⟨l.toArray⟩ : ByteArray) = X) := ⟨_, rfl⟩
  have HW := words_short 32 l
  have HLW : Hid (lwords l = (wordsOf 32 l).filter (fun p => !p.isEmpty)) := rfl
  rw [HX.out] at SP
  rw [HX.out]
  go_enter Tryz.func11, Tryz.ntmps11
  go_wp2_with fail
  refine SP.out.mono ?_
  rintro e w1 ⟨g, n, c, rfl, ls, hw1⟩
  have hln := ls.len
  generalize wordsOf 32 l = W at *
  have hn2 : n ≤ 1048577 := by omega
  clear HW SP
  go_wp2_with fail
  go_loopw [3, 5] (fun v i wr => ∃ k : Nat, k ≤ n ∧ i = .int .i64 k ∧ OwnX 9 w1.heap.size wr v (((W.take k).filter (fun p => !p.isEmpty)).map sv) ∧ Below w1.heap.size w1 wr) (fun _ i _ => n - (intOf i).toNat)
  case atStart => exact ⟨0, Nat.zero_le _, rfl, OwnX.nil _ _ _, Below.refl _ _⟩
  case round =>
    obtain ⟨k, hk, rfl, hO, hB⟩ := hrel
    by_cases hlt : k < n
    · obtain ⟨b1, o1, e1, g1, c1⟩ := ls.at1b hB (Nat.le_refl _) hlt
      simp only [Option.some.injEq, Addr.mk.injEq, and_true] at e1
      obtain ⟨rfl, rfl⟩ := e1
      rw [Nat.zero_add] at c1
      have HF := Lib.hid (filter_snoc (W := W) (k := k) (by omega))
      have hfl : ((W.take k).filter (fun p => !p.isEmpty)).length ≤ 1048577 := Nat.le_trans (List.length_filter_le _ _) (by rw [List.length_take]; omega)
      obtain ⟨F, HFL⟩ : ∃ t, Hid ((W.take k).filter (fun p => !p.isEmpty) = t) := ⟨_, rfl⟩
      rw [HFL.out] at hO HF hfl
      by_cases he : W.getD k [] = []
      · rw [if_pos he, List.append_nil] at HF
        obtain ⟨Y, HY⟩ : ∃ X : ByteArray, Hid ((⟨(W.getD k []).toArray⟩ : ByteArray) = X) := ⟨_, rfl⟩
        have hcm : Y.toList.isEmpty = true := by rw [← HY.out, strEmpty]; exact decide_eq_true he
        rw [HY.out] at c1
        go_wp2_with fail
        go_roundw
        case rel => exact ⟨k + 1, by omega, by go_num, by rw [HF.out]; exact hO, hB⟩
        case measure => simp [intOf]; omega
      · rw [if_neg he] at HF
        obtain ⟨y, HYL⟩ : ∃ t, Hid (W.getD k [] = t) := ⟨_, rfl⟩
        rw [HYL.out] at HF he c1
        have hcm : (⟨y.toArray⟩ : ByteArray).toList.isEmpty = false := by rw [strEmpty]; exact decide_eq_false he
        obtain ⟨Y, HY⟩ : ∃ X : ByteArray, Hid ((⟨y.toArray⟩ : ByteArray) = X) := ⟨_, rfl⟩
        rw [HY.out] at c1 hcm
        have hle := hB.size
        go_wp2_with (at_builtin; refine wpList_append_x (T := 9) Tryz.underlying24 infoStr rfl (by decide) (by rfl) _ _ (by rfl) w1.heap.size _ (F.map sv) (.string Y) wr.heap.size w1 (by rfl) (by rfl) (by exact hO.below (low_alloc _ _)) (by exact cell_new _ _ _) (by rfl) (by rw [List.length_map]; omega) (by simp; omega) (by exact hB.alloc hle _) ?_; intro v2 w2 hO2 hB2 _ _)
        go_roundw
        case rel => exact ⟨k + 1, by omega, by go_num, by rw [HF.out, List.map_append, List.map_singleton]; unfold sv at hO2 ⊢; rw [HY.out]; exact hO2, hB2⟩
        case measure => simp [intOf]; omega
    · obtain rfl : k = n := by omega
      have HO := hO
      rw [List.take_of_length_le (by omega)] at HO
      obtain ⟨a2, c2, rfl, hl2⟩ := HO.lstS
      rw [← HLW.out] at hl2
      rw [← HLW.out]
      go_wp2_with fail
      go_ret
      exact ⟨_, _, _, rfl, hl2, hw1.trans (hB.mono hw1.size)⟩
end Go.Proofs.YthmiojmlaclgaaaGreatDoor.Fx

/- DeskCounts: each line that has an answer has one line of it. -/
namespace Go.Proofs.YthmiojmlaclgaaaGreatDoor.Fx
open Go.RowKit

theorem itoa_12 : Lib.itoa 1 = [49] ∧ Lib.itoa 2 = [50] := by
  refine ⟨?_, ?_⟩ <;> simp [Lib.itoa, Lib.decDigits]
theorem errA_1 : errA 1 ++ [10] = [101, 114, 114, 111, 114, 32, 49, 10] := by unfold errA; rw [itoa_12.1]; rfl
theorem errA_2 : errA 2 ++ [10] = [101, 114, 114, 111, 114, 32, 50, 10] := by unfold errA; rw [itoa_12.2]; rfl
theorem lwords_full {l x : List UInt8} (h : x ∈ lwords l) : x ≠ [] := by
  have := (List.mem_filter.1 (show x ∈ (wordsOf 32 l).filter (fun p => !p.isEmpty) from h)).2
  intro e
  rw [e] at this
  exact absurd this (by decide)
theorem sil_of {ws : List (List UInt8)} {c : UInt8} {r : List UInt8} (hl : 1 ≤ ws.length) (h : ws.getD 0 [] = c :: r) : silB ws = decide (c = 35) := by
  cases ws with
  | nil => simp at hl
  | cons x xs =>
    have e : x = c :: r := h
    subst e
    unfold silB
    rw [decide_eq_false (by simp), Bool.false_or]
    rfl
theorem runP_large {s : List UInt8} (h : 65536 < s.length ∨ 200 < (tlines s).length) : runP s = [101, 114, 114, 111, 114, 32, 50, 10] := by
  unfold runP
  rw [if_pos h, errA_2]
theorem runP_not {s : List UInt8} (h : ¬ (65536 < s.length ∨ 200 < (tlines s).length)) : runP s = (dTo (tlines s) (tlines s).length).2 := by
  unfold runP
  rw [if_neg h]

set_option maxRecDepth 100000 in
set_option maxHeartbeats 3200000 in
theorem deskCounts_core (s : List UInt8) (hs : s.length ≤ 9223372036854775000) (w : World) (hL : LD w) :
    Calls Tryz.prog 5 #[.string ⟨s.toArray⟩] w fun e w' => e = .returned (.bool true) ∧ Below w.heap.size w w' := by
  obtain ⟨V, HV⟩ : ∃ X : ByteArray, Hid ((⟨#[101, 114, 114, 111, 114, 32, 49, 10]⟩ : ByteArray) = X) := ⟨_, rfl⟩
  have hVc : (V.toList == [101, 114, 114, 111, 114, 32, 49, 10]) = true := by rw [← HV.out]; exact (strEqL [101, 114, 114, 111, 114, 32, 49, 10] _).trans (by decide)
  have hVd : (V.toList != [101, 114, 114, 111, 114, 32, 49, 10]) = false := by unfold bne; rw [hVc]; rfl
  have RA : Hid (Calls Tryz.prog 6 #[.string ⟨#[35, 10, 10, 115, 116, 101, 112]⟩] w fun e w' => e = .returned (.string V) ∧ Below w.heap.size w w') := by
    have h := run_calls tA (by decide) w hL
    rw [run_tA, errA_1] at h
    rw [← HV.out]
    exact h
  have HRS : Hid (∀ q, Below w.heap.size w q → Calls Tryz.prog 6 #[.string ⟨s.toArray⟩] q fun e w' => e = .returned (.string ⟨(runP s).toArray⟩) ∧ Below q.heap.size q w') := fun q hq => run_calls s (by omega) q (hL.below hq (Nat.le_refl _))
  obtain ⟨O, HO⟩ : ∃ X : ByteArray, Hid ((⟨(runP s).toArray⟩ : ByteArray) = X) := ⟨_, rfl⟩
  rw [HO.out] at HRS
  have HTL : Hid (s.length ≤ 65536 → ∀ q, Calls Tryz.prog 10 #[.string ⟨s.toArray⟩] q fun e w' => ∃ a n c, e = .returned (.slice a n c) ∧ LstS w' a n c (tlines s) ∧ Below q.heap.size q w') := fun h q => textLines_calls s (by omega) q
  obtain ⟨S, HS⟩ : ∃ X : ByteArray, Hid ((⟨s.toArray⟩ : ByteArray) = X) := ⟨_, rfl⟩
  have hsl : S.size = s.length := by rw [← HS.out]; rfl
  rw [HS.out] at HRS HTL
  rw [HS.out]
  go_enter Tryz.func5, Tryz.ntmps5
  go_wp2_with fail
  refine RA.out.mono ?_
  rintro e w1 ⟨rfl, hw1⟩
  go_wp2_with fail
  refine (HRS.out _ hw1).mono ?_
  rintro e w2 ⟨rfl, hw2⟩
  have hB2 := hw1.trans (hw2.mono hw1.size)
  clear RA HRS
  by_cases hbig : 65536 < s.length
  · have k1 : (65536 : Int) < (S.size : Int) := by omega
    have hOc : (O.toList == [101, 114, 114, 111, 114, 32, 50, 10]) = true := by rw [← HO.out, runP_large (.inl hbig)]; exact (strEqL [101, 114, 114, 111, 114, 32, 50, 10] _).trans (by decide)
    go_wp2_with fail
    go_ret
    exact ⟨rfl, hB2⟩
  have k1 : ¬ (65536 : Int) < (S.size : Int) := by omega
  have TL := HTL.out (by omega)
  have HTLs := Lib.hid TL
  clear HTL TL
  go_wp2_with fail
  refine (HTLs.out _).mono ?_
  rintro e w3 ⟨a3, n3, c3, rfl, l3, hw3⟩
  have hB3 := hB2.trans (hw3.mono hB2.size)
  have hn3 := l3.len
  by_cases h200 : 200 < (tlines s).length
  · have k2 : (200 : Int) < (n3 : Int) := by omega
    have hOc : (O.toList == [101, 114, 114, 111, 114, 32, 50, 10]) = true := by rw [← HO.out, runP_large (.inr h200)]; exact (strEqL [101, 114, 114, 111, 114, 32, 50, 10] _).trans (by decide)
    go_wp2_with fail
    go_ret
    exact ⟨rfl, hB3⟩
  have k2 : ¬ (200 : Int) < (n3 : Int) := by omega
  have HR : Hid (runP s = (dTo (tlines s) (tlines s).length).2) := runP_not (fun h => h.elim hbig h200)
  have HAN := Lib.hid (ans_count (tlines s) _ (Nat.le_refl _))
  have HSH : Hid (∀ i, ((tlines s).getD i []).length ≤ 65536) := fun i => Nat.le_trans (tline_short s i) (by omega)
  rw [← HR.out] at HAN
  have hAle := ansN_le (tlines s)
  clear l3 hn3 hbig
  go_wp2_with fail
  refine (HTLs.out _).mono ?_
  rintro e w4 ⟨a4, n4, c4, rfl, l4, hw4⟩
  have hB4 := hB3.trans (hw4.mono hB3.size)
  have hn4 := l4.len
  have hn200 : n4 ≤ 200 := by omega
  obtain ⟨ls, HLS⟩ : ∃ t, Hid (tlines s = t) := ⟨_, rfl⟩
  rw [HLS.out] at HAN HSH l4 hn4 hAle
  clear h200
  go_wp2_with fail
  go_loopw [4, 26] (fun v i wr => ∃ k : Nat, k ≤ n4 ∧ v = .int .i64 (ansN ls k : Nat) ∧ i = .int .i64 k ∧ Below w4.heap.size w4 wr) (fun _ i _ => n4 - (intOf i).toNat)
  case atStart => exact ⟨0, Nat.zero_le _, rfl, rfl, Below.refl _ _⟩
  case round =>
    obtain ⟨k, hk, rfl, rfl, hB⟩ := hrel
    by_cases hlt : k < n4
    · obtain ⟨b1, o1, rfl, g1, c1⟩ := l4.at1b hB (Nat.le_refl _) hlt
      have LW := Lib.hid (lineWords_calls (ls.getD k []) (Nat.le_trans (HSH.out k) (by omega)) wr)
      have HNX : Hid (ansN ls (k + 1) = ansN ls k + (if silB (lwords (ls.getD k [])) = true then 0 else 1)) := rfl
      have hak := hAle k
      obtain ⟨A, HA⟩ : ∃ t, Hid (ansN ls k = t) := ⟨_, rfl⟩
      rw [HA.out] at HNX hak
      rw [HA.out]
      obtain ⟨Y, HY⟩ : ∃ X : ByteArray, Hid ((⟨(ls.getD k []).toArray⟩ : ByteArray) = X) := ⟨_, rfl⟩
      rw [HY.out] at c1 LW
      go_wp2_with fail
      refine LW.out.mono ?_
      rintro e w5 ⟨a5, n5, c5, rfl, l5, hw5⟩
      have hn5 := l5.len
      have hB5 := hB.trans (hw5.mono hB.size)
      have HFU : Hid (∀ x, x ∈ lwords (ls.getD k []) → x ≠ []) := fun x hx => lwords_full hx
      obtain ⟨ws, HWS⟩ : ∃ t, Hid (lwords (ls.getD k []) = t) := ⟨_, rfl⟩
      rw [HWS.out] at l5 hn5 HNX HFU
      by_cases h0 : n5 = 0
      · subst h0
        have hws : ws = [] := List.length_eq_zero_iff.1 hn5
        rw [hws, if_pos (by rfl)] at HNX
        clear l5 hn5 hws
        go_wp2_with fail
        go_roundw
        case rel => exact ⟨k + 1, by omega, by rw [HNX.out]; rfl, by go_num, hB5⟩
        case measure => simp [intOf]; omega
      · have k3 : (0 : Int) < (n5 : Int) := by omega
        have k4 : 0 < n5 := by omega
        obtain ⟨b6, o6, rfl, g6, hc6⟩ := l5.at k4
        have c6 := hc6 0 k4
        rw [Nat.add_zero] at c6
        have hxm : ws.getD 0 [] ∈ ws := by
          rw [List.getD_eq_getElem?_getD, List.getElem?_eq_getElem (by omega)]
          exact List.getElem_mem _
        have hxne := HFU.out _ hxm
        obtain ⟨c, r, hx⟩ : ∃ c r, ws.getD 0 [] = c :: r := by
          cases h : ws.getD 0 [] with
          | nil => exact absurd h hxne
          | cons c r => exact ⟨c, r, rfl⟩
        rw [hx] at c6
        have HSI := Lib.hid (sil_of (by omega) hx)
        rw [HSI.out] at HNX
        obtain ⟨X0, HX0⟩ : ∃ X : ByteArray, Hid ((⟨(c :: r).toArray⟩ : ByteArray) = X) := ⟨_, rfl⟩
        rw [HX0.out] at c6
        have hX0 : X0.data.toList = c :: r := by rw [← HX0.out]
        have k5 : 0 < X0.size := by rw [← HX0.out]; show 0 < (c :: r).length; simp
        have k6 : (0 : Int) < (X0.size : Int) := by omega
        obtain ⟨hq, hby⟩ := byte_at hX0 k5
        have hby2 : X0[0] = c := hby
        clear hc6 l5 hn5 hxm hxne hx hX0 hq hby
        by_cases h35 : c = 35
        · have k7 : ((X0[0].toNat : Int) != 35) = false := by rw [hby2, h35]; rfl
          have k8 : ((X0[0].toNat : Int) == 35) = true := by rw [hby2, h35]; rfl
          rw [if_pos (decide_eq_true h35)] at HNX
          clear hby2
          go_wp2_with fail
          go_roundw
          case rel => exact ⟨k + 1, by omega, by rw [HNX.out]; rfl, by go_num, hB5⟩
          case measure => simp [intOf]; omega
        · have k8 : ((X0[0].toNat : Int) == 35) = false := by
            rw [hby2, beq_eq_false_iff_ne]
            intro e
            apply h35
            apply UInt8.toNat_inj.1
            have : ((35 : UInt8).toNat : Int) = 35 := rfl
            omega
          have k7 : ((X0[0].toNat : Int) != 35) = true := by unfold bne; rw [k8]; rfl
          rw [if_neg (by rw [decide_eq_false h35]; decide)] at HNX
          clear hby2
          go_wp2_with fail
          go_roundw
          case rel => exact ⟨k + 1, by omega, by rw [HNX.out]; go_num, by go_num, hB5⟩
          case measure => simp [intOf]; omega
    · obtain rfl : k = n4 := by omega
      have hOd : O.data.toList = runP s := by rw [← HO.out]
      have CT := countB_calls O 10 wr
      have HCT : Lib.countByte O.data.toList 10 = ansN ls k := by
        unfold Lib.countByte
        rw [hOd, HAN.out.1, hn4]
      rw [HCT] at CT
      have hak := hAle k
      obtain ⟨A, HA⟩ : ∃ t, Hid (ansN ls k = t) := ⟨_, rfl⟩
      rw [HA.out] at CT hak
      rw [HA.out]
      have HCTs := Lib.hid CT
      clear CT HCT
      have hBE := hB4.trans (hB.mono hB4.size)
      by_cases he : runP s = []
      · have k3 : O.toList.isEmpty = true := by rw [← HO.out, strEmpty]; exact decide_eq_true he
        clear hOd
        go_wp2_with fail
        refine HCTs.out.mono ?_
        rintro e w' ⟨rfl, hwE⟩
        have hwF := hwE.symm
        subst hwF
        go_wp2_with fail
        go_ret
        exact ⟨rfl, hBE⟩
      · have k3 : O.toList.isEmpty = false := by rw [← HO.out, strEmpty]; exact decide_eq_false he
        have hlast := HAN.out.2.resolve_left he
        have hsz : (runP s).length = O.size := by rw [← HO.out]; rfl
        obtain ⟨m, hm⟩ : ∃ m, O.size = m + 1 := ⟨O.size - 1, by
          have : (runP s).length ≠ 0 := fun e => he (List.length_eq_zero_iff.1 e)
          omega⟩
        have k4 : m < O.size := by omega
        obtain ⟨hq, hby⟩ := byte_at hOd k4
        have hb10 : O[m] = 10 := by
          rw [hby]
          rw [List.getLast?_eq_getElem?, hsz, hm, Nat.add_sub_cancel, List.getElem?_eq_getElem hq] at hlast
          exact Option.some.inj hlast
        have k5 : ((O[m].toNat : Int) == 10) = true := by rw [hb10]; rfl
        have hO2 : O.size ≤ 1000200 := by
          have h1 := (dTo_ok ls ls.length (Nat.le_refl _)).2
          rw [← hsz, HR.out, HLS.out]
          omega
        clear hOd hby hb10 hlast
        go_wp2_with fail
        refine HCTs.out.mono ?_
        rintro e w' ⟨rfl, hwE⟩
        have hwF := hwE.symm
        subst hwF
        go_wp2_with fail
        go_ret
        exact ⟨rfl, hBE⟩
end Go.Proofs.YthmiojmlaclgaaaGreatDoor.Fx
