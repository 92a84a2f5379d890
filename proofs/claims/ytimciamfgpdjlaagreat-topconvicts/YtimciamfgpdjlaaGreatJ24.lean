/- What coachtop.chained returns: records with the chains that belong to them. -/
import Derived.Test.YtimciamfgpdjlaaGreatJ21
import Derived.Test.YtimciamfgpdjlaaGreatJ19
import Derived.Test.YtimciamfgpdjlaaGreatJ23
import Derived.Test.YtimciamfgpdjlaaGreatJ16
import Derived.BigRegion
import Derived.Deep.RegionHeld3
import Derived.Test.YtimciamfgpdjlaaGreatJ05
namespace Go.Proofs.YtimciamfgpdjlaaGreat.Fx
open Go.RowKit

def chainR (x : Rcm) (ch : Int) : Rcm := ⟨x.s, x.a, x.n, x.k, x.r, x.root, ch⟩
/-- The chain behind the first k records. -/
def chnP (head : Int) (L : Nat → Rcm) (DL : Nat → List Int) : Nat → Int
  | 0 => head
  | k + 1 => chV (chnP head L DL k) (L k).s (L k).r (L k).root (L k).n (DL k)
/-- The first k records have the chains that belong to them. -/
def doneR (head : Int) (L : Nat → Rcm) (DL : Nat → List Int) (k j : Nat) : Rcm := if j < k then chainR (L j) (chnP head L DL (j + 1)) else L j
theorem doneR_put (head : Int) (L : Nat → Rcm) (DL : Nat → List Int) (k : Nat) : bentR (doneR head L DL k) k (chainR (L k) (chnP head L DL (k + 1))) = doneR head L DL (k + 1) := by
  funext j
  unfold bentR
  by_cases e : j = k
  · subst e; rw [if_pos rfl]; unfold doneR; rw [if_pos (by omega)]
  · rw [if_neg e]
    unfold doneR
    by_cases hj : j < k
    · rw [if_pos hj, if_pos (by omega)]
    · rw [if_neg hj, if_neg (by omega)]
theorem RowR.chain {w : World} {gb cap N K : Nat} {Rb : Nat → Rcm} (h : RowR w gb cap N Rb) (x : Int) (_hK : K < N) : RowR (w.setCell ⟨gb, K * 5 + 4, none⟩ (.int .u64 x)) gb cap N (bentR Rb K (chainR (Rb K) x)) := by
  obtain ⟨hc, F, hr, hf⟩ := h
  refine ⟨hc, _, hr.set (K * 5 + 4) (.int .u64 x), fun i hi => ?_⟩
  by_cases e : i / 5 = K
  · have hb : bentR Rb K (chainR (Rb K) x) (i / 5) = chainR (Rb K) x := by unfold bentR; rw [if_pos e]
    rw [hb]
    rcases lt5 (Nat.mod_lt i (show 0 < 5 by omega)) with hm | hm | hm | hm | hm
    · rw [if_neg (by omega), hf i hi, e, hm]; rfl
    · rw [if_neg (by omega), hf i hi, e, hm]; rfl
    · rw [if_neg (by omega), hf i hi, e, hm]; rfl
    · rw [if_neg (by omega), hf i hi, e, hm]; rfl
    · rw [if_pos (by omega), hm]; rfl
  · have hb : bentR Rb K (chainR (Rb K) x) (i / 5) = Rb (i / 5) := by unfold bentR; rw [if_neg e]
    rw [hb, if_neg (by omega)]
    exact hf i hi

section
variable {w' W0 : World} {ops : Array Oper} {o : Oper} {a : Act} {Q : Exit → Act → World → Prop}
theorem run_append_anyR (ty : TypeId) (g c N : Nat) (R : Nat → Rcm) (w : World) (hr : ∀ j t, j < N → t < 5 → w.cell? ⟨g, j * 5 + t, none⟩ = some (recC (R j) t)) (hN : N ≤ 1000) :
    ∃ gb cap w1, (Builtin.append_ #[49, 49] ty #[.slice (some ⟨w.heap.size, 0, none⟩) 0 0, .slice (some ⟨g, 0, none⟩) N c]).run Tryz.prog (w.alloc (.cells #[] 30)) = .ok (.slice (some ⟨gb, 0, none⟩) N cap) w1 ∧ w.heap.size ≤ gb ∧ RowR w1 gb cap N R ∧ cap ≤ maxLen ∧ Below w.heap.size w w1 := by
  obtain ⟨i0, hi, hz0, hz1, hz2⟩ := info_parts infoR
  have hal := low_alloc w (.cells #[] 30)
  obtain ⟨v', w1, hrun, h1, h2, h3, _⟩ := run_append_own_at (P := Tryz.prog) (w.alloc (.cells #[] 30)) w.heap.size 49 ty 30 i0 (.agg #[.int .i64 0, .slice none 0 0, .int .i64 0, .int .u64 0, .int .u64 0]) 5 56 Tryz.underlying49 hi hz0 hz1 hz2 rfl (by decide) (.slice (some ⟨w.heap.size, 0, none⟩) 0 0) 0 _ (OwnR.empty w R) ⟨g, 0, none⟩ N c (rcCells R N) (rcCells_len R N)
    (by intro j u hj
        obtain ⟨hj2, rfl⟩ := rcCells_rec R hj
        have hc := hr (j / 5) (j % 5) (by omega) (by omega)
        rw [show j / 5 * 5 + j % 5 = j by omega] at hc
        rw [Go.WideShapes.add_plain, Nat.zero_add]
        exact (hal.cell (p := ⟨g, j, none⟩) (cell_lt hc)).trans hc)
    (rcCells_one R N) (by unfold maxLen; omega) (by omega) (by simp)
  have hne : v' ≠ .slice none 0 0 := fun e => by
    have := (h3.1 e).1
    cases this
  rw [show rcCells R 0 ++ rcCells R N = rcCells R N from rfl, Nat.zero_add] at h1
  obtain ⟨gb, cap, rfl, hb, hrow, hm⟩ := OwnR.row (R := R) h1 hne
  refine ⟨gb, cap, w1, hrun, hb, hrow, hm, hal.grown h2 (by simp) ?_⟩
  intro k hk
  simp [Value.ownBlock] at hk
  omega
theorem wpList_append_anyR {rest : List Oper} (hgd : o.guard = none) (s x : Operand) (ho : o.op = .call { callee := .builtin .append, args := #[s, x], argTypes := #[49, 49] })
    (g c N : Nat) (R : Nat → Rcm) (w : World) (hs : a.eval s = .slice (some ⟨w.heap.size, 0, none⟩) 0 0) (hx : a.eval x = .slice (some ⟨g, 0, none⟩) N c) (hr : ∀ j t, j < N → t < 5 → w.cell? ⟨g, j * 5 + t, none⟩ = some (recC (R j) t)) (hN : N ≤ 1000)
    (h : ∀ gb cap w1, w.heap.size ≤ gb → RowR w1 gb cap N R → cap ≤ maxLen → Below w.heap.size w w1 → wpList Tryz.prog ops Q rest (a.put o.dst (.slice (some ⟨gb, 0, none⟩) N cap)) w1) : wpList Tryz.prog ops Q (o :: rest) a (w.alloc (.cells #[] 30)) := by
  obtain ⟨gb, cap, w1, hrun, h1, h2, h3, h4⟩ := run_append_anyR o.type g c N R w hr hN
  refine wpList_plain hgd fun K hK => ?_
  unfold Oper.wp
  simp [execOp, ho, resolve, invoke, builtin, hs, hx, hrun, Result.andThen]
  exact hK _ _ (h gb cap w1 h1 h2 h3 h4)
end

set_option maxRecDepth 100000 in
theorem cloneR_any (g c N : Nat) (R : Nat → Rcm) (w : World) (hr0 : ∀ j t, j < N → t < 5 → w.cell? ⟨g, j * 5 + t, none⟩ = some (recC (R j) t)) (hN : N ≤ 1000) :
    Calls Tryz.prog 41 #[.slice (some ⟨g, 0, none⟩) N c] w fun e w' => ∃ gb cap, e = .returned (.slice (some ⟨gb, 0, none⟩) N cap) ∧ w.heap.size ≤ gb ∧ RowR w' gb cap N R ∧ cap ≤ maxLen ∧ Below w.heap.size w w' := by
  have q22 : ∀ (w : World) (a : Option Addr) (n c n' c' : Nat), (binOp .eql 49 (.slice a n c) (.slice none n' c')).run Tryz.prog w = .ok (.bool a.isNone) w := fun w a n c n' c' => Lib.run_eql_slice_nil w _ _ a n c n' c' Tryz.underlying49
  have HR : Hid (∀ j t, j < N → t < 5 → w.cell? ⟨g, j * 5 + t, none⟩ = some (recC (R j) t)) := hr0
  clear hr0
  go_enter Tryz.func41, Tryz.ntmps41
  go_wp2_with (at_builtin; refine wpList_append_anyR (by rfl) _ _ (by rfl) g c N R w (by rfl) (by rfl) HR.out hN ?_; intro gb cap w1 h1 h2 h3 h4)
  go_ret
  exact ⟨gb, cap, rfl, h1, h2, h3, h4⟩

set_option maxRecDepth 100000 in
set_option maxHeartbeats 1600000 in
theorem chained_calls (head : Int) (hh : okW head) (g c N : Nat) (L : Nat → Rcm) (DL : Nat → List Int) (w : World) (hl : Recs w (some ⟨g, 0, none⟩) N c L DL) (hN : N ≤ 1000) (hb1 : ∀ j, j < N → (L j).s ≤ 9223372036854775807 ∧ (L j).r ≤ 9223372036854775807 ∧ okW (L j).root ∧ (L j).n ≤ 9223372036854775807 ∧ ∀ i, i < (L j).n → (DL j).getD i 0 ≤ 9223372036854775807) :
    Calls Tryz.prog 42 #[.int .u64 head, .slice (some ⟨g, 0, none⟩) N c] w fun e w' => ((∃ gb cap, e = .returned (.tuple #[.slice (some ⟨gb, 0, none⟩) N cap, .bool true]) ∧ w.heap.size ≤ gb ∧ RowR w' gb cap N (doneR head L DL N) ∧ cap ≤ maxLen ∧ ∀ j, j < N → chB (L j).s (L j).r (L j).n (DL j) = true) ∨ e = .returned (.tuple #[.slice none 0 0, .bool false])) ∧ Below w.heap.size w w' := by
  have hr0 : ∀ j t, j < N → t < 5 → w.cell? ⟨g, j * 5 + t, none⟩ = some (recC (L j) t) := fun j t hj ht => by
    obtain ⟨b, off, e, hc⟩ := hl.at (by omega)
    simp only [Option.some.injEq, Addr.mk.injEq, and_true] at e
    obtain ⟨rfl, rfl⟩ := e
    obtain ⟨a0, a1, a2, a3, a4, _⟩ := hc j hj
    rw [Nat.zero_add] at a0 a1 a2 a3 a4
    rcases lt5 ht with rfl | rfl | rfl | rfl | rfl
    · exact a0
    · exact a1
    · exact a2
    · exact a3
    · exact a4
  have CL := cloneR_any g c N L w hr0 hN
  have HCH : Hid (∀ (k : Nat) (before ch : Int) (q : World), k < N → okW before → Below w.heap.size w q → Calls Tryz.prog 96 #[.int .u64 before, (chainR (L k) ch).val] q fun e w' => e = .returned (.tuple #[.int .u64 (chV before (L k).s (L k).r (L k).root (L k).n (DL k)), .int .i64 (chE (L k).s (L k).r (L k).n (DL k))]) ∧ Below q.heap.size q w') := fun k before ch q hk hbf hq => by
    obtain ⟨b, off, e, hc⟩ := hl.at (by omega)
    obtain ⟨h1, h2, h3, h4, h5⟩ := hb1 k hk
    exact jChain_calls before hbf (chainR (L k) ch) (DL k) q ((hc k hk).2.2.2.2.2.below hq (Nat.le_refl _)) h1 h2 h3 h4 h5
  have HCK : Hid (∀ k, chnP head L DL (k + 1) = chV (chnP head L DL k) (L k).s (L k).r (L k).root (L k).n (DL k)) := fun _ => rfl
  have HOKC : Hid (∀ k, okW (chnP head L DL k)) := fun k => by
    cases k with
    | zero => exact hh
    | succ k =>
      show okW (chV _ _ _ _ _ _)
      unfold chV
      by_cases h : chB (L k).s (L k).r (L k).n (DL k) = true
      · rw [if_pos h]; exact okP_W (ofP_ok _ _)
      · rw [if_neg h]; exact ⟨by omega, by omega⟩
  have HCE : Hid (∀ k, (chE (L k).s (L k).r (L k).n (DL k) = 0 ∧ chB (L k).s (L k).r (L k).n (DL k) = true) ∨ chE (L k).s (L k).r (L k).n (DL k) = 5) := fun k => by
    unfold chE
    by_cases h : chB (L k).s (L k).r (L k).n (DL k) = true
    · rw [if_pos h]; exact .inl ⟨rfl, h⟩
    · rw [if_neg h]; exact .inr rfl
  have HD0 : Hid (doneR head L DL 0 = L) := by show _ = _; funext j; unfold doneR; rw [if_neg (by omega)]
  have HDP : Hid (∀ k, bentR (doneR head L DL k) k (chainR (L k) (chnP head L DL (k + 1))) = doneR head L DL (k + 1)) := fun k => doneR_put head L DL k
  have HDK : Hid (∀ k, doneR head L DL k k = L k) := fun k => by unfold doneR; rw [if_neg (by omega)]
  have HC0 : Hid (chnP head L DL 0 = head) := rfl
  clear hl hb1 hr0 hh
  generalize doneR head L DL = DR at *
  generalize chnP head L DL = CK at *
  go_enter Tryz.func42, Tryz.ntmps42
  go_wp2_with fail
  refine CL.mono ?_
  rintro e w1 ⟨gb, cap, rfl, hgb, hrow, hcap, hw1⟩
  have HRW : Hid (RowR w1 gb cap N (DR 0)) := by rw [HD0.out]; exact hrow
  have hNc := hrow.1
  clear CL hrow HD0
  go_wp2_with fail
  go_loopw [0, 13] (fun u v wr => ∃ k : Nat, k ≤ N ∧ u = .int .u64 (CK k) ∧ v = .int .i64 k ∧ Hid (RowR wr gb cap N (DR k)) ∧ Hid (∀ j, j < k → chB (L j).s (L j).r (L j).n (DL j) = true) ∧ Below w.heap.size w wr) (fun _ v _ => N - (intOf v).toNat)
  case atStart => exact ⟨0, Nat.zero_le _, by rw [HC0.out], rfl, HRW, fun j hj => by omega, hw1⟩
  case round =>
    obtain ⟨k, hk, rfl, rfl, hrw, hall, hbel⟩ := hrel
    by_cases hlt : k < N
    · have r0 := hrw.out.cell (j := k) (t := 0) hlt (by omega)
      have r1 := hrw.out.cell (j := k) (t := 1) hlt (by omega)
      have r2 := hrw.out.cell (j := k) (t := 2) hlt (by omega)
      have r3 := hrw.out.cell (j := k) (t := 3) hlt (by omega)
      have r4 := hrw.out.cell (j := k) (t := 4) hlt (by omega)
      rw [HDK.out k] at r0 r1 r2 r3 r4
      have CH := HCH.out k (CK k) (L k).chain wr hlt (HOKC.out k) hbel
      have hce := HCE.out k
      have hdp := HDP.out k
      have hck := HCK.out k
      have hyes : chB (L k).s (L k).r (L k).n (DL k) = true → ∀ j, j < k + 1 → chB (L j).s (L j).r (L j).n (DL j) = true := fun q j hj => by
        by_cases e : j = k
        · subst e; exact q
        · exact hall.out j (by omega)
      rw [← hck] at CH
      have HST : Hid (∀ q, Below wr.heap.size wr q → RowR (q.setCell ⟨gb, k * 5 + 4, none⟩ (.int .u64 (CK (k + 1)))) gb cap N (DR (k + 1)) ∧ q.cell? ⟨gb, k * 5 + 4, none⟩ = some (.int .u64 (L k).chain) ∧ q.frozen? ⟨gb, k * 5 + 4, none⟩ = false) := fun q hq => by
        have hr := hrw.out.below hq
        have h := hr.chain (CK (k + 1)) (K := k) hlt
        rw [HDK.out k, hdp] at h
        have c4 := hr.cell (j := k) (t := 4) hlt (by omega)
        rw [HDK.out k] at c4
        exact ⟨h, c4, hr.frozen _⟩
      have HYES : Hid (chB (L k).s (L k).r (L k).n (DL k) = true → ∀ j, j < k + 1 → chB (L j).s (L j).r (L j).n (DL j) = true) := hyes
      have kk0 : (0 : Int) ≤ (k : Int) := by omega
      have kk1 : (k : Int) < (N : Int) := by omega
      rw [Nat.add_zero] at r0
      clear hdp hck hyes hrw hall
      generalize chB (L k).s (L k).r (L k).n (DL k) = QC at *
      generalize chE (L k).s (L k).r (L k).n (DL k) = EC at *
      generalize L k = x at *
      obtain ⟨xs0, xa, xn, xk, xr, xroot, xchain⟩ := x
      simp only [chainR, Rcm.val, Rcm.cells, recC, fn5] at *
      rcases hce with ⟨hE, hQ⟩ | hE
      · subst hE hQ
        go_wp2_with fail
        refine CH.mono ?_
        rintro e w2 ⟨rfl, hw2⟩
        obtain ⟨hst, c4, f4⟩ := HST.out w2 hw2
        have HS2 : Hid (RowR (w2.setCell ⟨gb, k * 5 + 4, none⟩ (.int .u64 (CK (k + 1)))) gb cap N (DR (k + 1))) := hst
        have hb2 := hbel.trans (hw2.mono hbel.size)
        clear hst HST CH r0 r1 r2 r3 r4
        go_wp2_with fail
        go_roundw
        case rel => exact ⟨k + 1, by omega, rfl, by go_num, HS2, HYES.out (by trivial), hb2.setCell hgb _⟩
        case measure => simp [intOf]; omega
      · subst hE
        go_wp2_with fail
        refine CH.mono ?_
        rintro e w2 ⟨rfl, hw2⟩
        go_wp2_with fail
        go_ret2
        exact ⟨.inr rfl, hbel.trans (hw2.mono hbel.size)⟩
    · obtain rfl : k = N := by omega
      go_wp2_with fail
      go_ret2
      exact ⟨.inl ⟨gb, cap, rfl, hgb, hrw.out, hcap, hall.out⟩, hbel⟩
end Go.Proofs.YtimciamfgpdjlaaGreat.Fx

/- What slices.Equal says of two lists of words. -/
namespace Go.Proofs.YtimciamfgpdjlaaGreat.Fx
open Go.RowKit

theorem ret_boolW {a b : Bool} (h : a = b) : Ending.returned (.bool a) = .returned (.bool b) := by rw [h]

theorem weq_of_getD {xs ys : List Int} {n : Nat} (hx : xs.length = n) (hy : ys.length = n) (h : ∀ j, j < n → xs.getD j 0 = ys.getD j 0) : xs = ys := by
  refine List.ext_getElem (by omega) (fun i h1 h2 => ?_)
  have := h i (by omega)
  rw [List.getD_eq_getElem?_getD, List.getD_eq_getElem?_getD, List.getElem?_eq_getElem h1, List.getElem?_eq_getElem h2] at this
  exact this

set_option maxHeartbeats 400000 in
theorem weq_calls (a b : Option Addr) (la ca lb cb : Nat) (xs ys : List Int) (w : World) (ha : LstW w a la ca xs) (hb : LstW w b lb cb ys) (h63 : la ≤ 1000000000000000000) :
    Calls Tryz.prog 100 #[.slice a la ca, .slice b lb cb] w fun e w' => e = .returned (.bool (decide (xs = ys))) ∧ ∃ k, w' = w.drewN k := by
  by_cases hl : la = lb
  · subst hl
    have hab : ((la : Int) != (la : Int)) = false := by simp
    go_enter Tryz.func100, Tryz.ntmps100
    go_wp2
    go_loopw [13] (fun i wr => ∃ k n : Nat, k ≤ la ∧ i = .int .i64 k ∧ Hid (∀ j, j < k → xs.getD j 0 = ys.getD j 0) ∧ wr = w.drewN n) (fun i _ => la - (intOf i).toNat)
    case atStart => exact ⟨0, 0, Nat.zero_le _, rfl, fun j hj => by omega, rfl⟩
    case round =>
      obtain ⟨k, n, hk, rfl, he, rfl⟩ := hrel
      by_cases hlt : k < la
      · obtain ⟨b1, o1, x, rfl, _, c1, HX⟩ := ha.at1 hlt
        obtain ⟨b2, o2, y, rfl, _, c2, HY⟩ := hb.at1 hlt
        by_cases hxy : x = y
        · subst hxy
          have hne : (x != x) = false := by simp
          go_wp2
          go_quiet (fail)
          go_wp2
          go_roundw
          case rel => exact ⟨k + 1, _, by omega, by go_num, fun j hj => by
            by_cases e : j = k
            · subst e; rw [HX.out, HY.out]
            · exact he.out j (by omega), rfl⟩
          case measure => simp [intOf]; omega
        · have hne : (x != y) = true := by simpa using hxy
          go_wp2
          go_quiet (fail)
          go_wp2
          go_ret
          refine ⟨ret_boolW ?_, _, World.drewN_drewN _ _ _⟩
          exact (decide_eq_false (fun e => hxy (by rw [← HX.out, ← HY.out, e]))).symm
      · go_wp2
        go_ret
        refine ⟨ret_boolW ?_, _, rfl⟩
        exact (decide_eq_true (weq_of_getD ha.len hb.len (fun j hj => he.out j (by omega)))).symm
  · have hab : ((la : Int) != (lb : Int)) = true := by rw [bne_iff_ne]; omega
    go_enter Tryz.func100, Tryz.ntmps100
    go_wp2
    go_ret
    refine ⟨ret_boolW ?_, 0, rfl⟩
    exact (decide_eq_false (fun e => hl (by rw [← ha.len, ← hb.len, e]))).symm

end Go.Proofs.YtimciamfgpdjlaaGreat.Fx

/- What coachtop.alike returns: are all numbers the same by P? -/
namespace Go.Proofs.YtimciamfgpdjlaaGreat.Fx
open Go.RowKit

/-- Of that record the words can be told. -/
structure WdOk (x : Rcm) (bs : List Int) : Prop where
  s : 0 ≤ x.s ∧ x.s ≤ 9223372036854775807
  r : 0 ≤ x.r ∧ x.r ≤ 9223372036854775807
  root : okW x.root
  n : x.n ≤ 8
  bd : ∀ j, j < x.n → 0 ≤ bs.getD j 0 ∧ bs.getD j 0 ≤ 9223372036854775807
def wdR (before : Int) (x : Rcm) (bs : List Int) : List Int := wordsP before x.s x.r x.root bs
theorem Recs.at0 {w : World} {g n c : Nat} {R : Nat → Rcm} {D : Nat → List Int} (h : Recs w (some ⟨g, 0, none⟩) n c R D) {i : Nat} (hi : i < n) : w.cell? ⟨g, i * 5, none⟩ = some (.int .i64 (R i).s) ∧ w.cell? ⟨g, i * 5 + 1, none⟩ = some (.slice (R i).a (R i).n (R i).k) ∧ w.cell? ⟨g, i * 5 + 2, none⟩ = some (.int .i64 (R i).r) ∧ w.cell? ⟨g, i * 5 + 3, none⟩ = some (.int .u64 (R i).root) ∧ w.cell? ⟨g, i * 5 + 4, none⟩ = some (.int .u64 (R i).chain) ∧ Lst w (R i).a (R i).n (R i).k (D i) := by
  obtain ⟨b, off, e, hc⟩ := h.at (by omega)
  simp only [Option.some.injEq, Addr.mk.injEq, and_true] at e
  obtain ⟨rfl, rfl⟩ := e
  have hh := hc i hi
  rw [Nat.zero_add] at hh
  exact hh

set_option maxRecDepth 100000 in
set_option maxHeartbeats 3200000 in
theorem alike_calls (g1 c1 g2 c2 N : Nat) (L1 L2 : Nat → Rcm) (D1 D2 : Nat → List Int) (w : World) (h1 : Recs w (some ⟨g1, 0, none⟩) N c1 L1 D1) (h2 : Recs w (some ⟨g2, 0, none⟩) N c2 L2 D2) (hN : N ≤ 1000) (k1 : ∀ j, j < N → WdOk (L1 j) (D1 j)) (k2 : ∀ j, j < N → WdOk (L2 j) (D2 j)) (hall : ∀ j, j < N → wdR 0 (L1 j) (D1 j) = wdR 0 (L2 j) (D2 j)) :
    Calls Tryz.prog 45 #[.slice (some ⟨g1, 0, none⟩) N c1, .slice (some ⟨g2, 0, none⟩) N c2] w fun e w' => e = .returned (.bool true) ∧ Below w.heap.size w w' := by
  have HW : Hid (∀ (k : Nat) (x : Rcm) (bs : List Int) (q : World), WdOk x bs → Lst q x.a x.n x.k bs → Calls Tryz.prog 99 #[.int .u64 0, x.val] q fun e w' => ∃ a c, e = .returned (.slice a (5 + x.n) c) ∧ LstW w' a (5 + x.n) c (wdR 0 x bs) ∧ Below q.heap.size q w') := fun _ x bs q hk hl => words_calls 0 ⟨by omega, by omega⟩ x bs q hl hk.s hk.r hk.root hk.n hk.bd
  have HA : Hid (∀ j, j < N → wdR 0 (L1 j) (D1 j) = wdR 0 (L2 j) (D2 j)) := hall
  have H1 : Hid (∀ j, j < N → WdOk (L1 j) (D1 j)) := k1
  have H2 : Hid (∀ j, j < N → WdOk (L2 j) (D2 j)) := k2
  clear hall k1 k2
  go_enter Tryz.func45, Tryz.ntmps45
  go_wp2_with fail
  go_loopw [8] (fun v wr => ∃ k : Nat, k ≤ N ∧ v = .int .i64 k ∧ Below w.heap.size w wr) (fun v _ => N - (intOf v).toNat)
  case atStart => exact ⟨0, Nat.zero_le _, rfl, Below.refl _ _⟩
  case round =>
    obtain ⟨k, hk, rfl, hbel⟩ := hrel
    by_cases hlt : k < N
    · obtain ⟨e0, e1, e2, e3, e4, lx0⟩ := (h1.below hbel (Nat.le_refl _)).at0 hlt
      obtain ⟨f0, f1, f2, f3, f4, ly0⟩ := (h2.below hbel (Nat.le_refl _)).at0 hlt
      have o1 := H1.out k hlt
      have o2 := H2.out k hlt
      have hn1 := o1.n
      have hn2 := o2.n
      have WX0 : ∀ q, Below wr.heap.size wr q → Calls Tryz.prog 99 #[.int .u64 0, (L1 k).val] q fun e w' => ∃ a c, e = .returned (.slice a (5 + (L1 k).n) c) ∧ LstW w' a (5 + (L1 k).n) c (wdR 0 (L1 k) (D1 k)) ∧ Below q.heap.size q w' := fun q hq => HW.out k (L1 k) (D1 k) q o1 (lx0.below hq (Nat.le_refl _))
      have WY0 : ∀ q, Below wr.heap.size wr q → Calls Tryz.prog 99 #[.int .u64 0, (L2 k).val] q fun e w' => ∃ a c, e = .returned (.slice a (5 + (L2 k).n) c) ∧ LstW w' a (5 + (L2 k).n) c (wdR 0 (L2 k) (D2 k)) ∧ Below q.heap.size q w' := fun q hq => HW.out k (L2 k) (D2 k) q o2 (ly0.below hq (Nat.le_refl _))
      have hal := HA.out k hlt
      rw [← hal] at WY0
      generalize wdR 0 (L1 k) (D1 k) = WL at *
      clear hal o1 o2 lx0 ly0
      generalize L1 k = x at *
      generalize L2 k = y at *
      obtain ⟨xs0, xa, xn, xk, xr, xroot, xchain⟩ := x
      obtain ⟨ys0, ya, yn, yk, yr, yroot, ychain⟩ := y
      simp only [Rcm.val, Rcm.cells] at *
      have WX : Hid (∀ q, Below wr.heap.size wr q → Calls Tryz.prog 99 #[.int .u64 0, (.agg #[.int .i64 xs0, .slice xa xn xk, .int .i64 xr, .int .u64 xroot, .int .u64 xchain])] q fun e w' => ∃ a c, e = .returned (.slice a (5 + xn) c) ∧ LstW w' a (5 + xn) c WL ∧ Below q.heap.size q w') := WX0
      have WY : Hid (∀ q, Below wr.heap.size wr q → Calls Tryz.prog 99 #[.int .u64 0, (.agg #[.int .i64 ys0, .slice ya yn yk, .int .i64 yr, .int .u64 yroot, .int .u64 ychain])] q fun e w' => ∃ a c, e = .returned (.slice a (5 + yn) c) ∧ LstW w' a (5 + yn) c WL ∧ Below q.heap.size q w') := WY0
      have KS : Hid (∀ q, Below wr.heap.size wr q → q.cell? ⟨g1, k * 5, none⟩ = some (.int .i64 xs0) ∧ q.cell? ⟨g1, k * 5 + 1, none⟩ = some (.slice xa xn xk) ∧ q.cell? ⟨g1, k * 5 + 2, none⟩ = some (.int .i64 xr) ∧ q.cell? ⟨g1, k * 5 + 3, none⟩ = some (.int .u64 xroot) ∧ q.cell? ⟨g1, k * 5 + 4, none⟩ = some (.int .u64 xchain) ∧ q.cell? ⟨g2, k * 5, none⟩ = some (.int .i64 ys0) ∧ q.cell? ⟨g2, k * 5 + 1, none⟩ = some (.slice ya yn yk) ∧ q.cell? ⟨g2, k * 5 + 2, none⟩ = some (.int .i64 yr) ∧ q.cell? ⟨g2, k * 5 + 3, none⟩ = some (.int .u64 yroot) ∧ q.cell? ⟨g2, k * 5 + 4, none⟩ = some (.int .u64 ychain)) := fun q hq => ⟨(hq.cell (p := ⟨g1, k * 5, none⟩) (cell_lt e0)).trans e0, (hq.cell (p := ⟨g1, k * 5 + 1, none⟩) (cell_lt e1)).trans e1, (hq.cell (p := ⟨g1, k * 5 + 2, none⟩) (cell_lt e2)).trans e2, (hq.cell (p := ⟨g1, k * 5 + 3, none⟩) (cell_lt e3)).trans e3, (hq.cell (p := ⟨g1, k * 5 + 4, none⟩) (cell_lt e4)).trans e4, (hq.cell (p := ⟨g2, k * 5, none⟩) (cell_lt f0)).trans f0, (hq.cell (p := ⟨g2, k * 5 + 1, none⟩) (cell_lt f1)).trans f1, (hq.cell (p := ⟨g2, k * 5 + 2, none⟩) (cell_lt f2)).trans f2, (hq.cell (p := ⟨g2, k * 5 + 3, none⟩) (cell_lt f3)).trans f3, (hq.cell (p := ⟨g2, k * 5 + 4, none⟩) (cell_lt f4)).trans f4⟩
      have VB : Below wr.heap.size wr wr.drew := Below.drew (Below.refl _ _)
      have SB := KS.out _ VB
      have i0 : (0 : Int) ≤ (k : Int) := by omega
      have i1 : (k : Int) < (N : Int) := by omega
      clear WX0 WY0 e0 e1 e2 e3 e4 f0 f1 f2 f3 f4
      go_wp2_with fail
      go_region_held3 (fun q => q.cell? ⟨g1, k * 5, none⟩ = some (.int .i64 xs0) ∧ q.cell? ⟨g1, k * 5 + 1, none⟩ = some (.slice xa xn xk) ∧ q.cell? ⟨g1, k * 5 + 2, none⟩ = some (.int .i64 xr) ∧ q.cell? ⟨g1, k * 5 + 3, none⟩ = some (.int .u64 xroot) ∧ q.cell? ⟨g1, k * 5 + 4, none⟩ = some (.int .u64 xchain) ∧ q.cell? ⟨g2, k * 5, none⟩ = some (.int .i64 ys0) ∧ q.cell? ⟨g2, k * 5 + 1, none⟩ = some (.slice ya yn yk) ∧ q.cell? ⟨g2, k * 5 + 2, none⟩ = some (.int .i64 yr) ∧ q.cell? ⟨g2, k * 5 + 3, none⟩ = some (.int .u64 yroot) ∧ q.cell? ⟨g2, k * 5 + 4, none⟩ = some (.int .u64 ychain)) (first | with_reducible exact SE | with_reducible exact SX | with_reducible exact SY | with_reducible exact SB)
        (first | (go_at_call_of 99 (Value.agg #[.int .i64 xs0, .slice xa xn xk, .int .i64 xr, .int .u64 xroot, .int .u64 xchain]); refine (WX.out _ (by first | with_reducible exact VB | with_reducible exact VY)).mono ?_; rintro e qx ⟨ax, cx, rfl, lx, hqx⟩; have VX := (show Below wr.heap.size wr _ by first | with_reducible exact VB | with_reducible exact VY).trans (hqx.mono (by first | exact VB.size | exact VY.size)); have SX := KS.out _ VX) | (go_at_call_of 99 (Value.agg #[.int .i64 ys0, .slice ya yn yk, .int .i64 yr, .int .u64 yroot, .int .u64 ychain]); refine (WY.out _ (by first | with_reducible exact VB | with_reducible exact VX)).mono ?_; rintro e qy ⟨ay, cy, rfl, ly, hqy⟩; have VY := (show Below wr.heap.size wr _ by first | with_reducible exact VB | with_reducible exact VX).trans (hqy.mono (by first | exact VB.size | exact VX.size)); have SY := KS.out _ VY) | (go_at_call 100; refine (weq_calls _ _ _ _ _ _ _ _ _ (by first | with_reducible exact lx | exact lx.below hqy (Nat.le_refl _)) (by first | with_reducible exact ly | exact ly.below hqx (Nat.le_refl _)) (by omega)).mono ?_; rintro e qe ⟨rfl, ke, hqe⟩; have VE : Below wr.heap.size wr qe := (by rw [hqe]; first | with_reducible exact below_drewN VX ke | with_reducible exact below_drewN VY ke); clear hqe; have SE := KS.out _ VE))
      all_goals
        go_wp2_with fail
        go_roundw
        case rel => exact ⟨k + 1, by omega, by go_num, hbel.trans (VE.mono hbel.size)⟩
        case measure => simp [intOf]; omega
    · obtain rfl : k = N := by omega
      go_wp2_with fail
      go_ret
      exact ⟨rfl, hbel⟩
end Go.Proofs.YtimciamfgpdjlaaGreat.Fx

/- What coachtop.collide returns: where it says no, no two unlike lists of words make the same. -/
namespace Go.Proofs.YtimciamfgpdjlaaGreat.Fx
open Go.RowKit

/-- The chain behind the first k records, by their words. -/
def wcP (head : Int) (L : Nat → Rcm) (D : Nat → List Int) : Nat → Int
  | 0 => head
  | k + 1 => ofP 6 (wdR (wcP head L D k) (L k) (D k))
theorem wcP_ok {head : Int} (hh : okW head) (L : Nat → Rcm) (D : Nat → List Int) : ∀ k, okW (wcP head L D k)
  | 0 => hh
  | _ + 1 => okP_W (ofP_ok _ _)
theorem wdR_ok (before : Int) (x : Rcm) (bs : List Int) (h : bs.length ≤ 8) : okL (wdR before x bs) := by
  unfold wdR wordsP
  refine okL_app ?_ ?_
  · intro i hi
    have h5 : i < 5 := by simpa using hi
    rcases lt5 h5 with rfl | rfl | rfl | rfl | rfl
    · exact okP_W (restP_ok _)
    · exact okP_W (restP_ok _)
    · exact okP_W (restP_ok _)
    · exact okP_W (restP_ok _)
    · exact ⟨by simp, by simp; omega⟩
  · intro i hi
    rw [List.length_map] at hi
    rw [List.getD_eq_getElem?_getD, List.getElem?_map, List.getElem?_eq_getElem hi]
    exact okP_W (restP_ok _)

set_option maxRecDepth 100000 in
set_option maxHeartbeats 3200000 in
theorem collide_calls (head : Int) (hh : okW head) (g1 c1 g2 c2 N : Nat) (L1 L2 : Nat → Rcm) (D1 D2 : Nat → List Int) (w : World) (h1 : Recs w (some ⟨g1, 0, none⟩) N c1 L1 D1) (h2 : Recs w (some ⟨g2, 0, none⟩) N c2 L2 D2) (hN : N ≤ 1000) (k1 : ∀ j, j < N → WdOk (L1 j) (D1 j)) (k2 : ∀ j, j < N → WdOk (L2 j) (D2 j)) :
    Calls Tryz.prog 44 #[.int .u64 head, .slice (some ⟨g1, 0, none⟩) N c1, .slice (some ⟨g2, 0, none⟩) N c2] w fun e w' => (e = .returned (.bool true) ∨ (e = .returned (.bool false) ∧ ∀ j, j < N → wdR (wcP head L1 D1 j) (L1 j) (D1 j) = wdR (wcP head L2 D2 j) (L2 j) (D2 j) ∨ wcP head L1 D1 (j + 1) ≠ wcP head L2 D2 (j + 1))) ∧ Below w.heap.size w w' := by
  have HW : Hid (∀ (before : Int) (x : Rcm) (bs : List Int) (q : World), okW before → WdOk x bs → Lst q x.a x.n x.k bs → Calls Tryz.prog 99 #[.int .u64 before, x.val] q fun e w' => ∃ a c, e = .returned (.slice a (5 + x.n) c) ∧ LstW w' a (5 + x.n) c (wdR before x bs) ∧ Below q.heap.size q w') := fun before x bs q hb hk hl => words_calls before hb x bs q hl hk.s hk.r hk.root hk.n hk.bd
  have H1 : Hid (∀ j, j < N → WdOk (L1 j) (D1 j)) := k1
  have H2 : Hid (∀ j, j < N → WdOk (L2 j) (D2 j)) := k2
  have HO1 := wcP_ok hh L1 D1
  have HO2 := wcP_ok hh L2 D2
  have HK1 : Hid (∀ k, okW (wcP head L1 D1 k)) := HO1
  have HK2 : Hid (∀ k, okW (wcP head L2 D2 k)) := HO2
  have HS1 : Hid (∀ k, ofP 6 (wdR (wcP head L1 D1 k) (L1 k) (D1 k)) = wcP head L1 D1 (k + 1)) := fun _ => rfl
  have HS2 : Hid (∀ k, ofP 6 (wdR (wcP head L2 D2 k) (L2 k) (D2 k)) = wcP head L2 D2 (k + 1)) := fun _ => rfl
  have HZ1 : Hid (wcP head L1 D1 0 = head) := rfl
  have HZ2 : Hid (wcP head L2 D2 0 = head) := rfl
  clear k1 k2 HO1 HO2
  generalize wcP head L1 D1 = CX at *
  generalize wcP head L2 D2 = CY at *
  go_enter Tryz.func44, Tryz.ntmps44
  go_wp2_with fail
  go_loopw [7, 8, 20] (fun u v t wr => ∃ k : Nat, k ≤ N ∧ u = .int .u64 (CX k) ∧ v = .int .u64 (CY k) ∧ t = .int .i64 k ∧ Hid (∀ j, j < k → wdR (CX j) (L1 j) (D1 j) = wdR (CY j) (L2 j) (D2 j) ∨ CX (j + 1) ≠ CY (j + 1)) ∧ Below w.heap.size w wr) (fun _ _ t _ => N - (intOf t).toNat)
  case atStart => exact ⟨0, Nat.zero_le _, by rw [HZ1.out], by rw [HZ2.out], rfl, fun j hj => by omega, Below.refl _ _⟩
  case round =>
    obtain ⟨k, hk, rfl, rfl, rfl, hall, hbel⟩ := hrel
    by_cases hlt : k < N
    · obtain ⟨e0, e1, e2, e3, e4, lx0⟩ := (h1.below hbel (Nat.le_refl _)).at0 hlt
      obtain ⟨f0, f1, f2, f3, f4, ly0⟩ := (h2.below hbel (Nat.le_refl _)).at0 hlt
      have o1 := H1.out k hlt
      have o2 := H2.out k hlt
      have hn1 := o1.n
      have hn2 := o2.n
      have WX0 : ∀ q, Below wr.heap.size wr q → Calls Tryz.prog 99 #[.int .u64 (CX k), (L1 k).val] q fun e w' => ∃ a c, e = .returned (.slice a (5 + (L1 k).n) c) ∧ LstW w' a (5 + (L1 k).n) c (wdR (CX k) (L1 k) (D1 k)) ∧ Below q.heap.size q w' := fun q hq => HW.out _ (L1 k) (D1 k) q (HK1.out k) o1 (lx0.below hq (Nat.le_refl _))
      have WY0 : ∀ q, Below wr.heap.size wr q → Calls Tryz.prog 99 #[.int .u64 (CY k), (L2 k).val] q fun e w' => ∃ a c, e = .returned (.slice a (5 + (L2 k).n) c) ∧ LstW w' a (5 + (L2 k).n) c (wdR (CY k) (L2 k) (D2 k)) ∧ Below q.heap.size q w' := fun q hq => HW.out _ (L2 k) (D2 k) q (HK2.out k) o2 (ly0.below hq (Nat.le_refl _))
      have q1 := lx0.len
      have q2 := ly0.len
      have ok1 := wdR_ok (CX k) (L1 k) (D1 k) (by omega)
      have ok2 := wdR_ok (CY k) (L2 k) (D2 k) (by omega)
      have s1 := HS1.out k
      have s2 := HS2.out k
      have HNX : Hid ((wdR (CX k) (L1 k) (D1 k) = wdR (CY k) (L2 k) (D2 k) ∨ CX (k + 1) ≠ CY (k + 1)) → ∀ j, j < k + 1 → wdR (CX j) (L1 j) (D1 j) = wdR (CY j) (L2 j) (D2 j) ∨ CX (j + 1) ≠ CY (j + 1)) := fun h j hj => by
        by_cases e : j = k
        · subst e; exact h
        · exact hall.out j (by omega)
      clear o1 o2 lx0 ly0 q1 q2 hall
      generalize wdR (CX k) (L1 k) (D1 k) = WLX at *
      generalize wdR (CY k) (L2 k) (D2 k) = WLY at *
      have HOX : Hid (okL WLX) := ok1
      have HOY : Hid (okL WLY) := ok2
      have HSX : Hid (ofP 6 WLX = CX (k + 1)) := s1
      have HSY : Hid (ofP 6 WLY = CY (k + 1)) := s2
      clear ok1 ok2 s1 s2
      generalize L1 k = x at *
      generalize L2 k = y at *
      obtain ⟨xs0, xa, xn, xk, xr, xroot, xchain⟩ := x
      obtain ⟨ys0, ya, yn, yk, yr, yroot, ychain⟩ := y
      simp only [Rcm.val, Rcm.cells] at *
      have WX : Hid (∀ q, Below wr.heap.size wr q → Calls Tryz.prog 99 #[.int .u64 (CX k), (.agg #[.int .i64 xs0, .slice xa xn xk, .int .i64 xr, .int .u64 xroot, .int .u64 xchain])] q fun e w' => ∃ a c, e = .returned (.slice a (5 + xn) c) ∧ LstW w' a (5 + xn) c WLX ∧ Below q.heap.size q w') := WX0
      have WY : Hid (∀ q, Below wr.heap.size wr q → Calls Tryz.prog 99 #[.int .u64 (CY k), (.agg #[.int .i64 ys0, .slice ya yn yk, .int .i64 yr, .int .u64 yroot, .int .u64 ychain])] q fun e w' => ∃ a c, e = .returned (.slice a (5 + yn) c) ∧ LstW w' a (5 + yn) c WLY ∧ Below q.heap.size q w') := WY0
      have HOFX : Hid (∀ (a : Option Addr) (c : Nat) (q : World), LstW q a (5 + xn) c WLX → Calls Tryz.prog 76 #[.int .u64 6, .slice a (5 + xn) c] q fun e w' => ∃ z, e = .returned (.tuple #[.int .u64 (CX (k + 1)), .int .i64 z]) ∧ Below q.heap.size q w') := fun a c q hl => by
        have h := dOf_calls 6 ⟨by omega, by omega⟩ a (5 + xn) c WLX q hl HOX.out
        have e : ofA 6 WLX (5 + xn) = CX (k + 1) := by rw [← HSX.out]; unfold ofA; rw [if_neg (by omega)]
        rw [e] at h
        exact h.mono fun e w' ⟨he, hb⟩ => ⟨_, he, hb⟩
      have HOFY : Hid (∀ (a : Option Addr) (c : Nat) (q : World), LstW q a (5 + yn) c WLY → Calls Tryz.prog 76 #[.int .u64 6, .slice a (5 + yn) c] q fun e w' => ∃ z, e = .returned (.tuple #[.int .u64 (CY (k + 1)), .int .i64 z]) ∧ Below q.heap.size q w') := fun a c q hl => by
        have h := dOf_calls 6 ⟨by omega, by omega⟩ a (5 + yn) c WLY q hl HOY.out
        have e : ofA 6 WLY (5 + yn) = CY (k + 1) := by rw [← HSY.out]; unfold ofA; rw [if_neg (by omega)]
        rw [e] at h
        exact h.mono fun e w' ⟨he, hb⟩ => ⟨_, he, hb⟩
      have KS : Hid (∀ q, Below wr.heap.size wr q → q.cell? ⟨g1, k * 5, none⟩ = some (.int .i64 xs0) ∧ q.cell? ⟨g1, k * 5 + 1, none⟩ = some (.slice xa xn xk) ∧ q.cell? ⟨g1, k * 5 + 2, none⟩ = some (.int .i64 xr) ∧ q.cell? ⟨g1, k * 5 + 3, none⟩ = some (.int .u64 xroot) ∧ q.cell? ⟨g1, k * 5 + 4, none⟩ = some (.int .u64 xchain) ∧ q.cell? ⟨g2, k * 5, none⟩ = some (.int .i64 ys0) ∧ q.cell? ⟨g2, k * 5 + 1, none⟩ = some (.slice ya yn yk) ∧ q.cell? ⟨g2, k * 5 + 2, none⟩ = some (.int .i64 yr) ∧ q.cell? ⟨g2, k * 5 + 3, none⟩ = some (.int .u64 yroot) ∧ q.cell? ⟨g2, k * 5 + 4, none⟩ = some (.int .u64 ychain)) := fun q hq => ⟨(hq.cell (p := ⟨g1, k * 5, none⟩) (cell_lt e0)).trans e0, (hq.cell (p := ⟨g1, k * 5 + 1, none⟩) (cell_lt e1)).trans e1, (hq.cell (p := ⟨g1, k * 5 + 2, none⟩) (cell_lt e2)).trans e2, (hq.cell (p := ⟨g1, k * 5 + 3, none⟩) (cell_lt e3)).trans e3, (hq.cell (p := ⟨g1, k * 5 + 4, none⟩) (cell_lt e4)).trans e4, (hq.cell (p := ⟨g2, k * 5, none⟩) (cell_lt f0)).trans f0, (hq.cell (p := ⟨g2, k * 5 + 1, none⟩) (cell_lt f1)).trans f1, (hq.cell (p := ⟨g2, k * 5 + 2, none⟩) (cell_lt f2)).trans f2, (hq.cell (p := ⟨g2, k * 5 + 3, none⟩) (cell_lt f3)).trans f3, (hq.cell (p := ⟨g2, k * 5 + 4, none⟩) (cell_lt f4)).trans f4⟩
      have VB : Below wr.heap.size wr wr.drew := Below.drew (Below.refl _ _)
      have SB := KS.out _ VB
      have i0 : (0 : Int) ≤ (k : Int) := by omega
      have i1 : (k : Int) < (N : Int) := by omega
      obtain ⟨QW, HQW⟩ : ∃ q, Hid (decide (WLX = WLY) = q) := ⟨_, rfl⟩
      obtain ⟨QP, HQP⟩ : ∃ q, Hid ((CX (k + 1) == CY (k + 1)) = q) := ⟨_, rfl⟩
      have qp : (CX (k + 1) == CY (k + 1)) = QP := HQP.out
      clear WX0 WY0 e0 e1 e2 e3 e4 f0 f1 f2 f3 f4 HSX HSY HOX HOY
      go_wp2_with fail
      go_region_held3 (fun q => q.cell? ⟨g1, k * 5, none⟩ = some (.int .i64 xs0) ∧ q.cell? ⟨g1, k * 5 + 1, none⟩ = some (.slice xa xn xk) ∧ q.cell? ⟨g1, k * 5 + 2, none⟩ = some (.int .i64 xr) ∧ q.cell? ⟨g1, k * 5 + 3, none⟩ = some (.int .u64 xroot) ∧ q.cell? ⟨g1, k * 5 + 4, none⟩ = some (.int .u64 xchain) ∧ q.cell? ⟨g2, k * 5, none⟩ = some (.int .i64 ys0) ∧ q.cell? ⟨g2, k * 5 + 1, none⟩ = some (.slice ya yn yk) ∧ q.cell? ⟨g2, k * 5 + 2, none⟩ = some (.int .i64 yr) ∧ q.cell? ⟨g2, k * 5 + 3, none⟩ = some (.int .u64 yroot) ∧ q.cell? ⟨g2, k * 5 + 4, none⟩ = some (.int .u64 ychain)) (first | with_reducible exact SX | with_reducible exact SY | with_reducible exact SB)
        (first | (go_at_call_of 99 (Value.agg #[.int .i64 xs0, .slice xa xn xk, .int .i64 xr, .int .u64 xroot, .int .u64 xchain]); refine (WX.out _ (by first | with_reducible exact VB | with_reducible exact VY)).mono ?_; rintro e qx ⟨ax, cx, rfl, lx, hqx⟩; have VX := (show Below wr.heap.size wr _ by first | with_reducible exact VB | with_reducible exact VY).trans (hqx.mono (by first | exact VB.size | exact VY.size)); have SX := KS.out _ VX) | (go_at_call_of 99 (Value.agg #[.int .i64 ys0, .slice ya yn yk, .int .i64 yr, .int .u64 yroot, .int .u64 ychain]); refine (WY.out _ (by first | with_reducible exact VB | with_reducible exact VX)).mono ?_; rintro e qy ⟨ay, cy, rfl, ly, hqy⟩; have VY := (show Below wr.heap.size wr _ by first | with_reducible exact VB | with_reducible exact VX).trans (hqy.mono (by first | exact VB.size | exact VX.size)); have SY := KS.out _ VY))
      all_goals
        go_wp2_with fail
        refine (HOFX.out _ _ _ (by first | with_reducible exact lx | exact lx.below hqy (Nat.le_refl _))).mono ?_
        rintro e q3 ⟨z3, rfl, hq3⟩
        have V3 : Below wr.heap.size wr q3 := (by first | exact VY.trans (hq3.mono VY.size) | exact VX.trans (hq3.mono VX.size))
        have ly3 : LstW q3 ay (5 + yn) cy WLY := (by first | exact ly.below hq3 (Nat.le_refl _) | exact (ly.below hqx (Nat.le_refl _)).below hq3 (Nat.le_refl _))
        have lx3 : LstW q3 ax (5 + xn) cx WLX := (by first | exact lx.below hq3 (Nat.le_refl _) | exact (lx.below hqy (Nat.le_refl _)).below hq3 (Nat.le_refl _))
        clear lx ly hq3
        go_wp2_with fail
        refine (HOFY.out _ _ _ ly3).mono ?_
        rintro e q4 ⟨z4, rfl, hq4⟩
        have V4 := V3.trans (hq4.mono V3.size)
        have EQ := weq_calls _ _ _ _ _ _ _ _ _ (lx3.below hq4 (Nat.le_refl _)) (ly3.below hq4 (Nat.le_refl _)) (by omega)
        rw [HQW.out] at EQ
        clear lx3 ly3 hq4
        go_wp2_with fail
        refine EQ.mono ?_
        rintro e q5 ⟨rfl, k5, hq5⟩
        have V5 : Below wr.heap.size wr q5 := by rw [hq5]; exact below_drewN V4 k5
        have VW := hbel.trans (V5.mono hbel.size)
        clear hq5 EQ
        cases QW with
        | true =>
          have hnx := HNX.out (.inl (of_decide_eq_true HQW.out))
          have HN2 : Hid (∀ j, j < k + 1 → wdR (CX j) (L1 j) (D1 j) = wdR (CY j) (L2 j) (D2 j) ∨ CX (j + 1) ≠ CY (j + 1)) := hnx
          clear hnx
          go_wp2_with fail
          go_roundw
          case rel => exact ⟨k + 1, by omega, rfl, rfl, by go_num, HN2, VW⟩
          case measure => simp [intOf]; omega
        | false =>
          cases QP with
          | true =>
            go_wp2_with fail
            go_ret
            exact ⟨.inl rfl, VW⟩
          | false =>
            have hnx := HNX.out (.inr (by rw [beq_eq_false_iff_ne] at qp; exact qp))
            have HN2 : Hid (∀ j, j < k + 1 → wdR (CX j) (L1 j) (D1 j) = wdR (CY j) (L2 j) (D2 j) ∨ CX (j + 1) ≠ CY (j + 1)) := hnx
            clear hnx
            go_wp2_with fail
            go_roundw
            case rel => exact ⟨k + 1, by omega, rfl, rfl, by go_num, HN2, VW⟩
            case measure => simp [intOf]; omega
    · obtain rfl : k = N := by omega
      go_wp2_with fail
      go_ret
      exact ⟨.inr ⟨rfl, hall.out⟩, hbel⟩
end Go.Proofs.YtimciamfgpdjlaaGreat.Fx

/- Two journals that are well chained from one head: where their chains part first, their records part; where their last chains are the same, all numbers are the same by P, or two unlike lists make the same. No function of the program is spoken of. -/
namespace Go.Proofs.YtimciamfgpdjlaaGreat.Fx
open Go.RowKit

theorem like_words {x y : Rcm} {xs ys : List Int} (h : likeB x y xs ys = true) (b : Int) : wdR b x xs = wdR b y ys := by
  unfold likeB at h
  simp only [Bool.and_eq_true, decide_eq_true_eq] at h
  obtain ⟨⟨⟨h1, h2⟩, h3⟩, h4⟩ := h
  unfold wdR
  rw [h1, h2, h3, h4]
theorem conv_all {head : Int} {R B : Nat → Rcm} {DR DB : Nat → List Int} {N : Nat} (h : ∀ j, j < N → likeB (R j) (B j) (DR j) (DB j) = true) : ∀ k, k ≤ N → wcP head R DR k = wcP head B DB k
  | 0, _ => rfl
  | k + 1, hk => by
    have ih := conv_all (head := head) h k (by omega)
    show ofP 6 (wdR (wcP head R DR k) (R k) (DR k)) = ofP 6 (wdR (wcP head B DB k) (B k) (DB k))
    rw [ih, like_words (h k (by omega))]
/-- Well chained from that head. -/
def WellC (head : Int) (R : Nat → Rcm) (D : Nat → List Int) (N : Nat) : Prop := ∀ j, j < N → (R j).chain = wcP head R D (j + 1)
theorem conv_part {head : Int} {R B : Nat → Rcm} {DR DB : Nat → List Int} {N K : Nat} (hR : WellC head R DR N) (hB : WellC head B DB N) (hK : K < N) (ha : K = 0 ∨ (R (K - 1)).chain = (B (K - 1)).chain) (hn : (R K).chain ≠ (B K).chain) : likeB (R K) (B K) (DR K) (DB K) = false := by
  cases hl : likeB (R K) (B K) (DR K) (DB K) with
  | false => rfl
  | true =>
    refine absurd ?_ hn
    rw [hR K hK, hB K hK]
    show ofP 6 (wdR (wcP head R DR K) (R K) (DR K)) = ofP 6 (wdR (wcP head B DB K) (B K) (DB K))
    have e : wcP head R DR K = wcP head B DB K := by
      cases K with
      | zero => rfl
      | succ K =>
        rcases ha with ha | ha
        · omega
        · rw [Nat.add_sub_cancel] at ha
          rw [← hR K (by omega), ← hB K (by omega)]
          exact ha
    rw [e, like_words hl]
theorem conv_words {head : Int} (hh : okP head) {R B : Nat → Rcm} {DR DB : Nat → List Int} {N : Nat} (h1 : 1 ≤ N) (hR : WellC head R DR N) (hB : WellC head B DB N) (hl : (R (N - 1)).chain = (B (N - 1)).chain)
    (hno : ∀ j, j < N → wdR (wcP head R DR j) (R j) (DR j) = wdR (wcP head B DB j) (B j) (DB j) ∨ wcP head R DR (j + 1) ≠ wcP head B DB (j + 1)) : ∀ j, j < N → wdR 0 (R j) (DR j) = wdR 0 (B j) (DB j) := by
  have ok : ∀ (L : Nat → Rcm) (D : Nat → List Int) i, okP (wcP head L D i) := fun L D i => by
    cases i with
    | zero => exact hh
    | succ i => exact ofP_ok _ _
  have last : wcP head R DR N = wcP head B DB N := by
    have e1 := hR (N - 1) (by omega)
    have e2 := hB (N - 1) (by omega)
    rw [show N - 1 + 1 = N by omega] at e1 e2
    rw [← e1, ← e2]
    exact hl
  have hall := chains_bind N (fun j => wdR (wcP head R DR j) (R j) (DR j)) (fun j => wdR (wcP head B DB j) (B j) (DB j)) (wcP head R DR) (wcP head B DB) (fun i _ h => (wordsP_tail h 0).1) (fun i _ => ok R DR i) (fun i _ => ok B DB i) last hno
  intro j hj
  exact (wordsP_tail (hall j hj) 0).2
/-- What coachtop.chained leaves is well chained. -/
theorem done_well {head : Int} {L : Nat → Rcm} {D : Nat → List Int} {N : Nat} (hc : ∀ j, j < N → chB (L j).s (L j).r (L j).n (D j) = true) : WellC head (doneR head L D N) D N := by
  have key : ∀ k, k ≤ N → wcP head (doneR head L D N) D k = chnP head L D k := by
    intro k
    induction k with
    | zero => intro _; rfl
    | succ k ih =>
      intro hk
      show ofP 6 (wdR (wcP head (doneR head L D N) D k) (doneR head L D N k) (D k)) = chV (chnP head L D k) (L k).s (L k).r (L k).root (L k).n (D k)
      rw [ih (by omega)]
      unfold chV
      rw [if_pos (hc k (by omega)), ← words_chain]
      have e : doneR head L D N k = chainR (L k) (chnP head L D (k + 1)) := by unfold doneR; rw [if_pos (by omega)]
      rw [e]
      rfl
  intro j hj
  rw [key (j + 1) (by omega)]
  unfold doneR
  rw [if_pos hj]
  rfl
/-- The course's journal is well chained from its head. -/
theorem course_well {c : Cfg} {n : Nat} {DI DO : Nat → List Int} {N : Nat} {R : Nat → Rcm} (hJ : JrN N R (mkRV c) (mkRO c n DI DO) (mkCH c n DI DO)) : WellC (mkCH c n DI DO 0) R (jrBatch c n) N := by
  have key : ∀ k, k ≤ N → wcP (mkCH c n DI DO 0) R (jrBatch c n) k = mkCH c n DI DO k := by
    intro k
    induction k with
    | zero => intro _; rfl
    | succ k ih =>
      intro hk
      obtain ⟨e1, e2, e3, _⟩ := hJ k (by omega)
      show ofP 6 (wdR (wcP (mkCH c n DI DO 0) R (jrBatch c n) k) (R k) (jrBatch c n k)) = mkCH c n DI DO (k + 1)
      rw [ih (by omega)]
      unfold wdR
      rw [e1, e2, e3, words_chain]
      rfl
  intro j hj
  rw [key (j + 1) (by omega)]
  exact (hJ j hj).2.2.2
end Go.Proofs.YtimciamfgpdjlaaGreat.Fx

/- Where two journals part, asked by halves, in plain numbers; no function of the program is spoken of. -/
namespace Go.Proofs.YtimciamfgpdjlaaGreat.Fx
open Go.RowKit

/-- From low and place on: which one is found, and how often it was asked. -/
def findG (f : Int → Bool) : Nat → Int → Int → Int → Int × Int
  | 0, _, place, asks => (place, asks)
  | m + 1, low, place, asks => if 1 < place - low then (if f (low + (place - low) / 2) = true then findG f m (low + (place - low) / 2) place (asks + 1) else findG f m low (low + (place - low) / 2) (asks + 1)) else (place, asks)
theorem findG_stop (f : Int → Bool) (m : Nat) {low place : Int} (asks : Int) (h : ¬ 1 < place - low) : findG f m low place asks = (place, asks) := by
  cases m with
  | zero => rfl
  | succ m => unfold findG; rw [if_neg h]
theorem findG_yes (f : Int → Bool) (m : Nat) {low place : Int} (asks : Int) (h : 1 < place - low) (hf : f (low + (place - low) / 2) = true) : findG f (m + 1) low place asks = findG f m (low + (place - low) / 2) place (asks + 1) := by
  rw [findG, if_pos h, if_pos hf]
theorem findG_no (f : Int → Bool) (m : Nat) {low place : Int} (asks : Int) (h : 1 < place - low) (hf : f (low + (place - low) / 2) = false) : findG f (m + 1) low place asks = findG f m low (low + (place - low) / 2) (asks + 1) := by
  rw [findG, if_pos h, if_neg (by rw [hf]; decide)]
/-- Are the chains the same at a place? -/
def sameAt (X Y : Nat → Rcm) (i : Int) : Bool := decide ((X i.toNat).chain = (Y i.toNat).chain)
def findP (X Y : Nat → Rcm) (n : Nat) : Int × Int := if sameAt X Y ((n : Int) - 1) = true then ((n : Int), 1) else findG (sameAt X Y) n (-1) ((n : Int) - 1) 1
def fdE (n m : Nat) : Int := if m = n ∧ n ≠ 0 ∧ n ≤ 40 then 0 else 5
def fdX (X Y : Nat → Rcm) (n m : Nat) : Int := if m = n ∧ n ≠ 0 ∧ n ≤ 40 then (findP X Y n).1 else 0
def fdY (X Y : Nat → Rcm) (n m : Nat) : Int := if m = n ∧ n ≠ 0 ∧ n ≤ 40 then (findP X Y n).2 else 0
theorem ret_boolF {a b : Bool} (h : a = b) : Ending.returned (.bool a) = .returned (.bool b) := by rw [h]
/-- Where the search stands. -/
structure FindAt (X Y : Nat → Rcm) (n : Nat) (low place asks : Int) : Prop where
  lo : -1 ≤ low
  lt : low < place
  hi : place ≤ (n : Int) - 1
  go : ∃ m : Nat, place - low ≤ (m : Int) + 1 ∧ findG (sameAt X Y) m low place asks = findG (sameAt X Y) n (-1) ((n : Int) - 1) 1
  few : asks ≤ 1000 - (place - low)
  pos : 1 ≤ asks
theorem FindAt.start (X Y : Nat → Rcm) {n : Nat} (h1 : 1 ≤ n) (h2 : n ≤ 40) : FindAt X Y n (-1) ((n : Int) - 1) 1 := ⟨by omega, by omega, by omega, ⟨n, by omega, rfl⟩, by omega, by omega⟩
theorem FindAt.yes {X Y : Nat → Rcm} {n : Nat} {low place asks : Int} (h : FindAt X Y n low place asks) (hd : 1 < place - low) (hf : sameAt X Y (low + (place - low) / 2) = true) : FindAt X Y n (low + (place - low) / 2) place (asks + 1) := by
  obtain ⟨m, hm, e⟩ := h.go
  have := h.lo
  have := h.hi
  have := h.few
  have := h.pos
  cases m with
  | zero => omega
  | succ m =>
    rw [findG_yes _ _ _ hd hf] at e
    exact ⟨by omega, by omega, h.hi, ⟨m, by omega, e⟩, by omega, by omega⟩
theorem FindAt.no {X Y : Nat → Rcm} {n : Nat} {low place asks : Int} (h : FindAt X Y n low place asks) (hd : 1 < place - low) (hf : sameAt X Y (low + (place - low) / 2) = false) : FindAt X Y n low (low + (place - low) / 2) (asks + 1) := by
  obtain ⟨m, hm, e⟩ := h.go
  have := h.lo
  have := h.hi
  have := h.few
  have := h.pos
  cases m with
  | zero => omega
  | succ m =>
    rw [findG_no _ _ _ hd hf] at e
    exact ⟨h.lo, by omega, by omega, ⟨m, by omega, e⟩, by omega, by omega⟩
theorem FindAt.stop {X Y : Nat → Rcm} {n : Nat} {low place asks : Int} (h : FindAt X Y n low place asks) (hd : ¬ 1 < place - low) : findG (sameAt X Y) n (-1) ((n : Int) - 1) 1 = (place, asks) := by
  obtain ⟨m, _, e⟩ := h.go
  rw [← e]
  exact findG_stop _ _ _ hd
end Go.Proofs.YtimciamfgpdjlaaGreat.Fx

/- What is known of the place where two journals part, and of how often it was asked; no function of the program is spoken of. -/
namespace Go.Proofs.YtimciamfgpdjlaaGreat.Fx
open Go.RowKit

theorem two_pow_half {d : Int} {p : Nat} (h : d ≤ ((2 ^ p : Nat) : Int)) (h1 : 1 < d) : ∃ q, p = q + 1 ∧ d / 2 ≤ ((2 ^ q : Nat) : Int) ∧ d - d / 2 ≤ ((2 ^ q : Nat) : Int) := by
  cases p with
  | zero => simp at h; omega
  | succ q =>
    have e : (2 ^ (q + 1) : Nat) = 2 ^ q * 2 := Nat.pow_succ 2 q
    exact ⟨q, rfl, by omega, by omega⟩
theorem findG_good (f : Int → Bool) : ∀ (m : Nat) (low place asks : Int) (p : Nat), -1 ≤ low → low < place → place - low ≤ (m : Int) + 1 → place - low ≤ ((2 ^ p : Nat) : Int) → (low = -1 ∨ f low = true) → f place = false →
    low < (findG f m low place asks).1 ∧ (findG f m low place asks).1 ≤ place ∧ f (findG f m low place asks).1 = false ∧ ((findG f m low place asks).1 = 0 ∨ f ((findG f m low place asks).1 - 1) = true) ∧ (findG f m low place asks).2 ≤ asks + (p : Int) ∧ asks ≤ (findG f m low place asks).2
  | 0, low, place, asks, p, h1, h2, h3, _, h5, h6 => by
    have e : low = place - 1 := by omega
    refine ⟨h2, Int.le_refl _, h6, ?_, by show asks ≤ asks + (p : Int); omega, Int.le_refl _⟩
    show place = 0 ∨ f (place - 1) = true
    rcases h5 with h | h
    · exact .inl (by omega)
    · exact .inr (by rw [← e]; exact h)
  | m + 1, low, place, asks, p, h1, h2, h3, h4, h5, h6 => by
    by_cases hd : 1 < place - low
    · obtain ⟨q, rfl, g1, g2⟩ := two_pow_half h4 hd
      cases hf : f (low + (place - low) / 2) with
      | true =>
        rw [findG_yes f m asks hd hf]
        obtain ⟨k1, k2, k3, k4, k5, k6⟩ := findG_good f m (low + (place - low) / 2) place (asks + 1) q (by omega) (by omega) (by omega) (by omega) (.inr hf) h6
        exact ⟨by omega, k2, k3, k4, by omega, by omega⟩
      | false =>
        rw [findG_no f m asks hd hf]
        obtain ⟨k1, k2, k3, k4, k5, k6⟩ := findG_good f m low (low + (place - low) / 2) (asks + 1) q h1 (by omega) (by omega) (by omega) h5 hf
        exact ⟨k1, by omega, k3, k4, by omega, by omega⟩
    · rw [findG_stop f (m + 1) asks hd]
      have e : low = place - 1 := by omega
      refine ⟨h2, Int.le_refl _, h6, ?_, by show asks ≤ asks + (p : Int); omega, Int.le_refl _⟩
      show place = 0 ∨ f (place - 1) = true
      rcases h5 with h | h
      · exact .inl (by omega)
      · exact .inr (by rw [← e]; exact h)
/-- Where it is found that two journals part, they part, and just ahead they didn't; and it isn't asked often. -/
theorem findP_good (X Y : Nat → Rcm) {n p : Nat} (h1 : 1 ≤ n) (hp : n ≤ 2 ^ p) :
    (((findP X Y n).1 = (n : Int) ∧ sameAt X Y ((n : Int) - 1) = true) ∨ (0 ≤ (findP X Y n).1 ∧ (findP X Y n).1 < (n : Int) ∧ sameAt X Y (findP X Y n).1 = false ∧ ((findP X Y n).1 = 0 ∨ sameAt X Y ((findP X Y n).1 - 1) = true))) ∧ 1 ≤ (findP X Y n).2 ∧ (findP X Y n).2 ≤ 1 + (p : Int) := by
  unfold findP
  cases hs : sameAt X Y ((n : Int) - 1) with
  | true =>
    rw [if_pos rfl]
    exact ⟨.inl ⟨rfl, rfl⟩, Int.le_refl _, by show (1 : Int) ≤ 1 + (p : Int); omega⟩
  | false =>
    rw [if_neg (by decide)]
    obtain ⟨k1, k2, k3, k4, k5, k6⟩ := findG_good (sameAt X Y) n (-1) ((n : Int) - 1) 1 p (by omega) (by omega) (by omega) (by omega) (.inl rfl) hs
    exact ⟨.inr ⟨by omega, by omega, k3, k4⟩, k6, k5⟩
end Go.Proofs.YtimciamfgpdjlaaGreat.Fx

/- What TopConvicts turns on: what the search by halves tells of two journals that are well chained from one head; bounds of their numbers. No function of the program is spoken of. -/
namespace Go.Proofs.YtimciamfgpdjlaaGreat.Fx
open Go.RowKit

theorem chB_is {s r : Int} {n : Nat} {bs : List Int} (h : chB s r n bs = true) : 0 ≤ s ∧ 0 ≤ r ∧ n ≤ 8 ∧ ∀ j, j < bs.length → 0 ≤ bs.getD j 0 := by
  unfold chB nonB at h
  simp only [Bool.and_eq_true, decide_eq_true_eq] at h
  obtain ⟨⟨⟨h1, h2⟩, h3⟩, h4⟩ := h
  refine ⟨h1, h2, h3, fun j hj => ?_⟩
  rw [List.all_eq_true] at h4
  have := h4 (bs.getD j 0) (by rw [List.getD_eq_getElem?_getD, List.getElem?_eq_getElem hj]; exact List.getElem_mem hj)
  simpa using this
theorem own_wd {c : Cfg} {n : Nat} {X : Nat → Exm} {DI DO : Nat → List Int} (h0 : courseI c n X DI DO = 0) {N : Nat} (hN : (N : Int) ≤ c.steps) {R : Nat → Rcm} (hJ : JrN N R (mkRV c) (mkRO c n DI DO) (mkCH c n DI DO)) (h8 : ∀ j, j < N → (R j).n ≤ 8) (hb : ∀ j, j < N → (R j).n = c.batch.toNat) : ∀ j, j < N → WdOk (R j) (jrBatch c n j) := fun j hj => by
  obtain ⟨hc, hn1, hn2, _⟩ := course_ok h0
  obtain ⟨_, _, _, ⟨b1, b2⟩, p, _⟩ := cfgB_is hc
  obtain ⟨e1, e2, e3, _⟩ := hJ j hj
  have hr := in_is (rateV_in hc j (by omega) (by omega))
  refine ⟨by rw [e1]; exact ⟨by omega, by omega⟩, by rw [e2]; unfold mkRV; exact ⟨hr.1, by omega⟩, by rw [e3]; exact rootP_W _ _ _, h8 j hj, fun i hi => ?_⟩
  obtain ⟨t, ht, e⟩ := batch_in c.seed c.batch.toNat n (j * c.batch.toNat) (by omega) (k := i) (by rw [← hb j hj]; exact hi)
  unfold jrBatch
  rw [e]
  exact ⟨by omega, by omega⟩
theorem over_bd {w : World} {ln k N : Nat} {R L : Nat → Rcm} {D DL : Nat → List Int} (hk : k ≤ ln) (h1 : ∀ j, j < N → WdOk (R j) (D j)) (h2 : ∀ j, j < ln → RecIn w (L j) (DL j)) : ∀ j, j < N → (overR R L k j).s ≤ 9223372036854775807 ∧ (overR R L k j).r ≤ 9223372036854775807 ∧ okW (overR R L k j).root ∧ (overR R L k j).n ≤ 9223372036854775807 ∧ ∀ i, i < (overR R L k j).n → (overD D DL L k j).getD i 0 ≤ 9223372036854775807 := fun j hj => by
  unfold overR overD
  by_cases h : j < k ∧ (L j).s ≠ -1
  · rw [if_pos h, if_pos h]
    have g := h2 j (by omega)
    exact ⟨g.s.2, g.r.2, g.root, Nat.le_trans g.n (by decide), fun i hi => (g.bd i (by rw [g.l.len]; exact hi)).2⟩
  · rw [if_neg h, if_neg h]
    have g := h1 j hj
    have := g.n
    exact ⟨g.s.2, g.r.2, g.root, by omega, fun i hi => (g.bd i hi).2⟩
/-- What was chained: its numbers are right. -/
theorem done_wd {head : Int} {N : Nat} {L : Nat → Rcm} {D : Nat → List Int} (hl : ∀ j, j < N → (D j).length = (L j).n) (hb : ∀ j, j < N → (L j).s ≤ 9223372036854775807 ∧ (L j).r ≤ 9223372036854775807 ∧ okW (L j).root ∧ (L j).n ≤ 9223372036854775807 ∧ ∀ i, i < (L j).n → (D j).getD i 0 ≤ 9223372036854775807) (hc : ∀ j, j < N → chB (L j).s (L j).r (L j).n (D j) = true) : ∀ j, j < N → WdOk (doneR head L D N j) (D j) := fun j hj => by
  obtain ⟨q1, q2, q3, q4, q5⟩ := hb j hj
  obtain ⟨c1, c2, c3, c4⟩ := chB_is (hc j hj)
  unfold doneR
  rw [if_pos hj]
  exact ⟨⟨c1, q1⟩, ⟨c2, q2⟩, q3, c3, fun i hi => ⟨c4 i (by rw [hl j hj]; exact hi), q5 i hi⟩⟩
theorem done_lst {w : World} {head : Int} {N : Nat} {L : Nat → Rcm} {D : Nat → List Int} (h : ∀ j, j < N → Lst w (L j).a (L j).n (L j).k (D j)) : ∀ j, j < N → Lst w (doneR head L D N j).a (doneR head L D N j).n (doneR head L D N j).k (D j) := fun j hj => by
  unfold doneR
  rw [if_pos hj]
  exact h j hj
theorem sameAt_yes {X Y : Nat → Rcm} {K : Nat} (h : sameAt X Y (K : Int) = true) : (X K).chain = (Y K).chain := by
  unfold sameAt at h
  rw [decide_eq_true_eq] at h
  exact h
theorem sameAt_no {X Y : Nat → Rcm} {K : Nat} (h : sameAt X Y (K : Int) = false) : (X K).chain ≠ (Y K).chain := by
  unfold sameAt at h
  rw [decide_eq_false_iff_not] at h
  exact h
/-- What the search tells. -/
theorem conv_find {head : Int} {N : Nat} (h1 : 1 ≤ N) (h5 : N ≤ 5) {R B : Nat → Rcm} {DR DB : Nat → List Int} (hR : WellC head R DR N) (hB : WellC head B DB N) :
    fdE N N = 0 ∧ fdY R B N N ≤ 4 ∧ ((fdX R B N N = (N : Int) ∧ (R (N - 1)).chain = (B (N - 1)).chain) ∨ ∃ K : Nat, K < N ∧ fdX R B N N = (K : Int) ∧ likeB (R K) (B K) (DR K) (DB K) = false) := by
  have hg := findP_good R B h1 (p := 3) (by omega)
  have hx : fdX R B N N = (findP R B N).1 := by unfold fdX; rw [if_pos ⟨rfl, by omega, by omega⟩]
  have hy : fdY R B N N = (findP R B N).2 := by unfold fdY; rw [if_pos ⟨rfl, by omega, by omega⟩]
  refine ⟨by unfold fdE; simp; omega, by rw [hy]; have := hg.2.2; omega, ?_⟩
  rw [hx]
  rcases hg.1 with ⟨e, hs⟩ | ⟨g0, g1, g2, g3⟩
  · refine .inl ⟨e, sameAt_yes ?_⟩
    rw [show ((N - 1 : Nat) : Int) = (N : Int) - 1 by omega]
    exact hs
  · obtain ⟨K, hK⟩ := Int.eq_ofNat_of_zero_le g0
    rw [hK] at g1 g2 g3 ⊢
    refine .inr ⟨K, by omega, rfl, conv_part hR hB (by omega) ?_ (sameAt_no g2)⟩
    rcases g3 with g3 | g3
    · exact .inl (by omega)
    · by_cases h0 : K = 0
      · exact .inl h0
      · refine .inr (sameAt_yes ?_)
        rw [show ((K - 1 : Nat) : Int) = (K : Int) - 1 by omega]
        exact g3
end Go.Proofs.YtimciamfgpdjlaaGreat.Fx
