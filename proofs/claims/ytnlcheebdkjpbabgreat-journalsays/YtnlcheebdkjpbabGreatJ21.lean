/- The first words of a list that lies in memory, and the others. -/
import Derived.Test.YtnlcheebdkjpbabGreatJ00
import Derived.Test.YtnlcheebdkjpbabGreatJ10
import Derived.Test.YtnlcheebdkjpbabGreatJ12
import Derived.Test.YtnlcheebdkjpbabGreatJ11
import Derived.Test.YtnlcheebdkjpbabGreatJ13
import Derived.Test.YtnlcheebdkjpbabGreatJ18
import Derived.Test.YtnlcheebdkjpbabGreatJ20
import Derived.Test.YtnlcheebdkjpbabGreatJ04
import Derived.Test.YtnlcheebdkjpbabGreatJ09
namespace Go.Proofs.YtnlcheebdkjpbabGreat.Fx
open Go.RowKit

theorem LstW.head {w : World} {b off n c : Nat} {xs : List Int} (h : LstW w (some ⟨b, off, none⟩) n c xs) (hn : 0 < n) {k : Nat} (hk : k ≤ n) : LstW w (some ⟨b, off, none⟩) k c (xs.take k) := by
  simpa using h.sub hn 0 k (Nat.zero_le _) hk
theorem LstW.tail {w : World} {b off n c : Nat} {xs : List Int} (h : LstW w (some ⟨b, off, none⟩) n c xs) (hn : 0 < n) {k : Nat} (hk : k ≤ n) : LstW w (some ⟨b, off + k, none⟩) (n - k) (c - k) (xs.drop k) := by
  have h1 := h.sub hn k n hk (Nat.le_refl _)
  rwa [List.take_of_length_le (by rw [List.length_drop, h.len]; exact Nat.le_refl _)] at h1

end Go.Proofs.YtnlcheebdkjpbabGreat.Fx

/- What coachref.cut and coachref.Tree return: where a tree is cut, and the tree of a list of leaves. -/
namespace Go.Proofs.YtnlcheebdkjpbabGreat.Fx
open Go.RowKit

theorem rcut_calls (n : Nat) (h1 : 2 ≤ n) (h2 : n ≤ 50) (w : World) : Calls Tryz.prog 97 #[.int .i64 n] w fun e w' => e = .returned (.int .i64 (cutN n)) ∧ w' = w := by
  go_enter Tryz.func97, Tryz.ntmps97
  go_wp2
  go_loop [3] (fun v => ∃ j k : Nat, v = .int .i64 k ∧ Hid (k = 2 ^ j) ∧ 1 ≤ k ∧ k < n) (fun v => n - (intOf v).toNat)
  case atStart => exact ⟨0, 1, rfl, rfl, by omega, by omega⟩
  case round =>
    obtain ⟨j, k, rfl, HJ, k1, k2⟩ := hrel
    by_cases hlt : k + k < n
    · go_wp2
      go_roundw
      case rel => exact ⟨j + 1, k + k, by go_num, by show k + k = 2 ^ (j + 1); rw [HJ.out, Nat.pow_succ]; omega, by omega, hlt⟩
      case measure => simp [intOf]; omega
    · go_wp2
      go_ret
      exact ⟨ret_word (by rw [HJ.out] at k2 hlt ⊢; rw [cutN_is k2 (by omega)]), rfl⟩

theorem rTree_calls : ∀ (m : Nat) (a : Option Addr) (n c : Nat) (xs : List Int) (w : World), n ≤ m → 1 ≤ n → n ≤ 50 → LstW w a n c xs → okL xs →
    Calls Tryz.prog 73 #[.slice a n c] w fun e w' => e = .returned (.int .u64 (treeP xs)) ∧ Below w.heap.size w w'
  | 0, a, n, c, xs, w, h, h1, h2, ha, hx => by omega
  | m + 1, a, n, c, xs, w, h, h1, h2, ha, hx => by
    have IH : Hid (∀ (a : Option Addr) (n c : Nat) (xs : List Int) (w : World), n ≤ m → 1 ≤ n → n ≤ 50 → LstW w a n c xs → okL xs →
      Calls Tryz.prog 73 #[.slice a n c] w fun e w' => e = .returned (.int .u64 (treeP xs)) ∧ Below w.heap.size w w') := rTree_calls m
    have HL := ha.len
    have HK := ha.cap
    obtain ⟨b, off, x, rfl, hb, h0, HX⟩ := ha.at1 (k := 0) (by omega)
    rw [Nat.add_zero] at h0
    by_cases h3 : n = 1
    · have n1 : ((n : Int) == 1) = true := by rw [beq_iff_eq]; omega
      have HT : Hid (treeP xs = x) := by rw [treeP_one (by omega)]; exact HX.out
      clear ha h3
      go_enter Tryz.func73, Tryz.ntmps73
      go_wp2
      go_ret
      exact ⟨ret_word HT.out.symm, Below.refl _ _⟩
    · have hc := cutN_lt (n := n) (by omega)
      have HT : Hid (treeP xs = ofP 3 [treeP (xs.take (cutN n)), treeP (xs.drop (cutN n))]) := by rw [← HL]; exact treeP_two (by omega)
      have HC : Hid (∀ w, Calls Tryz.prog 97 #[.int .i64 n] w fun e w' => e = .returned (.int .i64 (cutN n)) ∧ w' = w) := rcut_calls n (by omega) (by omega)
      generalize cutN n = k at *
      have hA := ha.head (by omega) (k := k) (by omega)
      have hB := ha.tail (by omega) (k := k) (by omega)
      have oA := okL_take hx k
      have oB := okL_drop hx k
      have tA : Hid (okW (treeP (xs.take k))) := treeP_ok oA (by rw [hA.len]; omega)
      have tB : Hid (okW (treeP (xs.drop k))) := treeP_ok oB (by rw [hB.len]; omega)
      have n1 : ((n : Int) == 1) = false := by rw [beq_eq_false_iff_ne]; omega
      have k4 : ¬ c = k := by omega
      clear ha
      go_enter Tryz.func73, Tryz.ntmps73
      go_wp2_with (first | (go_at_call 97; refine (HC.out _).mono ?_; rintro e w' ⟨rfl, hw'⟩; replace hw' := hw'.symm; subst hw') | (go_at_call 73; refine (IH.out _ _ _ (xs.take k) _ (by omega) (by omega) (by omega) (by exact hA) oA).mono ?_; rintro e w1 ⟨rfl, hw1⟩) | (go_at_call 73; refine (IH.out _ _ _ (xs.drop k) _ (by omega) (by omega) (by omega) (by exact hB.below hw1 (Nat.le_refl _)) oB).mono ?_; rintro e w2 ⟨rfl, hw2⟩) | (go_at_call 72; refine (rPair_calls _ _ tA.out tB.out _).mono ?_; rintro e w3 ⟨rfl, hw3⟩))
      go_ret
      have e2 := hw1.trans (hw2.mono hw1.size)
      exact ⟨ret_word HT.out.symm, e2.trans (hw3.mono e2.size)⟩

end Go.Proofs.YtnlcheebdkjpbabGreat.Fx

/- What coachref.Leaves and coachref.Root return. -/
namespace Go.Proofs.YtnlcheebdkjpbabGreat.Fx
open Go.RowKit

theorem numL_range {xs : List Int} {n : Nat} (h : n ≤ 200) : (List.range n).map (numG xs) = numL xs n := by
  unfold numL; rw [if_neg (by omega)]

set_option maxHeartbeats 1600000 in
theorem rLeaves_calls (a : Option Addr) (n c : Nat) (xs : List Int) (w : World) (ha : Lst w a n c xs) (h1 : 1 ≤ n) (h2 : n ≤ 200) :
    Calls Tryz.prog 74 #[.slice a n c] w fun e w' => ∃ a' c', e = .returned (.slice a' ((n + 3) / 4 : Nat) c') ∧ LstW w' a' ((n + 3) / 4) c' (leavesP xs n) ∧ Below w.heap.size w w' := by
  unfold leavesP
  obtain ⟨N, hN⟩ : ∃ N, (n + 3) / 4 = N := ⟨_, rfl⟩
  rw [hN]
  obtain ⟨b, off, x, rfl, hb, h0, HX⟩ := ha.at1 (k := 0) (by omega)
  have HK := ha.cap
  go_enter Tryz.func74, Tryz.ntmps74
  go_wp2
  go_loopw [3, 4] (fun v i wr => ∃ k lo : Nat, k ≤ N ∧ i = .int .i64 lo ∧ k * 4 = lo ∧ OwnW w.heap.size wr v ((List.range k).map (leafG xs n)) ∧ Below w.heap.size w wr) (fun _ i _ => 204 - (intOf i).toNat)
  case atStart => exact ⟨0, 0, Nat.zero_le _, rfl, rfl, OwnW.nil _ _, Below.refl _ _⟩
  case round =>
    obtain ⟨k, lo, hk, rfl, hlo, hown, hbel⟩ := hrel
    have hsz := hbel.size
    have ha' := ha.below hbel (Nat.le_refl _)
    clear ha
    by_cases hlt : lo < n
    · obtain ⟨hi, hhi⟩ : ∃ hi, hiN n k = hi := ⟨_, rfl⟩
      have hh : lo ≤ hi ∧ hi ≤ n ∧ hi ≤ lo + 4 := by unfold hiN at hhi; omega
      have hs := ha'.sub (by omega) lo hi (by omega) (by omega)
      have HG : Hid (leafG xs n k = ofP 4 (numL ((xs.drop lo).take (hi - lo)) (hi - lo))) := by show leafG xs n k = _; unfold leafG; rw [hlo, hhi]
      have HM : Hid (hi = min (lo + 4) n) := by show hi = min (lo + 4) n; rw [← hhi, ← hlo]; rfl
      clear hhi
      go_wp2_with fail
      all_goals
        first
          | rw [show ((lo : Int) + 4).toNat = hi from by have := HM.out; omega]
          | rw [show n - lo = hi - lo from by have := HM.out; omega]
        refine (rNumbers_calls _ _ _ _ _ hs (by omega)).mono ?_
        rintro e w1 ⟨a1, c1, rfl, hl1, hw1⟩
        rw [numL_range (by omega)] at hl1
        have hown1 := hown.below hw1
        have hbel1 := hbel.trans (hw1.mono hbel.size)
        go_wp2_with fail
        refine (rof_calls 4 ⟨by omega, by omega⟩ _ _ _ _ _ hl1 (numL_ok _ _) (by omega)).mono ?_
        rintro e w2 ⟨rfl, hw2⟩
        have hown2 := hown1.below hw2
        have hbel2 := hbel1.trans (hw2.mono hbel1.size)
        have hsz2 := hbel2.size
        go_wp2_with (at_builtin; refine wpList_append_word (by rfl) _ _ (by rfl) w.heap.size _ ((List.range k).map (leafG xs n)) (ofP 4 (numL ((xs.drop lo).take (hi - lo)) (hi - lo))) w2.heap.size w (by rfl) (by rfl) (by exact hown2.alloc _) (by exact cell_new _ _ _) (by simp; omega) (by simp; omega) (by exact hbel2.alloc hsz2 _) ?_; intro v1 w3 hown3 hbel3)
        go_roundw
        case rel => exact ⟨k + 1, lo + 4, by omega, by go_num, by omega, hown3.congr (range_snocW _ _ _ HG.out), hbel3⟩
        case measure => simp [intOf]; omega
    · obtain rfl : k = N := by omega
      obtain ⟨a1, c1, rfl, hl1⟩ := hown.lst' (n := k) (by simp)
      go_wp2
      go_ret
      exact ⟨_, _, rfl, hl1, hbel⟩

theorem rRoot_calls (a : Option Addr) (n c : Nat) (xs : List Int) (w : World) (ha : Lst w a n c xs) (h1 : 1 ≤ n) (h2 : n ≤ 200) :
    Calls Tryz.prog 46 #[.slice a n c] w fun e w' => e = .returned (.int .u64 (ofP 3 [(n : Int), treeP (leavesP xs n)])) ∧ Below w.heap.size w w' := by
  have ht := treeP_ok (leavesP_ok xs n) (by rw [leavesP_len]; omega)
  have hn : okW (n : Int) := ⟨by omega, by omega⟩
  go_enter Tryz.func46, Tryz.ntmps46
  go_wp2_with (first | (go_at_call 74; refine (rLeaves_calls _ _ _ xs _ ha h1 h2).mono ?_; rintro e w1 ⟨a1, c1, rfl, hl1, hw1⟩) | (go_at_call 73; refine (rTree_calls 50 _ _ _ (leavesP xs n) _ (by omega) (by omega) (by omega) hl1 (leavesP_ok _ _)).mono ?_; rintro e w2 ⟨rfl, hw2⟩) | (go_at_call 72; refine (rPair_calls _ _ hn ht _).mono ?_; rintro e w3 ⟨rfl, hw3⟩))
  go_ret
  have e2 := hw1.trans (hw2.mono hw1.size)
  exact ⟨rfl, e2.trans (hw3.mono e2.size)⟩

end Go.Proofs.YtnlcheebdkjpbabGreat.Fx

/- What coachref.StateRoot returns, of two lists that are not empty. -/
namespace Go.Proofs.YtnlcheebdkjpbabGreat.Fx
open Go.RowKit

section
variable {w' W0 : World} {ops : Array Oper} {o : Oper} {a : Act} {Q : Exit → Act → World → Prop}
theorem step_append_all {K : Act → World → Prop} {E : Prop} (hgd : o.guard = none) (s x : Operand) (ho : o.op = .call { callee := .builtin .append, args := #[s, x], argTypes := #[26, 26] })
    (base : Nat) (v : Value) (xs zs : List Int) (b off m c : Nat) (W0 : World) (hs : a.eval s = v) (hx : a.eval x = .slice (some ⟨b, off, none⟩) m c) (hown : OwnI base w' v xs) (hz : Lst w' (some ⟨b, off, none⟩) m c zs) (hn : (xs.length + m) * 8 ≤ 140737488355328) (hbase : base ≤ w'.heap.size) (hB : Below base W0 w')
    (h : ∀ v' w1, OwnI base w1 v' (xs ++ zs) → Below base W0 w1 → K (a.put o.dst v') w1) :
    if Region.wanted o (yielded ops a.tmps) = true then Oper.wp Tryz.prog o a w' K Q else E := by
  obtain ⟨v', w1, hrun, h1, h2⟩ := run_append_all o.type base v xs zs b off m c hown hz hn hbase hB
  have hw : Region.wanted o (yielded ops a.tmps) = true := by simp [Region.wanted, hgd]
  rw [if_pos hw]
  unfold Oper.wp
  simp [execOp, ho, resolve, invoke, builtin, hs, hx, hrun, Result.andThen]
  exact h v' w1 h1 h2
end

set_option maxRecDepth 100000 in
set_option maxHeartbeats 1600000 in
theorem rstateRoot_calls (b1 o1 n1 k1 : Nat) (ws : List Int) (b2 o2 n2 k2 : Nat) (ms : List Int) (w : World) (l1 : Lst w (some ⟨b1, o1, none⟩) n1 k1 ws) (l2 : Lst w (some ⟨b2, o2, none⟩) n2 k2 ms) (h1 : 1 ≤ n1) (h2 : 1 ≤ n2) (h3 : n1 + n2 ≤ 200) :
    Calls Tryz.prog 21 #[.agg #[.slice (some ⟨b1, o1, none⟩) n1 k1, .slice (some ⟨b2, o2, none⟩) n2 k2]] w fun e w' => e = .returned (.int .u64 (rootP ws ms (n1 + n2))) ∧ Below w.heap.size w w' := by
  have hal := low_alloc w (.cells #[.slice (some ⟨b1, o1, none⟩) n1 k1, .slice (some ⟨b2, o2, none⟩) n2 k2] 28)
  obtain ⟨W, HW⟩ : ∃ q, Hid (q = w.alloc (.cells #[.slice (some ⟨b1, o1, none⟩) n1 k1, .slice (some ⟨b2, o2, none⟩) n2 k2] 28)) := ⟨_, rfl⟩
  have hW : Below w.heap.size w W := by rw [HW.out]; exact hal
  have m1 := l1.below hW (Nat.le_refl _)
  have m2 := l2.below hW (Nat.le_refl _)
  have hrow : W.rowIs w.heap.size 28 2 (fn2 (.slice (some ⟨b1, o1, none⟩) n1 k1) (.slice (some ⟨b2, o2, none⟩) n2 k2)) := by rw [HW.out]; exact fn2_alloc _ _ _ _
  have hWs : w.heap.size < W.heap.size := hrow.lt
  have S0 : W.drew.cell? ⟨w.heap.size, 0, none⟩ = some (.slice (some ⟨b1, o1, none⟩) n1 k1) ∧ W.drew.cell? ⟨w.heap.size, 1, none⟩ = some (.slice (some ⟨b2, o2, none⟩) n2 k2) := fn2_cells hrow
  have s0 := S0.1
  have s1 := S0.2
  have t0 : W.cell? ⟨w.heap.size, 0, none⟩ = some (.slice (some ⟨b1, o1, none⟩) n1 k1) := (fn2_cells hrow).1
  have t1 : W.cell? ⟨w.heap.size, 1, none⟩ = some (.slice (some ⟨b2, o2, none⟩) n2 k2) := (fn2_cells hrow).2
  have hl1 := l1.len
  have hl2 := l2.len
  have hBd : Below W.heap.size W W.drew := below_drewN (Below.refl _ _) 1
  have KS : Hid (∀ q, Below W.heap.size W q → q.cell? ⟨w.heap.size, 0, none⟩ = some (.slice (some ⟨b1, o1, none⟩) n1 k1) ∧ q.cell? ⟨w.heap.size, 1, none⟩ = some (.slice (some ⟨b2, o2, none⟩) n2 k2)) := fun q hq => fn2_cells (hrow.of_block (hq.block _ hWs))
  unfold rootP
  clear l1 l2 hal
  go_enter Tryz.func21, Tryz.ntmps21
  go_wp2_with fail
  rw [← HW.out]
  clear HW
  go_region_held3 (fun q => q.cell? ⟨w.heap.size, 0, none⟩ = some (.slice (some ⟨b1, o1, none⟩) n1 k1) ∧ q.cell? ⟨w.heap.size, 1, none⟩ = some (.slice (some ⟨b2, o2, none⟩) n2 k2)) (first | with_reducible exact S5 | with_reducible exact S4 | with_reducible exact S3 | with_reducible exact S0)
    (first | (refine step_append_all (by rfl) _ _ (by rfl) W.heap.size _ [] ws b1 o1 n1 k1 W (by rfl) (by rfl) (by exact OwnI.nil _ _) (by exact m1.drew) (by simp; omega) (by simp) (by exact hBd) ?_; intro v3 w3 hown3 hbel3; have S3 := KS.out _ hbel3) | (refine step_append_all (by rfl) _ _ (by rfl) W.heap.size _ ([] ++ ws) ms b2 o2 n2 k2 W (by rfl) (by rfl) (by exact hown3) (by exact m2.below hbel3 (Nat.le_refl _)) (by simp; omega) (by exact hbel3.size) (by exact hbel3) ?_; intro v4 w4 hown4 hbel4; have S4 := KS.out _ hbel4; obtain ⟨va, vc, hv4, l4⟩ := hown4.lst' (n := n1 + n2) (by simp; omega); subst hv4) | (go_at_call 46; refine (rRoot_calls va (n1 + n2) vc (ws ++ ms) _ (by simpa using l4) (by omega) h3).mono ?_; rintro e w5 ⟨rfl, hw5⟩; have S5 := KS.out _ (hbel4.trans (hw5.mono hbel4.size))))
  all_goals
    go_wp2
    go_ret
    exact ⟨rfl, hW.trans ((hbel4.trans (hw5.mono hbel4.size)).mono hW.size)⟩

end Go.Proofs.YtnlcheebdkjpbabGreat.Fx

/- What coachref's Dot returns: the plain number of the text Lists. -/
namespace Go.Proofs.YtnlcheebdkjpbabGreat.Fx
open Go.RowKit

set_option maxHeartbeats 400000 in
theorem rdot_calls (a b : Option Addr) (la ca cb : Nat) (xs ys : List Int) (w : World) (ha : Lst w a la ca xs) (hb : Lst w b la cb ys) (h63 : la ≤ 1000000000000000000) :
    Calls Tryz.prog 60 #[.slice a la ca, .slice b la cb] w fun e w' => e = .returned (.int .i64 (dotTo xs ys la)) ∧ ∃ k, w' = w.drewN k := by
  go_enter Tryz.func60, Tryz.ntmps60
  go_wp2
  go_loopw [5, 6] (fun s i wr => ∃ k n : Nat, k ≤ la ∧ i = .int .i64 k ∧ s = .int .i64 (dotTo xs ys k) ∧ wr = w.drewN n) (fun _ i _ => la - (intOf i).toNat)
  case atStart => exact ⟨0, 0, Nat.zero_le _, rfl, rfl, rfl⟩
  case round =>
    obtain ⟨k, n, hk, rfl, rfl, hw⟩ := hrel
    have ha' : Lst wr a la ca xs := hw ▸ ha.drewN n
    have hb' : Lst wr b la cb ys := hw ▸ hb.drewN n
    have HW : Hid (wr = w.drewN n) := hw
    clear hw ha hb
    by_cases hlt : k < la
    · obtain ⟨b1, o1, x, rfl, _, c1, HX⟩ := ha'.at1 hlt
      obtain ⟨b2, o2, y, rfl, _, c2, HY⟩ := hb'.at1 hlt
      go_wp2
      go_quiet ((first | (go_at_call 57; exact Calls.quiet_of_same (rmul_calls _ _ _)) | (go_at_call 37; exact Calls.quiet_of_same (radd_calls _ _ _))))
      go_wp2
      go_roundw
      case rel => exact ⟨k + 1, _, by omega, by go_num, by simp only [dotTo, HX.out, HY.out], by rw [HW.out, World.drewN_drewN]⟩
      case measure => simp [intOf]; omega
    · go_wp2
      go_ret
      obtain rfl : k = la := by omega
      exact ⟨rfl, _, HW.out⟩
end Go.Proofs.YtnlcheebdkjpbabGreat.Fx

/- What coachref's Matrix and SameMatrix return: the plain answers of the text Mats. -/
namespace Go.Proofs.YtnlcheebdkjpbabGreat.Fx
open Go.RowKit
end Go.Proofs.YtnlcheebdkjpbabGreat.Fx
