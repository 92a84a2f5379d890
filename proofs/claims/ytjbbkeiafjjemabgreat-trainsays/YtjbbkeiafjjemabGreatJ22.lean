/- What tree.chunks, tree.leaf and tree.Leaves return: the leaves of a list of integers. -/
import Derived.Test.YtjbbkeiafjjemabGreatJ02
import Derived.Test.YtjbbkeiafjjemabGreatJ21
import Derived.Test.YtjbbkeiafjjemabGreatJ15
import Derived.Test.YtjbbkeiafjjemabGreatJ10
import Derived.Test.YtjbbkeiafjjemabGreatJ13
import Derived.Test.YtjbbkeiafjjemabGreatJ19
import Derived.Test.YtjbbkeiafjjemabGreatJ04
import Derived.Test.YtjbbkeiafjjemabGreatJ09
namespace Go.Proofs.YtjbbkeiafjjemabGreat.Fx
open Go.RowKit

theorem numL_ok (xs : List Int) (n : Nat) : okL (numL xs n) := by
  unfold numL
  intro i hi
  by_cases h : 200 < n
  · rw [if_pos h] at hi; simp at hi
  · rw [if_neg h] at hi ⊢
    simp at hi
    have := boundP_ok (xs.getD i 0)
    simp only [List.getD_eq_getElem?_getD, List.getElem?_map, List.getElem?_range hi, Option.map_some, Option.getD_some, numG] at this ⊢
    exact ⟨this.1, by omega⟩
theorem numL_len {xs : List Int} {n : Nat} (h : n ≤ 200) : (numL xs n).length = n := by
  unfold numL; rw [if_neg (by omega)]; simp

/-- Leaf i of a list of n integers: of its chunk. -/
def hiN (n i : Nat) : Nat := min (i * 4 + 4) n
def leafG (xs : List Int) (n i : Nat) : Int := ofP 4 (numL ((xs.drop (i * 4)).take (hiN n i - i * 4)) (hiN n i - i * 4))
def leavesP (xs : List Int) (n : Nat) : List Int := (List.range ((n + 3) / 4)).map (leafG xs n)
theorem leavesP_len (xs : List Int) (n : Nat) : (leavesP xs n).length = (n + 3) / 4 := by unfold leavesP; simp
theorem leavesP_ok (xs : List Int) (n : Nat) : okL (leavesP xs n) := by
  intro i hi
  rw [leavesP_len] at hi
  unfold leavesP
  simp only [List.getD_eq_getElem?_getD, List.getElem?_map, List.getElem?_range hi, Option.map_some, Option.getD_some]
  exact okW_of_P (ofP_ok _ _)

end Go.Proofs.YtjbbkeiafjjemabGreat.Fx

/- What coachref.Leaves and coachref.Root return. -/
namespace Go.Proofs.YtjbbkeiafjjemabGreat.Fx
open Go.RowKit

theorem numL_range {xs : List Int} {n : Nat} (h : n ≤ 200) : (List.range n).map (numG xs) = numL xs n := by
  unfold numL; rw [if_neg (by omega)]

set_option maxHeartbeats 1600000 in
theorem rLeaves_calls (a : Option Addr) (n c : Nat) (xs : List Int) (w : World) (ha : Lst w a n c xs) (h1 : 1 ≤ n) (h2 : n ≤ 200) :
    Calls Tryz.prog 59 #[.slice a n c] w fun e w' => ∃ a' c', e = .returned (.slice a' ((n + 3) / 4 : Nat) c') ∧ LstW w' a' ((n + 3) / 4) c' (leavesP xs n) ∧ Below w.heap.size w w' := by
  unfold leavesP
  obtain ⟨N, hN⟩ : ∃ N, (n + 3) / 4 = N := ⟨_, rfl⟩
  rw [hN]
  obtain ⟨b, off, x, rfl, hb, h0, HX⟩ := ha.at1 (k := 0) (by omega)
  have HK := ha.cap
  go_enter Tryz.func59, Tryz.ntmps59
  go_wp2
  go_loopw [3, 4] (fun v i wr => ∃ k lo : Nat, k ≤ N ∧ i = .int .i64 lo ∧ k * 4 = lo ∧ OwnW w.heap.size wr v ((List.range k).map (leafG xs n)) ∧ Below w.heap.size w wr) (fun _ i _ => 204 - (intOf i).toNat)
  case atStart => exact ⟨0, 0, Nat.zero_le _, rfl, rfl, OwnW.nil _ _, Below.refl _ _⟩
  case round =>
    obtain ⟨k, lo, hk, rfl, hlo, hown, hbel⟩ := hrel
    have hsz := hbel.size
    have ha' := ha.below hbel (Nat.le_refl _)
    clear ha
    by_cases hlt : lo < n
    · obtain ⟨hi, hhi⟩ : ∃ hi, hiN n k = hi := ⟨_, rfl⟩
      have hh : lo ≤ hi ∧ hi ≤ n ∧ hi ≤ lo + 4 := by unfold hiN at hhi; omega
      have hs := ha'.sub (by omega) lo hi (by omega) (by omega)
      have HG : Hid (leafG xs n k = ofP 4 (numL ((xs.drop lo).take (hi - lo)) (hi - lo))) := by show leafG xs n k = _; unfold leafG; rw [hlo, hhi]
      have HM : Hid (hi = min (lo + 4) n) := by show hi = min (lo + 4) n; rw [← hhi, ← hlo]; rfl
      clear hhi
      go_wp2_with fail
      all_goals
        first
          | rw [show ((lo : Int) + 4).toNat = hi from by have := HM.out; omega]
          | rw [show n - lo = hi - lo from by have := HM.out; omega]
        refine (rNumbers_calls _ _ _ _ _ hs (by omega)).mono ?_
        rintro e w1 ⟨a1, c1, rfl, hl1, hw1⟩
        rw [numL_range (by omega)] at hl1
        have hown1 := hown.below hw1
        have hbel1 := hbel.trans (hw1.mono hbel.size)
        go_wp2_with fail
        refine (rof_calls 4 ⟨by omega, by omega⟩ _ _ _ _ _ hl1 (numL_ok _ _) (by omega)).mono ?_
        rintro e w2 ⟨rfl, hw2⟩
        have hown2 := hown1.below hw2
        have hbel2 := hbel1.trans (hw2.mono hbel1.size)
        have hsz2 := hbel2.size
        go_wp2_with (at_builtin; refine wpList_append_word (by rfl) _ _ (by rfl) w.heap.size _ ((List.range k).map (leafG xs n)) (ofP 4 (numL ((xs.drop lo).take (hi - lo)) (hi - lo))) w2.heap.size w (by rfl) (by rfl) (by exact hown2.alloc _) (by exact cell_new _ _ _) (by simp; omega) (by simp; omega) (by exact hbel2.alloc hsz2 _) ?_; intro v1 w3 hown3 hbel3)
        go_roundw
        case rel => exact ⟨k + 1, lo + 4, by omega, by go_num, by omega, hown3.congr (range_snocW _ _ _ HG.out), hbel3⟩
        case measure => simp [intOf]; omega
    · obtain rfl : k = N := by omega
      obtain ⟨a1, c1, rfl, hl1⟩ := hown.lst' (n := k) (by simp)
      go_wp2
      go_ret
      exact ⟨_, _, rfl, hl1, hbel⟩

theorem rRoot_calls (a : Option Addr) (n c : Nat) (xs : List Int) (w : World) (ha : Lst w a n c xs) (h1 : 1 ≤ n) (h2 : n ≤ 200) :
    Calls Tryz.prog 45 #[.slice a n c] w fun e w' => e = .returned (.int .u64 (ofP 3 [(n : Int), treeP (leavesP xs n)])) ∧ Below w.heap.size w w' := by
  have ht := treeP_ok (leavesP_ok xs n) (by rw [leavesP_len]; omega)
  have hn : okW (n : Int) := ⟨by omega, by omega⟩
  go_enter Tryz.func45, Tryz.ntmps45
  go_wp2_with (first | (go_at_call 59; refine (rLeaves_calls _ _ _ xs _ ha h1 h2).mono ?_; rintro e w1 ⟨a1, c1, rfl, hl1, hw1⟩) | (go_at_call 58; refine (rTree_calls 50 _ _ _ (leavesP xs n) _ (by omega) (by omega) (by omega) hl1 (leavesP_ok _ _)).mono ?_; rintro e w2 ⟨rfl, hw2⟩) | (go_at_call 57; refine (rPair_calls _ _ hn ht _).mono ?_; rintro e w3 ⟨rfl, hw3⟩))
  go_ret
  have e2 := hw1.trans (hw2.mono hw1.size)
  exact ⟨rfl, e2.trans (hw3.mono e2.size)⟩

end Go.Proofs.YtjbbkeiafjjemabGreat.Fx

/- What coachref.StateRoot returns, of two lists that are not empty. -/
namespace Go.Proofs.YtjbbkeiafjjemabGreat.Fx
open Go.RowKit

section
variable {w' W0 : World} {ops : Array Oper} {o : Oper} {a : Act} {Q : Exit → Act → World → Prop}
theorem step_append_all {K : Act → World → Prop} {E : Prop} (hgd : o.guard = none) (s x : Operand) (ho : o.op = .call { callee := .builtin .append, args := #[s, x], argTypes := #[26, 26] })
    (base : Nat) (v : Value) (xs zs : List Int) (b off m c : Nat) (W0 : World) (hs : a.eval s = v) (hx : a.eval x = .slice (some ⟨b, off, none⟩) m c) (hown : OwnI base w' v xs) (hz : Lst w' (some ⟨b, off, none⟩) m c zs) (hn : (xs.length + m) * 8 ≤ 140737488355328) (hbase : base ≤ w'.heap.size) (hB : Below base W0 w')
    (h : ∀ v' w1, OwnI base w1 v' (xs ++ zs) → Below base W0 w1 → K (a.put o.dst v') w1) :
    if Region.wanted o (yielded ops a.tmps) = true then Oper.wp Tryz.prog o a w' K Q else E := by
  obtain ⟨v', w1, hrun, h1, h2⟩ := run_append_all o.type base v xs zs b off m c hown hz hn hbase hB
  have hw : Region.wanted o (yielded ops a.tmps) = true := by simp [Region.wanted, hgd]
  rw [if_pos hw]
  unfold Oper.wp
  simp [execOp, ho, resolve, invoke, builtin, hs, hx, hrun, Result.andThen]
  exact h v' w1 h1 h2
end

def rootP (ws ms : List Int) (n : Nat) : Int := ofP 3 [(n : Int), treeP (leavesP (ws ++ ms) n)]

set_option maxRecDepth 100000 in
set_option maxHeartbeats 1600000 in
theorem rstateRoot_calls (b1 o1 n1 k1 : Nat) (ws : List Int) (b2 o2 n2 k2 : Nat) (ms : List Int) (w : World) (l1 : Lst w (some ⟨b1, o1, none⟩) n1 k1 ws) (l2 : Lst w (some ⟨b2, o2, none⟩) n2 k2 ms) (h1 : 1 ≤ n1) (h2 : 1 ≤ n2) (h3 : n1 + n2 ≤ 200) :
    Calls Tryz.prog 30 #[.agg #[.slice (some ⟨b1, o1, none⟩) n1 k1, .slice (some ⟨b2, o2, none⟩) n2 k2]] w fun e w' => e = .returned (.int .u64 (rootP ws ms (n1 + n2))) ∧ Below w.heap.size w w' := by
  have hal := low_alloc w (.cells #[.slice (some ⟨b1, o1, none⟩) n1 k1, .slice (some ⟨b2, o2, none⟩) n2 k2] 28)
  obtain ⟨W, HW⟩ : ∃ q, Hid (q = w.alloc (.cells #[.slice (some ⟨b1, o1, none⟩) n1 k1, .slice (some ⟨b2, o2, none⟩) n2 k2] 28)) := ⟨_, rfl⟩
  have hW : Below w.heap.size w W := by rw [HW.out]; exact hal
  have m1 := l1.below hW (Nat.le_refl _)
  have m2 := l2.below hW (Nat.le_refl _)
  have hrow : W.rowIs w.heap.size 28 2 (fn2 (.slice (some ⟨b1, o1, none⟩) n1 k1) (.slice (some ⟨b2, o2, none⟩) n2 k2)) := by rw [HW.out]; exact fn2_alloc _ _ _ _
  have hWs : w.heap.size < W.heap.size := hrow.lt
  have S0 : W.drew.cell? ⟨w.heap.size, 0, none⟩ = some (.slice (some ⟨b1, o1, none⟩) n1 k1) ∧ W.drew.cell? ⟨w.heap.size, 1, none⟩ = some (.slice (some ⟨b2, o2, none⟩) n2 k2) := fn2_cells hrow
  have s0 := S0.1
  have s1 := S0.2
  have t0 : W.cell? ⟨w.heap.size, 0, none⟩ = some (.slice (some ⟨b1, o1, none⟩) n1 k1) := (fn2_cells hrow).1
  have t1 : W.cell? ⟨w.heap.size, 1, none⟩ = some (.slice (some ⟨b2, o2, none⟩) n2 k2) := (fn2_cells hrow).2
  have hl1 := l1.len
  have hl2 := l2.len
  have hBd : Below W.heap.size W W.drew := below_drewN (Below.refl _ _) 1
  have KS : Hid (∀ q, Below W.heap.size W q → q.cell? ⟨w.heap.size, 0, none⟩ = some (.slice (some ⟨b1, o1, none⟩) n1 k1) ∧ q.cell? ⟨w.heap.size, 1, none⟩ = some (.slice (some ⟨b2, o2, none⟩) n2 k2)) := fun q hq => fn2_cells (hrow.of_block (hq.block _ hWs))
  unfold rootP
  clear l1 l2 hal
  go_enter Tryz.func30, Tryz.ntmps30
  go_wp2_with fail
  rw [← HW.out]
  clear HW
  go_region_held3 (fun q => q.cell? ⟨w.heap.size, 0, none⟩ = some (.slice (some ⟨b1, o1, none⟩) n1 k1) ∧ q.cell? ⟨w.heap.size, 1, none⟩ = some (.slice (some ⟨b2, o2, none⟩) n2 k2)) (first | with_reducible exact S5 | with_reducible exact S4 | with_reducible exact S3 | with_reducible exact S0)
    (first | (refine step_append_all (by rfl) _ _ (by rfl) W.heap.size _ [] ws b1 o1 n1 k1 W (by rfl) (by rfl) (by exact OwnI.nil _ _) (by exact m1.drew) (by simp; omega) (by simp) (by exact hBd) ?_; intro v3 w3 hown3 hbel3; have S3 := KS.out _ hbel3) | (refine step_append_all (by rfl) _ _ (by rfl) W.heap.size _ ([] ++ ws) ms b2 o2 n2 k2 W (by rfl) (by rfl) (by exact hown3) (by exact m2.below hbel3 (Nat.le_refl _)) (by simp; omega) (by exact hbel3.size) (by exact hbel3) ?_; intro v4 w4 hown4 hbel4; have S4 := KS.out _ hbel4; obtain ⟨va, vc, hv4, l4⟩ := hown4.lst' (n := n1 + n2) (by simp; omega); subst hv4) | (go_at_call 45; refine (rRoot_calls va (n1 + n2) vc (ws ++ ms) _ (by simpa using l4) (by omega) h3).mono ?_; rintro e w5 ⟨rfl, hw5⟩; have S5 := KS.out _ (hbel4.trans (hw5.mono hbel4.size))))
  all_goals
    go_wp2
    go_ret
    exact ⟨rfl, hW.trans ((hbel4.trans (hw5.mono hbel4.size)).mono hW.size)⟩

end Go.Proofs.YtjbbkeiafjjemabGreat.Fx

/- What coachref's Dot returns: the plain number of the text Lists. -/
namespace Go.Proofs.YtjbbkeiafjjemabGreat.Fx
open Go.RowKit

set_option maxHeartbeats 400000 in
theorem rdot_calls (a b : Option Addr) (la ca cb : Nat) (xs ys : List Int) (w : World) (ha : Lst w a la ca xs) (hb : Lst w b la cb ys) (h63 : la ≤ 1000000000000000000) :
    Calls Tryz.prog 42 #[.slice a la ca, .slice b la cb] w fun e w' => e = .returned (.int .i64 (dotTo xs ys la)) ∧ ∃ k, w' = w.drewN k := by
  go_enter Tryz.func42, Tryz.ntmps42
  go_wp2
  go_loopw [5, 6] (fun s i wr => ∃ k n : Nat, k ≤ la ∧ i = .int .i64 k ∧ s = .int .i64 (dotTo xs ys k) ∧ wr = w.drewN n) (fun _ i _ => la - (intOf i).toNat)
  case atStart => exact ⟨0, 0, Nat.zero_le _, rfl, rfl, rfl⟩
  case round =>
    obtain ⟨k, n, hk, rfl, rfl, hw⟩ := hrel
    have ha' : Lst wr a la ca xs := hw ▸ ha.drewN n
    have hb' : Lst wr b la cb ys := hw ▸ hb.drewN n
    have HW : Hid (wr = w.drewN n) := hw
    clear hw ha hb
    by_cases hlt : k < la
    · obtain ⟨b1, o1, x, rfl, _, c1, HX⟩ := ha'.at1 hlt
      obtain ⟨b2, o2, y, rfl, _, c2, HY⟩ := hb'.at1 hlt
      go_wp2
      go_quiet ((first | (go_at_call 39; exact Calls.quiet_of_same (rmul_calls _ _ _)) | (go_at_call 26; exact Calls.quiet_of_same (radd_calls _ _ _))))
      go_wp2
      go_roundw
      case rel => exact ⟨k + 1, _, by omega, by go_num, by simp only [dotTo, HX.out, HY.out], by rw [HW.out, World.drewN_drewN]⟩
      case measure => simp [intOf]; omega
    · go_wp2
      go_ret
      obtain rfl : k = la := by omega
      exact ⟨rfl, _, HW.out⟩
end Go.Proofs.YtjbbkeiafjjemabGreat.Fx

/- What coachref's Matrix and SameMatrix return: the plain answers of the text Mats. -/
namespace Go.Proofs.YtjbbkeiafjjemabGreat.Fx
open Go.RowKit
end Go.Proofs.YtjbbkeiafjjemabGreat.Fx

/- What coachref's line and Times return: the rows and the columns of a matrix, and their products with a list. -/
namespace Go.Proofs.YtjbbkeiafjjemabGreat.Fx
open Go.RowKit

/-- Of c numbers those that are asked for; and of r rows of them. -/
def inTo (p : Nat → Bool) (f : Nat → Int) : Nat → List Int
  | 0 => []
  | c + 1 => inTo p f c ++ (if p c = true then [f c] else [])
def outTo (P : Nat → Nat → Bool) (xs : List Int) (C : Nat) : Nat → List Int
  | 0 => []
  | r + 1 => outTo P xs C r ++ inTo (P r) (fun c => xs.getD (r * C + c) 0) C
theorem inTo_yes (p : Nat → Bool) (f : Nat → Int) (c : Nat) (x : Int) (l : List Int) (h : p c = true) (hx : f c = x) : l ++ inTo p f c ++ [x] = l ++ inTo p f (c + 1) := by
  simp [inTo, h, hx]
theorem inTo_no (p : Nat → Bool) (f : Nat → Int) (c : Nat) (h : p c = false) : inTo p f c = inTo p f (c + 1) := by
  simp [inTo, h]
theorem inTo_len (p : Nat → Bool) (f : Nat → Int) (c : Nat) : (inTo p f c).length ≤ c := by
  induction c with
  | zero => exact Nat.le_refl _
  | succ c ih =>
    cases h : p c with
    | true => simp [inTo, h]; omega
    | false => simp [inTo, h]; omega
theorem outTo_len (P : Nat → Nat → Bool) (xs : List Int) (C r : Nat) : (outTo P xs C r).length ≤ r * C := by
  induction r with
  | zero => simp [outTo]
  | succ r ih =>
    have := inTo_len (P r) (fun c => xs.getD (r * C + c) 0) C
    rw [outTo, List.length_append, Nat.succ_mul]; omega
theorem inTo_all (f : Nat → Int) (c : Nat) : inTo (fun _ => true) f c = (List.range c).map f := by
  induction c with
  | zero => rfl
  | succ c ih => rw [inTo, ih, List.range_succ]; simp
theorem inTo_none (f : Nat → Int) (c : Nat) : inTo (fun _ => false) f c = [] := by
  induction c with
  | zero => rfl
  | succ c ih => rw [inTo, ih]; simp
theorem inTo_one (f : Nat → Int) (k c : Nat) : inTo (fun i => decide (i = k)) f c = if k < c then [f k] else [] := by
  induction c with
  | zero => rfl
  | succ c ih =>
    rw [inTo, ih]
    by_cases h : k < c
    · have h1 : ¬ c = k := by omega
      have h2 : k < c + 1 := by omega
      simp [h, h1, h2]
    · by_cases e : c = k
      · subst e; simp
      · have h2 : ¬ k < c + 1 := by omega
        simp [h, e, h2]
def rowP (k r _c : Nat) : Bool := decide (r = k)
def colP (k _r c : Nat) : Bool := decide (c = k)
theorem outTo_row (xs : List Int) (C k r : Nat) : outTo (rowP k) xs C r = if k < r then rowL xs C k else [] := by
  induction r with
  | zero => rfl
  | succ r ih =>
    rw [outTo, ih]
    by_cases e : r = k
    · subst e
      have h1 : rowP r r = fun _ => true := by funext c; simp [rowP]
      rw [h1, inTo_all, if_neg (by omega), if_pos (by omega)]; rfl
    · have h1 : rowP k r = fun _ => false := by funext c; simp [rowP, e]
      rw [h1, inTo_none, List.append_nil]
      by_cases h : k < r
      · rw [if_pos h, if_pos (by omega)]
      · rw [if_neg h, if_neg (by omega)]
theorem outTo_col (xs : List Int) (C k r : Nat) (hk : k < C) : outTo (colP k) xs C r = colL xs r C k := by
  induction r with
  | zero => rfl
  | succ r ih =>
    have h1 : colP k r = fun i => decide (i = k) := by funext c; rfl
    rw [outTo, ih, h1, inTo_one, if_pos hk]
    unfold colL
    rw [List.range_succ, List.map_append]; rfl

set_option maxHeartbeats 1600000 in
theorem rline_row (R C k : Nat) (a : Option Addr) (cap : Nat) (xs : List Int) (w : World) (ha : Lst w a (R * C) cap xs) (hR : R ≤ 4) (hC : C ≤ 4) (hk : k < R) :
    Calls Tryz.prog 43 #[.agg #[.int .i64 R, .int .i64 C, .slice a (R * C) cap], .int .i64 k, .bool false] w fun e w' => ∃ a' n' c', e = .returned (.slice a' n' c') ∧ Lst w' a' n' c' (rowL xs C k) ∧ Below w.heap.size w w' := by
  have hal := (Below.refl w.heap.size w).alloc (Nat.le_refl _) (.cells #[.int .i64 R, .int .i64 C, .slice a (R * C) cap] 59)
  have h2 := prod_sideN hR hC
  have i3 : (R : Int) * (C : Int) ≤ 16 := by exact_mod_cast h2
  go_enter Tryz.func43, Tryz.ntmps43
  go_wp2
  go_loopw [7, 8] (fun v i wr => ∃ r : Nat, r ≤ R ∧ i = .int .i64 r ∧ OwnI (w.heap.size + 1) wr v (outTo (rowP k) xs C r) ∧ Below (w.heap.size + 1) (w.alloc (.cells #[.int .i64 R, .int .i64 C, .slice a (R * C) cap] 59)) wr) (fun _ i _ => R - (intOf i).toNat)
  case atStart => exact ⟨0, Nat.zero_le _, rfl, OwnI.nil _ _, Below.refl _ _⟩
  case round =>
    obtain ⟨r, hr, rfl, hown, hbel⟩ := hrel
    obtain ⟨g0, g1, g2⟩ := box3 _ _ _ _ hbel (Nat.lt_succ_self _)
    by_cases hlt : r < R
    · go_wp2
      generalize hwr : wr = w1 at *
      clear hwr
      go_loopw [7, 9] (fun v i wr => ∃ c : Nat, c ≤ C ∧ i = .int .i64 c ∧ OwnI (w.heap.size + 1) wr v (outTo (rowP k) xs C r ++ inTo (rowP k r) (fun c => xs.getD (r * C + c) 0) c) ∧ Below (w.heap.size + 1) (w.alloc (.cells #[.int .i64 R, .int .i64 C, .slice a (R * C) cap] 59)) wr) (fun _ i _ => C - (intOf i).toNat)
      case atStart => exact ⟨0, Nat.zero_le _, rfl, by rw [inTo, List.append_nil]; exact hown, hbel⟩
      case round =>
        clear hown hbel g0 g1 g2
        obtain ⟨c, hc, rfl, hown, hbel⟩ := hrel
        obtain ⟨g0, g1, g2⟩ := box3 _ _ _ _ hbel (Nat.lt_succ_self _)
        have hsz : w.heap.size + 1 ≤ wr.heap.size := by have := hbel.size; simpa using this
        by_cases hlt2 : c < C
        · have m1 : (r + 1) * C ≤ R * C := Nat.mul_le_mul_right _ hlt
          have m2 : (r + 1) * C = r * C + C := Nat.succ_mul _ _
          have m3 : r * C + c < R * C := by omega
          have i5 : (0 : Int) ≤ (r : Int) * (C : Int) := by exact_mod_cast Nat.zero_le (r * C)
          have i6 : (r : Int) * (C : Int) + (c : Int) < (R : Int) * (C : Int) := by exact_mod_cast m3
          have l1 := outTo_len (rowP k) xs C r
          have l2 := inTo_len (rowP k r) (fun c => xs.getD (r * C + c) 0) c
          obtain ⟨b1, o1, x, rfl, s1, c1, HX⟩ := (ha.below hal (Nat.le_refl _)).at1b hbel (by simp) m3
          by_cases hp : r = k
          · have ht : ((r : Int) == (k : Int)) = true := by rw [beq_iff_eq]; omega
            have HP : Hid (rowP k r c = true) := decide_eq_true hp
            clear m2 hp ha hal
            go_wp2_with (at_builtin; refine wpList_append_int (by rfl) _ _ (by rfl) (w.heap.size + 1) _ (outTo (rowP k) xs C r ++ inTo (rowP k r) (fun c => xs.getD (r * C + c) 0) c) x wr.heap.size wr (by rfl) (by rfl) (by exact hown.alloc _) (by exact cell_new _ _ _) (by rw [List.length_append]; omega) (by simp; omega) (by exact (Below.refl _ _).alloc (by omega) _) ?_; intro v1 w3 hown1 hbel1)
            go_roundw
            case rel => exact ⟨c + 1, by omega, by go_num, hown1.congr (inTo_yes _ _ _ _ _ HP.out HX.out), hbel.trans hbel1⟩
            case measure => simp [intOf]; omega
          · have ht : ((r : Int) == (k : Int)) = false := by rw [beq_eq_false_iff_ne]; omega
            have HP : Hid (rowP k r c = false) := decide_eq_false hp
            clear m2 ha hal
            go_wp2
            go_roundw
            case rel => exact ⟨c + 1, by omega, by go_num, by rw [← inTo_no _ _ _ HP.out]; exact hown, hbel⟩
            case measure => simp [intOf]; omega
        · go_wp2
          go_roundw
          case rel =>
            obtain rfl : c = C := by omega
            exact ⟨r + 1, by omega, by go_num, hown, hbel⟩
          case measure => simp [intOf]; omega
    · obtain rfl : r = R := by omega
      obtain ⟨a1, c1, rfl, hl⟩ := hown.lst
      have hbw := hal.trans (hbel.mono (by omega))
      go_wp2
      go_ret
      exact ⟨_, _, _, rfl, by rw [outTo_row, if_pos hk] at hl; rw [outTo_row, if_pos hk]; exact hl, hbw⟩

set_option maxHeartbeats 1600000 in
theorem rline_col (R C k : Nat) (a : Option Addr) (cap : Nat) (xs : List Int) (w : World) (ha : Lst w a (R * C) cap xs) (hR : R ≤ 4) (hC : C ≤ 4) (hk : k < C) :
    Calls Tryz.prog 43 #[.agg #[.int .i64 R, .int .i64 C, .slice a (R * C) cap], .int .i64 k, .bool true] w fun e w' => ∃ a' n' c', e = .returned (.slice a' n' c') ∧ Lst w' a' n' c' (colL xs R C k) ∧ Below w.heap.size w w' := by
  have hal := (Below.refl w.heap.size w).alloc (Nat.le_refl _) (.cells #[.int .i64 R, .int .i64 C, .slice a (R * C) cap] 59)
  have h2 := prod_sideN hR hC
  have i3 : (R : Int) * (C : Int) ≤ 16 := by exact_mod_cast h2
  go_enter Tryz.func43, Tryz.ntmps43
  go_wp2
  go_loopw [7, 8] (fun v i wr => ∃ r : Nat, r ≤ R ∧ i = .int .i64 r ∧ OwnI (w.heap.size + 1) wr v (outTo (colP k) xs C r) ∧ Below (w.heap.size + 1) (w.alloc (.cells #[.int .i64 R, .int .i64 C, .slice a (R * C) cap] 59)) wr) (fun _ i _ => R - (intOf i).toNat)
  case atStart => exact ⟨0, Nat.zero_le _, rfl, OwnI.nil _ _, Below.refl _ _⟩
  case round =>
    obtain ⟨r, hr, rfl, hown, hbel⟩ := hrel
    obtain ⟨g0, g1, g2⟩ := box3 _ _ _ _ hbel (Nat.lt_succ_self _)
    by_cases hlt : r < R
    · go_wp2
      generalize hwr : wr = w1 at *
      clear hwr
      go_loopw [7, 9] (fun v i wr => ∃ c : Nat, c ≤ C ∧ i = .int .i64 c ∧ OwnI (w.heap.size + 1) wr v (outTo (colP k) xs C r ++ inTo (colP k r) (fun c => xs.getD (r * C + c) 0) c) ∧ Below (w.heap.size + 1) (w.alloc (.cells #[.int .i64 R, .int .i64 C, .slice a (R * C) cap] 59)) wr) (fun _ i _ => C - (intOf i).toNat)
      case atStart => exact ⟨0, Nat.zero_le _, rfl, by rw [inTo, List.append_nil]; exact hown, hbel⟩
      case round =>
        clear hown hbel g0 g1 g2
        obtain ⟨c, hc, rfl, hown, hbel⟩ := hrel
        obtain ⟨g0, g1, g2⟩ := box3 _ _ _ _ hbel (Nat.lt_succ_self _)
        have hsz : w.heap.size + 1 ≤ wr.heap.size := by have := hbel.size; simpa using this
        by_cases hlt2 : c < C
        · have m1 : (r + 1) * C ≤ R * C := Nat.mul_le_mul_right _ hlt
          have m2 : (r + 1) * C = r * C + C := Nat.succ_mul _ _
          have m3 : r * C + c < R * C := by omega
          have i5 : (0 : Int) ≤ (r : Int) * (C : Int) := by exact_mod_cast Nat.zero_le (r * C)
          have i6 : (r : Int) * (C : Int) + (c : Int) < (R : Int) * (C : Int) := by exact_mod_cast m3
          have l1 := outTo_len (colP k) xs C r
          have l2 := inTo_len (colP k r) (fun c => xs.getD (r * C + c) 0) c
          obtain ⟨b1, o1, x, rfl, s1, c1, HX⟩ := (ha.below hal (Nat.le_refl _)).at1b hbel (by simp) m3
          by_cases hp : c = k
          · have ht : ((c : Int) == (k : Int)) = true := by rw [beq_iff_eq]; omega
            have HP : Hid (colP k r c = true) := decide_eq_true hp
            clear m2 hp ha hal
            go_wp2_with (at_builtin; refine wpList_append_int (by rfl) _ _ (by rfl) (w.heap.size + 1) _ (outTo (colP k) xs C r ++ inTo (colP k r) (fun c => xs.getD (r * C + c) 0) c) x wr.heap.size wr (by rfl) (by rfl) (by exact hown.alloc _) (by exact cell_new _ _ _) (by rw [List.length_append]; omega) (by simp; omega) (by exact (Below.refl _ _).alloc (by omega) _) ?_; intro v1 w3 hown1 hbel1)
            go_roundw
            case rel => exact ⟨c + 1, by omega, by go_num, hown1.congr (inTo_yes _ _ _ _ _ HP.out HX.out), hbel.trans hbel1⟩
            case measure => simp [intOf]; omega
          · have ht : ((c : Int) == (k : Int)) = false := by rw [beq_eq_false_iff_ne]; omega
            have HP : Hid (colP k r c = false) := decide_eq_false hp
            clear m2 ha hal
            go_wp2
            go_roundw
            case rel => exact ⟨c + 1, by omega, by go_num, by rw [← inTo_no _ _ _ HP.out]; exact hown, hbel⟩
            case measure => simp [intOf]; omega
        · go_wp2
          go_roundw
          case rel =>
            obtain rfl : c = C := by omega
            exact ⟨r + 1, by omega, by go_num, hown, hbel⟩
          case measure => simp [intOf]; omega
    · obtain rfl : r = R := by omega
      obtain ⟨a1, c1, rfl, hl⟩ := hown.lst
      have hbw := hal.trans (hbel.mono (by omega))
      go_wp2
      go_ret
      exact ⟨_, _, _, rfl, by rw [outTo_col _ _ _ _ hk] at hl; rw [outTo_col _ _ _ _ hk]; exact hl, hbw⟩

end Go.Proofs.YtjbbkeiafjjemabGreat.Fx
