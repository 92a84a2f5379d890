/- What coachref.Chained returns of any record, and Chain of one that may be chained. -/
import Derived.Test.YtnlcheebdkjpbabGreatJ11
import Derived.Test.YtnlcheebdkjpbabGreatJ12
import Derived.Test.YtnlcheebdkjpbabGreatJ28
import Derived.Test.YtnlcheebdkjpbabGreatJ18
import Derived.Test.YtnlcheebdkjpbabGreatJ21
namespace Go.Proofs.YtnlcheebdkjpbabGreat.Fx
open Go.RowKit

set_option maxRecDepth 100000 in
set_option maxHeartbeats 1600000 in
theorem rchained_calls (x : Rcm) (bs : List Int) (w : World) (l : Lst w x.a x.n x.k bs) (hn : x.n ≤ 9223372036854775807) :
    Calls Tryz.prog 22 #[x.val] w fun e w' => e = .returned (.bool (chB x.s x.r x.n bs)) ∧ Below w.heap.size w w' := by
  have hal := low_alloc w (.cells x.cells 33)
  have l' := l.below hal (Nat.le_refl _)
  have hlen := l.len
  have row := fn5_alloc w (.int .i64 x.s) (.slice x.a x.n x.k) (.int .i64 x.r) (.int .u64 x.root) (.int .u64 x.chain) 33
  obtain ⟨b0, HB0⟩ : ∃ b, Hid ((decide (0 ≤ x.s) && decide (0 ≤ x.r) && decide (x.n ≤ 8)) = b) := ⟨_, rfl⟩
  have HR : Hid (chB x.s x.r x.n bs = (b0 && nonB bs)) := by show chB x.s x.r x.n bs = _; unfold chB; rw [HB0.out]
  obtain ⟨s, a, n, k, r, root, chain⟩ := x
  simp only [Rcm.val, Rcm.cells] at *
  obtain ⟨W, HW⟩ : ∃ q, Hid (q = w.alloc (.cells #[.int .i64 s, .slice a n k, .int .i64 r, .int .u64 root, .int .u64 chain] 33)) := ⟨_, rfl⟩
  rw [← HW.out] at hal l' row
  obtain ⟨c0, c1, c2, c3, c4⟩ := fn5_box row
  have key : ∀ b : Bool, b = b0 → (0 ≤ s ∧ 0 ≤ r ∧ (n : Int) ≤ 8 → b = true) → True := fun _ _ _ => True.intro
  clear key l
  by_cases h1 : 0 ≤ s
  rotate_left
  · have hb : b0 = false := by rw [← HB0.out, decide_eq_false h1]; rfl
    subst hb
    clear HB0
    go_enter Tryz.func22, Tryz.ntmps22
    go_wp2_with fail
    rw [← HW.out]
    clear HW
    go_loopw [3, 4] (fun v i wr => ∃ (j : Nat) (ok : Bool), j ≤ n ∧ i = .int .i64 j ∧ v = .bool ok ∧ nonTo bs j false ok ∧ wr = W) (fun _ i _ => n - (intOf i).toNat)
    case atStart => exact ⟨0, false, Nat.zero_le _, rfl, rfl, nonTo_zero _ _, rfl⟩
    case round =>
      obtain ⟨j, ok, hj, rfl, rfl, hok, hw⟩ := hrel
      replace hw := hw.symm
      subst hw
      by_cases hlt : j < n
      · obtain ⟨b1, o1, y, rfl, _, c5, HX⟩ := l'.at1 hlt
        have hst := nonTo_step hok HX.out
        cases ok with
        | true =>
          have HS : Hid (nonTo bs (j + 1) false (true && decide (0 ≤ y))) := hst
          clear hst hok
          go_wp2_with fail
          all_goals
            go_roundw
            case rel => exact ⟨j + 1, _, by omega, by go_num, rfl, by first | (have h := HS.out; rw [Bool.true_and] at h; exact h) | (have h := HS.out; rw [Bool.true_and, decide_eq_true (by assumption)] at h; exact h) | (have h := HS.out; rw [Bool.true_and, decide_eq_false (by omega)] at h; exact h), by trivial⟩
            case measure => simp [intOf]; omega
        | false =>
          have HS : Hid (nonTo bs (j + 1) false (false && decide (0 ≤ y))) := hst
          clear hst hok
          go_wp2_with fail
          go_roundw
          case rel => exact ⟨j + 1, false, by omega, by go_num, rfl, by have h := HS.out; rw [Bool.false_and] at h; exact h, by trivial⟩
          case measure => simp [intOf]; omega
      · obtain rfl : j = n := by omega
        go_wp2_with fail
        go_ret
        exact ⟨ret_bool (by rw [HR.out]; exact nonTo_end hok hlen), hal⟩
  by_cases h2 : 0 ≤ r
  rotate_left
  · have hb : b0 = false := by rw [← HB0.out, decide_eq_false h2, Bool.and_false]; rfl
    subst hb
    clear HB0
    go_enter Tryz.func22, Tryz.ntmps22
    go_wp2_with fail
    rw [← HW.out]
    clear HW
    go_loopw [3, 4] (fun v i wr => ∃ (j : Nat) (ok : Bool), j ≤ n ∧ i = .int .i64 j ∧ v = .bool ok ∧ nonTo bs j false ok ∧ wr = W) (fun _ i _ => n - (intOf i).toNat)
    case atStart => exact ⟨0, false, Nat.zero_le _, rfl, rfl, nonTo_zero _ _, rfl⟩
    case round =>
      obtain ⟨j, ok, hj, rfl, rfl, hok, hw⟩ := hrel
      replace hw := hw.symm
      subst hw
      by_cases hlt : j < n
      · obtain ⟨b1, o1, y, rfl, _, c5, HX⟩ := l'.at1 hlt
        have hst := nonTo_step hok HX.out
        cases ok with
        | true =>
          have HS : Hid (nonTo bs (j + 1) false (true && decide (0 ≤ y))) := hst
          clear hst hok
          go_wp2_with fail
          all_goals
            go_roundw
            case rel => exact ⟨j + 1, _, by omega, by go_num, rfl, by first | (have h := HS.out; rw [Bool.true_and] at h; exact h) | (have h := HS.out; rw [Bool.true_and, decide_eq_true (by assumption)] at h; exact h) | (have h := HS.out; rw [Bool.true_and, decide_eq_false (by omega)] at h; exact h), by trivial⟩
            case measure => simp [intOf]; omega
        | false =>
          have HS : Hid (nonTo bs (j + 1) false (false && decide (0 ≤ y))) := hst
          clear hst hok
          go_wp2_with fail
          go_roundw
          case rel => exact ⟨j + 1, false, by omega, by go_num, rfl, by have h := HS.out; rw [Bool.false_and] at h; exact h, by trivial⟩
          case measure => simp [intOf]; omega
      · obtain rfl : j = n := by omega
        go_wp2_with fail
        go_ret
        exact ⟨ret_bool (by rw [HR.out]; exact nonTo_end hok hlen), hal⟩
  by_cases h3 : n ≤ 8
  rotate_left
  · have h3i : ¬ (n : Int) ≤ 8 := by omega
    have hb : b0 = false := by rw [← HB0.out, decide_eq_false h3, Bool.and_false]
    subst hb
    clear HB0
    go_enter Tryz.func22, Tryz.ntmps22
    go_wp2_with fail
    rw [← HW.out]
    clear HW
    go_loopw [3, 4] (fun v i wr => ∃ (j : Nat) (ok : Bool), j ≤ n ∧ i = .int .i64 j ∧ v = .bool ok ∧ nonTo bs j false ok ∧ wr = W) (fun _ i _ => n - (intOf i).toNat)
    case atStart => exact ⟨0, false, Nat.zero_le _, rfl, rfl, nonTo_zero _ _, rfl⟩
    case round =>
      obtain ⟨j, ok, hj, rfl, rfl, hok, hw⟩ := hrel
      replace hw := hw.symm
      subst hw
      by_cases hlt : j < n
      · obtain ⟨b1, o1, y, rfl, _, c5, HX⟩ := l'.at1 hlt
        have hst := nonTo_step hok HX.out
        cases ok with
        | true =>
          have HS : Hid (nonTo bs (j + 1) false (true && decide (0 ≤ y))) := hst
          clear hst hok
          go_wp2_with fail
          all_goals
            go_roundw
            case rel => exact ⟨j + 1, _, by omega, by go_num, rfl, by first | (have h := HS.out; rw [Bool.true_and] at h; exact h) | (have h := HS.out; rw [Bool.true_and, decide_eq_true (by assumption)] at h; exact h) | (have h := HS.out; rw [Bool.true_and, decide_eq_false (by omega)] at h; exact h), by trivial⟩
            case measure => simp [intOf]; omega
        | false =>
          have HS : Hid (nonTo bs (j + 1) false (false && decide (0 ≤ y))) := hst
          clear hst hok
          go_wp2_with fail
          go_roundw
          case rel => exact ⟨j + 1, false, by omega, by go_num, rfl, by have h := HS.out; rw [Bool.false_and] at h; exact h, by trivial⟩
          case measure => simp [intOf]; omega
      · obtain rfl : j = n := by omega
        go_wp2_with fail
        go_ret
        exact ⟨ret_bool (by rw [HR.out]; exact nonTo_end hok hlen), hal⟩
  have h3i : (n : Int) ≤ 8 := by omega
  have hb : b0 = true := by rw [← HB0.out, decide_eq_true h1, decide_eq_true h2, decide_eq_true h3]; rfl
  subst hb
  clear HB0
  go_enter Tryz.func22, Tryz.ntmps22
  go_wp2_with fail
  rw [← HW.out]
  clear HW
  go_loopw [3, 4] (fun v i wr => ∃ (j : Nat) (ok : Bool), j ≤ n ∧ i = .int .i64 j ∧ v = .bool ok ∧ nonTo bs j true ok ∧ wr = W) (fun _ i _ => n - (intOf i).toNat)
  case atStart => exact ⟨0, true, Nat.zero_le _, rfl, rfl, nonTo_zero _ _, rfl⟩
  case round =>
    obtain ⟨j, ok, hj, rfl, rfl, hok, hw⟩ := hrel
    replace hw := hw.symm
    subst hw
    by_cases hlt : j < n
    · obtain ⟨b1, o1, y, rfl, _, c5, HX⟩ := l'.at1 hlt
      have hst := nonTo_step hok HX.out
      cases ok with
      | true =>
        have HS : Hid (nonTo bs (j + 1) true (true && decide (0 ≤ y))) := hst
        clear hst hok
        go_wp2_with fail
        all_goals
          go_roundw
          case rel => exact ⟨j + 1, _, by omega, by go_num, rfl, by first | (have h := HS.out; rw [Bool.true_and] at h; exact h) | (have h := HS.out; rw [Bool.true_and, decide_eq_true (by assumption)] at h; exact h) | (have h := HS.out; rw [Bool.true_and, decide_eq_false (by omega)] at h; exact h), by trivial⟩
          case measure => simp [intOf]; omega
      | false =>
        have HS : Hid (nonTo bs (j + 1) true (false && decide (0 ≤ y))) := hst
        clear hst hok
        go_wp2_with fail
        go_roundw
        case rel => exact ⟨j + 1, false, by omega, by go_num, rfl, by have h := HS.out; rw [Bool.false_and] at h; exact h, by trivial⟩
        case measure => simp [intOf]; omega
    · obtain rfl : j = n := by omega
      go_wp2_with fail
      go_ret
      exact ⟨ret_bool (by rw [HR.out]; exact nonTo_end hok hlen), hal⟩

set_option maxRecDepth 100000 in
set_option maxHeartbeats 3200000 in
theorem rchain_calls (before : Int) (hbf : okW before) (x : Rcm) (bs : List Int) (w : World) (l : Lst w x.a x.n x.k bs) (hs : 0 ≤ x.s ∧ x.s ≤ 9223372036854775807) (hr : 0 ≤ x.r ∧ x.r ≤ 9223372036854775807) (hroot : okW x.root) (h8 : x.n ≤ 8) (hbs : ∀ j, j < x.n → 0 ≤ bs.getD j 0 ∧ bs.getD j 0 ≤ 9223372036854775807) :
    Calls Tryz.prog 23 #[.int .u64 before, x.val] w fun e w' => e = .returned (.int .u64 (chainP before x.s x.r x.root bs)) ∧ Below w.heap.size w w' := by
  have hal := low_alloc w (.cells x.cells 33)
  have l' := l.below hal (Nat.le_refl _)
  have hlen := l.len
  have row := fn5_alloc w (.int .i64 x.s) (.slice x.a x.n x.k) (.int .i64 x.r) (.int .u64 x.root) (.int .u64 x.chain) 33
  obtain ⟨s, a, n, k, r, root, chain⟩ := x
  simp only [Rcm.val, Rcm.cells] at *
  obtain ⟨s0, s1⟩ := hs
  obtain ⟨r0, r1⟩ := hr
  have HBS : Hid (∀ j, j < n → 0 ≤ bs.getD j 0 ∧ bs.getD j 0 ≤ 9223372036854775807) := hbs
  have HOK : Hid (okL (chainL before s r root bs)) := by
    show okL _
    unfold chainL
    refine okL_app ?_ (fun i hi => ⟨(hbs i (by omega)).1, by have := (hbs i (by omega)).2; omega⟩)
    intro i hi
    have h5 : i < 5 := by simpa using hi
    rcases lt5 h5 with rfl | rfl | rfl | rfl | rfl
    · exact hbf
    · exact ⟨s0, by simp; omega⟩
    · exact ⟨r0, by simp; omega⟩
    · exact hroot
    · exact ⟨by simp, by simp; omega⟩
  obtain ⟨W, HW⟩ : ∃ q, Hid (q = w.alloc (.cells #[.int .i64 s, .slice a n k, .int .i64 r, .int .u64 root, .int .u64 chain] 33)) := ⟨_, rfl⟩
  have HWS : Hid (w.heap.size + 1 = W.heap.size) := by show _ = _; rw [HW.out]; simp
  rw [← HW.out] at hal l' row
  obtain ⟨c0, c1, c2, c3, c4⟩ := fn5_box row
  have own0 := OwnW.lit W [before, s, r, root, (n : Int)] (by simp)
  have hl0 := low_alloc W (.cells #[.int .u64 before, .int .u64 s, .int .u64 r, .int .u64 root, .int .u64 (n : Int)] 22)
  have KC : Hid (∀ q, Below W.heap.size W q → q.cell? ⟨w.heap.size, 1, none⟩ = some (.slice a n k)) := fun q hq => (fn5_box (row.of_block (hq.block _ row.lt))).c1
  have hlt0 := row.lt
  clear hbs l hbf hroot
  go_enter Tryz.func23, Tryz.ntmps23
  go_wp2_with fail
  rw [← HW.out]
  clear HW
  go_loopw [5, 6] (fun v i wr => ∃ j : Nat, j ≤ n ∧ i = .int .i64 j ∧ OwnW W.heap.size wr v ([before, s, r, root, (n : Int)] ++ bs.take j) ∧ Below W.heap.size W wr) (fun _ i _ => n - (intOf i).toNat)
  case atStart => exact ⟨0, Nat.zero_le _, rfl, by rw [HWS.out]; simpa using own0, hl0⟩
  case round =>
    clear own0 hl0 c0 c1 c2 c3 c4
    obtain ⟨j, hj, rfl, hown, hbel⟩ := hrel
    have hsz := hbel.size
    have c1 := KC.out _ hbel
    by_cases hlt : j < n
    · obtain ⟨b1, o1, y, rfl, _, c5, HX⟩ := l'.at1b hbel (Nat.le_refl _) hlt
      have hy := HBS.out j hlt
      rw [HX.out] at hy
      obtain ⟨y0, y1⟩ := hy
      have hl2 : ([before, s, r, root, (n : Int)] ++ bs.take j).length = 5 + j := by simp; omega
      have al1 := hown.below (low_alloc wr (.cells #[.int .u64 y] 22))
      have bl1 := hbel.alloc hbel.size (.cells #[.int .u64 y] 22)
      have cn := cell_new wr (.int .u64 y) 22
      have HH : Hid (wr.heap.size + 1 = (wr.alloc (.cells #[.int .u64 y] 22)).heap.size) := by show _ = _; simp
      go_wp2_with (at_builtin; refine wpList_append_word (by rfl) _ _ (by rfl) W.heap.size _ ([before, s, r, root, (n : Int)] ++ bs.take j) y wr.heap.size W (by rfl) (by rfl) (by exact al1) (by exact cn) (by rw [hl2]; omega) (by exact bl1.size) (by exact bl1) ?_; intro v1 w2 hown1 hbel1)
      go_roundw
      case rel => exact ⟨j + 1, by omega, by go_num, hown1.congr (by rw [List.append_assoc, take_snocI (by omega) HX.out]), hbel1⟩
      case measure => simp [intOf]; omega
    · obtain rfl : j = n := by omega
      obtain ⟨av, cv, rfl, lw⟩ := hown.lst' (n := 5 + j) (by simp; omega)
      have hl3 : [before, s, r, root, (j : Int)] ++ bs.take j = chainL before s r root bs := by unfold chainL; rw [List.take_of_length_le (by omega), hlen]
      rw [hl3] at lw
      go_wp2_with fail
      refine (rof_calls 6 ⟨by omega, by omega⟩ _ _ _ _ _ lw HOK.out (by omega)).mono ?_
      rintro e w3 ⟨rfl, hw3⟩
      go_wp2_with fail
      go_ret
      exact ⟨rfl, hal.trans ((hbel.trans (hw3.mono hbel.size)).mono hal.size)⟩
end Go.Proofs.YtnlcheebdkjpbabGreat.Fx

/- An append of a whole list of integers, which may be empty, to one that the program itself makes. -/
namespace Go.Proofs.YtnlcheebdkjpbabGreat.Fx
open Go.RowKit

section
variable {w' W0 : World} {ops : Array Oper} {o : Oper} {a : Act} {Q : Exit → Act → World → Prop}
theorem run_append_zero (w' : World) (ty : TypeId) (base src : Option Addr) (l c d : Nat) (hle : l ≤ c) : (Builtin.append_ #[26, 26] ty #[.slice base l c, .slice src 0 d]).run Tryz.prog w' = .ok (.slice base l c) w' := by
  obtain ⟨i0, hi, _⟩ := info_parts info3
  cases base <;> cases src <;> simp [Builtin.append_, run_underlying Tryz.underlying26, sizeOf, typeInfo, hi, Builtin.lenOf, Builtin.firstCells, hle, storeCells, loadCells, loadCellsFrom]
theorem run_append_any (ty : TypeId) (base : Nat) (v : Value) (xs zs : List Int) (src : Option Addr) (m c : Nat) (hown : OwnI base w' v xs) (hz : Lst w' src m c zs) (hn : (xs.length + m) * 8 ≤ 140737488355328) (hbase : base ≤ w'.heap.size) (hB : Below base W0 w') :
    ∃ v' w1, (Builtin.append_ #[26, 26] ty #[v, .slice src m c]).run Tryz.prog w' = .ok v' w1 ∧ OwnI base w1 v' (xs ++ zs) ∧ Below base W0 w1 := by
  by_cases h0 : m = 0
  · subst h0
    have hz0 : zs = [] := List.length_eq_zero_iff.1 hz.len
    subst hz0
    obtain ⟨av, cv, hv, lv⟩ := hown.lst
    refine ⟨v, w', ?_, by rw [List.append_nil]; exact hown, hB⟩
    rw [hv]
    exact run_append_zero w' ty av src xs.length cv c lv.cap
  · obtain ⟨b, off, rfl, _, _⟩ := hz.at (by omega)
    exact run_append_all ty base v xs zs b off m c hown hz hn hbase hB

theorem step_append_any {K : Act → World → Prop} {E : Prop} (hgd : o.guard = none) (s x : Operand) (ho : o.op = .call { callee := .builtin .append, args := #[s, x], argTypes := #[26, 26] })
    (base : Nat) (v : Value) (xs zs : List Int) (src : Option Addr) (m c : Nat) (W0 : World) (hs : a.eval s = v) (hx : a.eval x = .slice src m c) (hown : OwnI base w' v xs) (hz : Lst w' src m c zs) (hn : (xs.length + m) * 8 ≤ 140737488355328) (hbase : base ≤ w'.heap.size) (hB : Below base W0 w')
    (h : ∀ v' w1, OwnI base w1 v' (xs ++ zs) → Below base W0 w1 → K (a.put o.dst v') w1) :
    if Region.wanted o (yielded ops a.tmps) = true then Oper.wp Tryz.prog o a w' K Q else E := by
  obtain ⟨v', w1, hrun, h1, h2⟩ := run_append_any o.type base v xs zs src m c hown hz hn hbase hB
  have hw : Region.wanted o (yielded ops a.tmps) = true := by simp [Region.wanted, hgd]
  rw [if_pos hw]
  unfold Oper.wp
  simp [execOp, ho, resolve, invoke, builtin, hs, hx, hrun, Result.andThen]
  exact h v' w1 h1 h2
theorem wpList_append_any {rest : List Oper} (hgd : o.guard = none) (s x : Operand) (ho : o.op = .call { callee := .builtin .append, args := #[s, x], argTypes := #[26, 26] })
    (base : Nat) (v : Value) (xs zs : List Int) (src : Option Addr) (m c : Nat) (W0 : World) (hs : a.eval s = v) (hx : a.eval x = .slice src m c) (hown : OwnI base w' v xs) (hz : Lst w' src m c zs) (hn : (xs.length + m) * 8 ≤ 140737488355328) (hbase : base ≤ w'.heap.size) (hB : Below base W0 w')
    (h : ∀ v' w1, OwnI base w1 v' (xs ++ zs) → Below base W0 w1 → wpList Tryz.prog ops Q rest (a.put o.dst v') w1) : wpList Tryz.prog ops Q (o :: rest) a w' := by
  obtain ⟨v', w1, hrun, h1, h2⟩ := run_append_any o.type base v xs zs src m c hown hz hn hbase hB
  refine wpList_plain hgd fun K hK => ?_
  unfold Oper.wp
  simp [execOp, ho, resolve, invoke, builtin, hs, hx, hrun, Result.andThen]
  exact hK _ _ (h v' w1 h1 h2)
end
end Go.Proofs.YtnlcheebdkjpbabGreat.Fx

/- An append of a whole list of integers, which may be empty, to one that the program itself makes. -/
namespace Go.Proofs.YtnlcheebdkjpbabGreat.Fx
open Go.RowKit

set_option maxRecDepth 100000 in
set_option maxHeartbeats 1600000 in
theorem rroot_any (a1 : Option Addr) (n1 k1 : Nat) (ws : List Int) (a2 : Option Addr) (n2 k2 : Nat) (ms : List Int) (w : World) (l1 : Lst w a1 n1 k1 ws) (l2 : Lst w a2 n2 k2 ms) (h1 : 1 ≤ n1 + n2) (h3 : n1 + n2 ≤ 200) :
    Calls Tryz.prog 21 #[.agg #[.slice a1 n1 k1, .slice a2 n2 k2]] w fun e w' => e = .returned (.int .u64 (rootP ws ms (n1 + n2))) ∧ Below w.heap.size w w' := by
  have hal := low_alloc w (.cells #[.slice a1 n1 k1, .slice a2 n2 k2] 28)
  obtain ⟨W, HW⟩ : ∃ q, Hid (q = w.alloc (.cells #[.slice a1 n1 k1, .slice a2 n2 k2] 28)) := ⟨_, rfl⟩
  have hW : Below w.heap.size w W := by rw [HW.out]; exact hal
  have m1 := l1.below hW (Nat.le_refl _)
  have m2 := l2.below hW (Nat.le_refl _)
  have hrow : W.rowIs w.heap.size 28 2 (fn2 (.slice a1 n1 k1) (.slice a2 n2 k2)) := by rw [HW.out]; exact fn2_alloc _ _ _ _
  have hWs : w.heap.size < W.heap.size := hrow.lt
  have S0 : W.drew.cell? ⟨w.heap.size, 0, none⟩ = some (.slice a1 n1 k1) ∧ W.drew.cell? ⟨w.heap.size, 1, none⟩ = some (.slice a2 n2 k2) := fn2_cells hrow
  have s0 := S0.1
  have s1 := S0.2
  have t0 : W.cell? ⟨w.heap.size, 0, none⟩ = some (.slice a1 n1 k1) := (fn2_cells hrow).1
  have t1 : W.cell? ⟨w.heap.size, 1, none⟩ = some (.slice a2 n2 k2) := (fn2_cells hrow).2
  have hl1 := l1.len
  have hl2 := l2.len
  have hBd : Below W.heap.size W W.drew := below_drewN (Below.refl _ _) 1
  have KS : Hid (∀ q, Below W.heap.size W q → q.cell? ⟨w.heap.size, 0, none⟩ = some (.slice a1 n1 k1) ∧ q.cell? ⟨w.heap.size, 1, none⟩ = some (.slice a2 n2 k2)) := fun q hq => fn2_cells (hrow.of_block (hq.block _ hWs))
  unfold rootP
  clear l1 l2 hal
  go_enter Tryz.func21, Tryz.ntmps21
  go_wp2_with fail
  rw [← HW.out]
  clear HW
  go_region_held3 (fun q => q.cell? ⟨w.heap.size, 0, none⟩ = some (.slice a1 n1 k1) ∧ q.cell? ⟨w.heap.size, 1, none⟩ = some (.slice a2 n2 k2)) (first | with_reducible exact S5 | with_reducible exact S4 | with_reducible exact S3 | with_reducible exact S0)
    (first | (refine step_append_any (by rfl) _ _ (by rfl) W.heap.size _ [] ws a1 n1 k1 W (by rfl) (by rfl) (by exact OwnI.nil _ _) (by exact m1.drew) (by simp; omega) (by simp) (by exact hBd) ?_; intro v3 w3 hown3 hbel3; have S3 := KS.out _ hbel3) | (refine step_append_any (by rfl) _ _ (by rfl) W.heap.size _ ([] ++ ws) ms a2 n2 k2 W (by rfl) (by rfl) (by exact hown3) (by exact m2.below hbel3 (Nat.le_refl _)) (by simp; omega) (by exact hbel3.size) (by exact hbel3) ?_; intro v4 w4 hown4 hbel4; have S4 := KS.out _ hbel4; obtain ⟨va, vc, hv4, l4⟩ := hown4.lst' (n := n1 + n2) (by simp; omega); subst hv4) | (go_at_call 46; refine (rRoot_calls va (n1 + n2) vc (ws ++ ms) _ (by simpa using l4) (by omega) h3).mono ?_; rintro e w5 ⟨rfl, hw5⟩; have S5 := KS.out _ (hbel4.trans (hw5.mono hbel4.size))))
  all_goals
    go_wp2
    go_ret
    exact ⟨rfl, hW.trans ((hbel4.trans (hw5.mono hbel4.size)).mono hW.size)⟩
end Go.Proofs.YtnlcheebdkjpbabGreat.Fx
