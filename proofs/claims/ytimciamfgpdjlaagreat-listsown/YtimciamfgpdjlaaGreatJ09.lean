/- An append of a whole list of integers to one that the program itself makes; and what slices.Clone returns. -/
import Derived.Test.YtimciamfgpdjlaaGreatJ08
import Derived.Lib.SliceRun
import Derived.Test.YtimciamfgpdjlaaGreatJ03
import Derived.Deep.DeepCutAuto
import Derived.Deep.CutBlock
import Derived.Test.YtimciamfgpdjlaaGreatJ04
import Derived.Test.YtimciamfgpdjlaaGreatJ02
import Derived.Test.YtimciamfgpdjlaaGreatJ05
import Derived.Test.YtimciamfgpdjlaaGreatJ06
import Derived.RegionTactic
import Derived.BigRegion
namespace Go.Proofs.YtimciamfgpdjlaaGreat.Fx
open Go.RowKit

section
variable {w' W0 : World} {ops : Array Oper} {o : Oper} {a : Act} {Q : Exit → Act → World → Prop}

theorem run_append_all (ty : TypeId) (base : Nat) (v : Value) (xs zs : List Int) (b off m c : Nat) (hown : OwnI base w' v xs) (hz : Lst w' (some ⟨b, off, none⟩) m c zs) (hn : (xs.length + m) * 8 ≤ 140737488355328) (hbase : base ≤ w'.heap.size) (hB : Below base W0 w') :
    ∃ v' w1, (Builtin.append_ #[26, 26] ty #[v, .slice (some ⟨b, off, none⟩) m c]).run Tryz.prog w' = .ok v' w1 ∧ OwnI base w1 v' (xs ++ zs) ∧ Below base W0 w1 := by
  obtain ⟨i0, hi, hz0, hz1, hz2⟩ := info_parts info3
  have hzl := hz.len
  obtain ⟨v', w1, hrun, h1, h2, _, _⟩ := run_append_own_at (P := Tryz.prog) w' base 26 ty 3 i0 (.int .i64 0) 1 8 Tryz.underlying26 hi hz0 hz1 hz2 rfl (by decide) v xs.length _ hown ⟨b, off, none⟩ m c (zs.map (Value.int .i64)) (by simp [hzl])
    (by intro j u hj
        have hjm : j < m := by
          have := (List.getElem?_eq_some_iff.1 hj).1
          simpa [hzl] using this
        obtain ⟨b1, o1, e, _, hc⟩ := hz.at (by omega)
        simp only [Option.some.injEq, Addr.mk.injEq, and_true] at e
        obtain ⟨rfl, rfl⟩ := e
        rw [getD_map_int zs j (by omega)] at hj
        rw [Go.WideShapes.add_plain, hc j hjm]
        exact hj)
    (by intro u hu; obtain ⟨x, _, rfl⟩ := List.mem_map.1 hu; rfl) (by unfold maxLen; omega) hn hbase
  refine ⟨v', w1, hrun, by unfold OwnI; rw [List.length_append, List.map_append, hzl]; exact h1, hB.grown h2 hbase ?_⟩
  intro k hk
  rcases hown.2 with ⟨rfl, _⟩ | ⟨g', cap, cur, rfl, hg, _⟩
  · simp [Value.ownBlock] at hk
  · simp [Value.ownBlock] at hk; omega

theorem wpList_append_all {rest : List Oper} (hgd : o.guard = none) (s x : Operand) (ho : o.op = .call { callee := .builtin .append, args := #[s, x], argTypes := #[26, 26] })
    (base : Nat) (v : Value) (xs zs : List Int) (b off m c : Nat) (W0 : World) (hs : a.eval s = v) (hx : a.eval x = .slice (some ⟨b, off, none⟩) m c) (hown : OwnI base w' v xs) (hz : Lst w' (some ⟨b, off, none⟩) m c zs) (hn : (xs.length + m) * 8 ≤ 140737488355328) (hbase : base ≤ w'.heap.size) (hB : Below base W0 w')
    (h : ∀ v' w1, OwnI base w1 v' (xs ++ zs) → Below base W0 w1 → wpList Tryz.prog ops Q rest (a.put o.dst v') w1) : wpList Tryz.prog ops Q (o :: rest) a w' := by
  obtain ⟨v', w1, hrun, h1, h2⟩ := run_append_all o.type base v xs zs b off m c hown hz hn hbase hB
  refine wpList_plain hgd fun K hK => ?_
  unfold Oper.wp
  simp [execOp, ho, resolve, invoke, builtin, hs, hx, hrun, Result.andThen]
  exact hK _ _ (h v' w1 h1 h2)
end

theorem OwnI.empty (w : World) : OwnI w.heap.size (w.alloc (.cells #[] 3)) (.slice (some ⟨w.heap.size, 0, none⟩) 0 0) [] :=
  ⟨rfl, .inr ⟨w.heap.size, 0, #[], rfl, Nat.le_refl _, Go.Deep.blk_alloc_new _ _, Nat.le_refl _, Nat.zero_le _, rfl, rfl⟩⟩

set_option maxRecDepth 100000 in
theorem clone_calls (b off n c : Nat) (f : Nat → Int) (w : World) (h : Lst w (some ⟨b, off, none⟩) n c ((List.range n).map f)) (h1 : 1 ≤ n) (h2 : n ≤ 16) :
    Calls Tryz.prog 27 #[.slice (some ⟨b, off, none⟩) n c] w fun e w' => ∃ b' c', e = .returned (.slice (some ⟨b', 0, none⟩) n c') ∧ w.heap.size ≤ b' ∧ Arr w' b' c' n f ∧ Below w.heap.size w w' := by
  have hb := (Below.refl w.heap.size w).alloc (Nat.le_refl _) (.cells #[] 3)
  have hl := h.below hb (Nat.le_refl _)
  have q22 : ∀ (w : World) (a : Option Addr) (n c n' c' : Nat), (binOp .eql 26 (.slice a n c) (.slice none n' c')).run Tryz.prog w = .ok (.bool a.isNone) w := fun w a n c n' c' => Lib.run_eql_slice_nil w _ _ a n c n' c' Tryz.underlying26
  go_enter Tryz.func27, Tryz.ntmps27
  go_wp2_with (at_builtin; refine wpList_append_all (by rfl) _ _ (by rfl) w.heap.size _ [] ((List.range n).map f) b off n c w (by rfl) (by rfl) (by exact OwnI.empty w) (by exact hl) (by simp; omega) (by simp) (by exact hb) ?_; intro v1 w1 hown1 hbel1)
  obtain ⟨b', c', rfl, hb', hA⟩ := OwnI.arr hown1 h1
  go_wp2
  go_ret
  exact ⟨_, _, rfl, hb', hA, hbel1⟩

end Go.Proofs.YtimciamfgpdjlaaGreat.Fx

/- An append of a whole list of integers, which may be empty, to one that the program itself makes. -/
namespace Go.Proofs.YtimciamfgpdjlaaGreat.Fx
open Go.RowKit

section
variable {w' W0 : World} {ops : Array Oper} {o : Oper} {a : Act} {Q : Exit → Act → World → Prop}
theorem run_append_zero (w' : World) (ty : TypeId) (base src : Option Addr) (l c d : Nat) (hle : l ≤ c) : (Builtin.append_ #[26, 26] ty #[.slice base l c, .slice src 0 d]).run Tryz.prog w' = .ok (.slice base l c) w' := by
  obtain ⟨i0, hi, _⟩ := info_parts info3
  cases base <;> cases src <;> simp [Builtin.append_, run_underlying Tryz.underlying26, sizeOf, typeInfo, hi, Builtin.lenOf, Builtin.firstCells, hle, storeCells, loadCells, loadCellsFrom]
theorem run_append_any (ty : TypeId) (base : Nat) (v : Value) (xs zs : List Int) (src : Option Addr) (m c : Nat) (hown : OwnI base w' v xs) (hz : Lst w' src m c zs) (hn : (xs.length + m) * 8 ≤ 140737488355328) (hbase : base ≤ w'.heap.size) (hB : Below base W0 w') :
    ∃ v' w1, (Builtin.append_ #[26, 26] ty #[v, .slice src m c]).run Tryz.prog w' = .ok v' w1 ∧ OwnI base w1 v' (xs ++ zs) ∧ Below base W0 w1 := by
  by_cases h0 : m = 0
  · subst h0
    have hz0 : zs = [] := List.length_eq_zero_iff.1 hz.len
    subst hz0
    obtain ⟨av, cv, hv, lv⟩ := hown.lst
    refine ⟨v, w', ?_, by rw [List.append_nil]; exact hown, hB⟩
    rw [hv]
    exact run_append_zero w' ty av src xs.length cv c lv.cap
  · obtain ⟨b, off, rfl, _, _⟩ := hz.at (by omega)
    exact run_append_all ty base v xs zs b off m c hown hz hn hbase hB

theorem step_append_any {K : Act → World → Prop} {E : Prop} (hgd : o.guard = none) (s x : Operand) (ho : o.op = .call { callee := .builtin .append, args := #[s, x], argTypes := #[26, 26] })
    (base : Nat) (v : Value) (xs zs : List Int) (src : Option Addr) (m c : Nat) (W0 : World) (hs : a.eval s = v) (hx : a.eval x = .slice src m c) (hown : OwnI base w' v xs) (hz : Lst w' src m c zs) (hn : (xs.length + m) * 8 ≤ 140737488355328) (hbase : base ≤ w'.heap.size) (hB : Below base W0 w')
    (h : ∀ v' w1, OwnI base w1 v' (xs ++ zs) → Below base W0 w1 → K (a.put o.dst v') w1) :
    if Region.wanted o (yielded ops a.tmps) = true then Oper.wp Tryz.prog o a w' K Q else E := by
  obtain ⟨v', w1, hrun, h1, h2⟩ := run_append_any o.type base v xs zs src m c hown hz hn hbase hB
  have hw : Region.wanted o (yielded ops a.tmps) = true := by simp [Region.wanted, hgd]
  rw [if_pos hw]
  unfold Oper.wp
  simp [execOp, ho, resolve, invoke, builtin, hs, hx, hrun, Result.andThen]
  exact h v' w1 h1 h2
theorem wpList_append_any {rest : List Oper} (hgd : o.guard = none) (s x : Operand) (ho : o.op = .call { callee := .builtin .append, args := #[s, x], argTypes := #[26, 26] })
    (base : Nat) (v : Value) (xs zs : List Int) (src : Option Addr) (m c : Nat) (W0 : World) (hs : a.eval s = v) (hx : a.eval x = .slice src m c) (hown : OwnI base w' v xs) (hz : Lst w' src m c zs) (hn : (xs.length + m) * 8 ≤ 140737488355328) (hbase : base ≤ w'.heap.size) (hB : Below base W0 w')
    (h : ∀ v' w1, OwnI base w1 v' (xs ++ zs) → Below base W0 w1 → wpList Tryz.prog ops Q rest (a.put o.dst v') w1) : wpList Tryz.prog ops Q (o :: rest) a w' := by
  obtain ⟨v', w1, hrun, h1, h2⟩ := run_append_any o.type base v xs zs src m c hown hz hn hbase hB
  refine wpList_plain hgd fun K hK => ?_
  unfold Oper.wp
  simp [execOp, ho, resolve, invoke, builtin, hs, hx, hrun, Result.andThen]
  exact hK _ _ (h v' w1 h1 h2)
end
end Go.Proofs.YtimciamfgpdjlaaGreat.Fx

/- What slices.Grow (of nil) and slices.Concat return, of lists that may be empty. -/
namespace Go.Proofs.YtimciamfgpdjlaaGreat.Fx
open Go.RowKit

theorem grow_any (n : Nat) (w : World) (h1 : n ≤ 1000) :
    Calls Tryz.prog 127 #[.slice none 0 0, .int .i64 n] w fun e w' => ∃ v, e = .returned v ∧ OwnI w.heap.size w' v [] ∧ Below w.heap.size w w' := by
  by_cases h0 : 0 < n
  · exact grow_calls n w h0 h1
  · have hz : ¬ (n : Int) > 0 := by omega
    have hz2 : ¬ (n : Int) < 0 := by omega
    have hz3 : ¬ 0 < n := h0
    go_enter Tryz.func127, Tryz.ntmps127
    go_wp2
    go_ret
    exact ⟨_, rfl, OwnI.nil _ _, Below.refl _ _⟩

set_option maxHeartbeats 1600000 in
theorem concat_any (n : Nat) (A : Nat → Option Addr) (L C : Nat → Nat) (X : Nat → List Int) (b : Nat) (w : World) (hb : b < w.heap.size) (hn0 : 0 < n) (hn : n ≤ 1000) (hc : ∀ i, i < n → w.cell? ⟨b, i, none⟩ = some (.slice (A i) (L i) (C i)))
    (hl : ∀ i, i < n → Lst w (A i) (L i) (C i) (X i)) (hs : lenTo L n ≤ 1000) :
    Calls Tryz.prog 69 #[.slice (some ⟨b, 0, none⟩) n n] w fun e w' => ∃ v, e = .returned v ∧ OwnI w.heap.size w' v (catTo X n) ∧ Below w.heap.size w w' := by
  have HC : Hid (∀ i, i < n → w.cell? ⟨b, i, none⟩ = some (.slice (A i) (L i) (C i))) := hc
  have HL : Hid (∀ i, i < n → Lst w (A i) (L i) (C i) (X i)) := hl
  clear hc hl
  go_enter Tryz.func69, Tryz.ntmps69
  go_wp2
  go_loopw [3, 11] (fun s i wr => ∃ k : Nat, k ≤ n ∧ i = .int .i64 k ∧ s = .int .i64 (lenTo L k) ∧ wr = w) (fun _ i _ => n - (intOf i).toNat)
  case atStart => exact ⟨0, Nat.zero_le _, rfl, rfl, rfl⟩
  case round =>
    obtain ⟨k, hk, rfl, rfl, hw⟩ := hrel
    replace hw := hw.symm
    subst hw
    by_cases hlt : k < n
    · have c := HC.out k hlt
      have b1 := lenTo_le L (k := k + 1) (n := n) (by omega)
      have b2 : lenTo L (k + 1) = lenTo L k + L k := rfl
      obtain ⟨l, hl⟩ : ∃ l, Hid (L k = l) := ⟨_, rfl⟩
      obtain ⟨T, hT⟩ : ∃ T, Hid (lenTo L k = T) := ⟨_, rfl⟩
      rw [hl.out] at c b2
      rw [hT.out] at b2
      have b3 : T + l ≤ 1000 := by omega
      rw [hT.out]
      clear b1 b2
      go_wp2
      go_roundw
      case rel => exact ⟨k + 1, by omega, by go_num, by rw [lenTo, hT.out, hl.out]; go_num, by trivial⟩
      case measure => simp [intOf]; omega
    · obtain rfl : k = n := by omega
      obtain ⟨T, hT⟩ : ∃ T, Hid (lenTo L k = T) := ⟨_, rfl⟩
      have HS : Hid (lenTo L k ≤ 1000) := hs
      rw [hT.out] at hs ⊢
      go_wp2_with fail
      refine (grow_any T _ hs).mono ?_
      rintro e w1 ⟨v0, rfl, hown, hw1⟩
      go_wp2
      go_loopw [6, 27] (fun v i wr => ∃ j : Nat, j ≤ k ∧ i = .int .i64 j ∧ OwnI w.heap.size wr v (catTo X j) ∧ Below w.heap.size w wr) (fun _ i _ => k - (intOf i).toNat)
      case atStart => exact ⟨0, Nat.zero_le _, rfl, hown, hw1⟩
      case round =>
        obtain ⟨j, hj, rfl, hown, hbel⟩ := hrel
        have hsz := hbel.size
        by_cases hlt2 : j < k
        · have c := (hbel.cell (p := ⟨b, j, none⟩) (by exact hb)).trans (HC.out j hlt2)
          have hx := (HL.out j hlt2).below hbel (Nat.le_refl _)
          have hlen : (catTo X j).length + L j ≤ 1000 := by
            rw [catTo_len X L j (fun i hi => (HL.out i (by omega)).len)]
            have b1 := lenTo_le L (k := j + 1) (n := k) (by omega)
            have b2 : lenTo L (j + 1) = lenTo L j + L j := rfl
            have := HS.out
            omega
          obtain ⟨l, hl⟩ : ∃ l, Hid (L j = l) := ⟨_, rfl⟩
          rw [hl.out] at c hx hlen
          go_wp2_with (at_builtin; refine wpList_append_any (by rfl) _ _ (by rfl) w.heap.size _ (catTo X j) (X j) (A j) l (C j) w (by rfl) (by rfl) (by exact hown) (by exact hx) (by omega) (by exact hsz) (by exact hbel) ?_; intro v1 w3 hown1 hbel1)
          go_roundw
          case rel => exact ⟨j + 1, by omega, by go_num, hown1, hbel1⟩
          case measure => simp [intOf]; omega
        · obtain rfl : j = k := by omega
          go_wp2
          go_ret
          exact ⟨_, rfl, hown, hbel⟩

def two {α : Type} (x0 x1 : α) (i : Nat) : α := if i = 0 then x0 else x1
theorem lt_two {i : Nat} (h : i < 2) : i = 0 ∨ i = 1 := by omega

theorem concat2 (a0 a1 : Option Addr) (l0 l1 c0 c1 : Nat) (x0 x1 : List Int) (g : Nat) (w : World) (hg : g = w.heap.size) (h0 : Lst w a0 l0 c0 x0) (h1 : Lst w a1 l1 c1 x1) (hs : l0 + l1 ≤ 1000) :
    Calls Tryz.prog 69 #[.slice (some ⟨g, 0, none⟩) 2 2] (w.alloc (.cells #[.slice a0 l0 c0, .slice a1 l1 c1] 26)) fun e w' => ∃ a c, e = .returned (.slice a (l0 + l1) c) ∧ Lst w' a (l0 + l1) c (x0 ++ x1) ∧ Below w.heap.size w w' := by
  subst hg
  have hal := (Below.refl w.heap.size w).alloc (Nat.le_refl _) (.cells #[.slice a0 l0 c0, .slice a1 l1 c1] 26)
  have hr := World.rowIs_alloc w #[.slice a0 l0 c0, .slice a1 l1 c1] 26 (fun i => .slice (two a0 a1 i) (two l0 l1 i) (two c0 c1 i)) (by
    intro i hi
    rcases lt_two hi with rfl | rfl <;> rfl)
  refine (concat_any 2 (two a0 a1) (two l0 l1) (two c0 c1) (two x0 x1) w.heap.size _ (by simp) (by omega) (by omega) (fun i hi => hr.cell hi) ?_ ?_).mono ?_
  · intro i hi
    rcases lt_two hi with rfl | rfl
    · exact h0.below hal (Nat.le_refl _)
    · exact h1.below hal (Nat.le_refl _)
  · show 0 + l0 + l1 ≤ 1000
    omega
  · rintro e w' ⟨v, rfl, hown, hb⟩
    have e1 : catTo (two x0 x1) 2 = x0 ++ x1 := by
      show ([] ++ x0) ++ x1 = _
      simp
    rw [e1] at hown
    have e2 : (x0 ++ x1).length = l0 + l1 := by rw [List.length_append, h0.len, h1.len]
    obtain ⟨a, c, rfl, hl⟩ := hown.lst
    rw [e2] at hl ⊢
    exact ⟨a, c, rfl, hl, hal.trans (hb.mono hal.size)⟩
end Go.Proofs.YtimciamfgpdjlaaGreat.Fx

/- What slices.Clone returns of whatever list of integers, nil and the empty one too. -/
namespace Go.Proofs.YtimciamfgpdjlaaGreat.Fx
open Go.RowKit

set_option maxRecDepth 100000 in
theorem cloneI_any (a : Option Addr) (n c : Nat) (xs : List Int) (w : World) (h : Lst w a n c xs) (hn : n ≤ 1048576) :
    Calls Tryz.prog 27 #[.slice a n c] w fun e w' => ∃ v, e = .returned v ∧ OwnI w.heap.size w' v xs ∧ Below w.heap.size w w' := by
  have q22 : ∀ (w : World) (a : Option Addr) (n c n' c' : Nat), (binOp .eql 26 (.slice a n c) (.slice none n' c')).run Tryz.prog w = .ok (.bool a.isNone) w := fun w a n c n' c' => Lib.run_eql_slice_nil w _ _ a n c n' c' Tryz.underlying26
  have hlen := h.len
  cases a with
  | none =>
    have h0 : xs = [] := by
      rcases h.2.2 with h0 | ⟨b, off, e, _⟩
      · exact List.length_eq_zero_iff.1 (by omega)
      · cases e
    subst h0
    clear h
    go_enter Tryz.func27, Tryz.ntmps27
    go_wp2_with fail
    go_ret
    exact ⟨_, rfl, OwnI.nil _ _, Below.refl _ _⟩
  | some ad =>
    have hb := (Below.refl w.heap.size w).alloc (Nat.le_refl _) (.cells #[] 3)
    have hl := h.below hb (Nat.le_refl _)
    clear h
    go_enter Tryz.func27, Tryz.ntmps27
    go_wp2_with (at_builtin; refine wpList_append_any (by rfl) _ _ (by rfl) w.heap.size _ [] xs (some ad) n c w (by rfl) (by rfl) (by exact OwnI.empty w) (by exact hl) (by simp; omega) (by simp) (by exact hb) ?_; intro v1 w1 hown1 hbel1)
    have hown2 : OwnI w.heap.size w1 v1 xs := by simpa using hown1
    clear hown1
    go_ret
    exact ⟨_, rfl, hown2, hbel1⟩
end Go.Proofs.YtimciamfgpdjlaaGreat.Fx

/- What spot.Chunk returns, whatever is handed in: what it tells lies in blocks of its own. -/
namespace Go.Proofs.YtimciamfgpdjlaaGreat.Fx
open Go.RowKit

theorem OwnI.mono {base base' : Nat} {w : World} {v : Value} {xs : List Int} (h : OwnI base w v xs) (hb : base' ≤ base) : OwnI base' w v xs :=
  ⟨h.1, h.2.imp id fun ⟨g, cap, cur, h1, h2, h3⟩ => ⟨g, cap, cur, h1, Nat.le_trans hb h2, h3⟩⟩

set_option maxRecDepth 100000 in
set_option maxHeartbeats 800000 in
theorem chunk_own (a1 : Option Addr) (n1 k1 : Nat) (ws : List Int) (a2 : Option Addr) (n2 k2 : Nat) (ms : List Int) (i : Int) (w : World) (l1 : Lst w a1 n1 k1 ws) (l2 : Lst w a2 n2 k2 ms) (hz : n1 + n2 ≤ 4611686018427387904) :
    Calls Tryz.prog 23 #[.agg #[.slice a1 n1 k1, .slice a2 n2 k2], .int .i64 i] w fun e w' => ∃ v b2 m2 d2, e = .returned (.tuple #[v, .slice b2 m2 d2, .int .i64 (errP i (n1 + n2))]) ∧ m2 ≤ 50 ∧ OwnI w.heap.size w' v (ckP (ws ++ ms) (n1 + n2) i) ∧ LstW w' b2 m2 d2 (wayL (ws ++ ms) (n1 + n2) i) ∧ Below w.heap.size w w' := by
  have hal := low_alloc w (.cells #[.slice a1 n1 k1, .slice a2 n2 k2] 28)
  obtain ⟨c0, c1⟩ := two_cells w (.slice a1 n1 k1) (.slice a2 n2 k2) 28
  have l1' := l1.below hal (Nat.le_refl _)
  have l2' := l2.below hal (Nat.le_refl _)
  have hlen : (ws ++ ms).length = n1 + n2 := by rw [List.length_append, l1.len, l2.len]
  by_cases h : 200 < n1 + n2
  · have hE : errP i (n1 + n2) = 2 := by unfold errP errL; rw [if_pos (.inr h), if_neg (by omega), if_pos h]
    have hC : ckP (ws ++ ms) (n1 + n2) i = [] := by unfold ckP; rw [hE, if_neg (by decide)]
    have hW : wayL (ws ++ ms) (n1 + n2) i = [] := by unfold wayL; rw [if_neg (fun g => g.1 (.inr h))]
    rw [hE, hC, hW]
    have h1 : (n1 : Int) + (n2 : Int) > 200 := by omega
    clear l1 l2 l1' l2' hE hC hW hlen
    go_enter Tryz.func23, Tryz.ntmps23
    go_wp2_with fail
    go_ret3
    exact ⟨_, none, 0, 0, rfl, by omega, OwnI.nil _ _, LstW.nil _ _ _, hal⟩
  · have h1 : ¬ (n1 : Int) + (n2 : Int) > 200 := by omega
    have hsz := hal.size
    obtain ⟨W, HW⟩ : ∃ q, Hid (q = w.alloc (.cells #[.slice a1 n1 k1, .slice a2 n2 k2] 28)) := ⟨_, rfl⟩
    rw [← HW.out] at hal c0 c1 l1' l2' hsz
    have CC : Hid (Calls Tryz.prog 69 #[.slice (some ⟨W.heap.size, 0, none⟩) 2 2] (W.alloc (.cells #[.slice a1 n1 k1, .slice a2 n2 k2] 26)) fun e w' => ∃ a c, e = .returned (.slice a (n1 + n2) c) ∧ Lst w' a (n1 + n2) c (ws ++ ms) ∧ Below W.heap.size W w') := concat2 a1 a2 n1 n2 k1 k2 ws ms _ _ rfl l1' l2' (by omega)
    clear l1 l2 l1' l2'
    generalize ws ++ ms = L at *
    by_cases hE : errP i (n1 + n2) = 0
    rotate_left
    · have hne : (errP i (n1 + n2) != 0) = true := by rw [bne_iff_ne]; exact hE
      have hC : ckP L (n1 + n2) i = [] := by unfold ckP; rw [if_neg hE]
      have hW : wayL L (n1 + n2) i = [] := by
        unfold wayL
        rw [if_neg]
        intro g
        apply hE
        unfold errP
        rw [if_neg g.1, if_pos g.2]
      have HPA : Hid (∀ a c q, Lst q a (n1 + n2) c L → Calls Tryz.prog 70 #[.slice a (n1 + n2 : Nat) c, .int .i64 i] q fun e w' => ∃ a' N c', e = .returned (.tuple #[.slice a' N c', .int .i64 (errP i (n1 + n2))]) ∧ Below q.heap.size q w') := fun a c q hl => by
        refine (Path_calls a (n1 + n2) c L i q hl).mono ?_
        rintro e w' ⟨a', N, c', he, _, _, hb⟩
        exact ⟨a', N, c', he, hb⟩
      rw [hC, hW]
      clear hC hW hE
      generalize errP i (n1 + n2) = E at *
      go_enter Tryz.func23, Tryz.ntmps23
      go_upto_region 1 with fail
      rw [← HW.out]
      clear HW
      go_wp2_with fail
      refine CC.out.mono ?_
      rintro e w1 ⟨a, c, rfl, hl, hw1⟩
      have PA := HPA.out a c w1 hl
      have hbw1 := hal.trans (hw1.mono hal.size)
      clear c0 c1 CC HPA
      go_wp2_with fail
      refine PA.mono ?_
      rintro e w2 ⟨a', m, c', rfl, hw2⟩
      go_wp2_with fail
      go_ret3
      exact ⟨_, none, 0, 0, rfl, by omega, OwnI.nil _ _, LstW.nil _ _ _, hbw1.trans (hw2.mono hbw1.size)⟩
    · obtain ⟨g1, g2, g3, g4⟩ : 1 ≤ n1 + n2 ∧ n1 + n2 ≤ 200 ∧ 0 ≤ i ∧ i < ((n1 + n2 + 3) / 4 : Nat) := by
        unfold errP at hE
        by_cases x1 : n1 + n2 = 0 ∨ 200 < n1 + n2
        · rw [if_pos x1] at hE
          unfold errL at hE
          rcases x1 with x1 | x1
          · rw [if_pos x1] at hE; cases hE
          · rw [if_neg (by omega), if_pos x1] at hE; cases hE
        · rw [if_neg x1] at hE
          by_cases x2 : 0 ≤ i ∧ i < ((n1 + n2 + 3) / 4 : Nat)
          · exact ⟨by omega, by omega, x2.1, x2.2⟩
          · rw [if_neg x2] at hE; cases hE
      have hC : ckP L (n1 + n2) i = partL L (n1 + n2) i.toNat := by unfold ckP; rw [if_pos hE]
      have HPA : Hid (∀ a c q, Lst q a (n1 + n2) c L → Calls Tryz.prog 70 #[.slice a (n1 + n2 : Nat) c, .int .i64 i] q fun e w' => ∃ a' N c', e = .returned (.tuple #[.slice a' N c', .int .i64 0]) ∧ N ≤ 50 ∧ LstW w' a' N c' (wayL L (n1 + n2) i) ∧ Below q.heap.size q w') := fun a c q hl => by
        have h := Path_calls a (n1 + n2) c L i q hl
        rw [hE] at h
        exact h
      rw [hE, hC]
      clear hC hE
      obtain ⟨k, hk⟩ := Int.eq_ofNat_of_zero_le g3
      subst hk
      have hT : (k : Int).toNat = k := rfl
      rw [hT]
      clear hT
      obtain ⟨hi, hhi⟩ : ∃ hi, hiN (n1 + n2) k = hi := ⟨_, rfl⟩
      have hh : k * 4 < hi ∧ hi ≤ n1 + n2 ∧ hi ≤ k * 4 + 4 := by unfold hiN at hhi; omega
      have HSB : Hid (∀ b off c q, Lst q (some ⟨b, off, none⟩) (n1 + n2) c L → Lst q (some ⟨b, off + k * 4, none⟩) (hi - k * 4) (c - k * 4) (partL L (n1 + n2) k)) := fun b off c q hl => by
        have h := hl.sub (by omega) (k * 4) hi (Nat.le_of_lt hh.1) hh.2.1
        unfold partL
        rw [hhi]
        exact h
      have SZ := fun q => size_calls ((n1 + n2 : Nat) : Int) k ⟨by omega, by omega⟩ ⟨by omega, by omega⟩ q
      have hmin : min 4 (((n1 + n2 : Nat) : Int) - 4 * (k : Int)) = ((hi - k * 4 : Nat) : Int) := by unfold hiN at hhi; omega
      rw [hmin] at SZ
      have HSZ : Hid (∀ q, Calls Tryz.prog 71 #[.int .i64 (n1 + n2 : Nat), .int .i64 k] q fun e w' => e = .returned (.int .i64 ((hi - k * 4 : Nat) : Int)) ∧ w' = q) := SZ
      generalize partL L (n1 + n2) k = PL at *
      generalize wayL L (n1 + n2) (k : Int) = WL at *
      obtain ⟨d, hd⟩ : ∃ d, hi - k * 4 = d := ⟨_, rfl⟩
      rw [hd] at HSB HSZ
      have hkd : k * 4 + d = hi := by omega
      have hk50 : (k : Int) ≤ 50 := by omega
      have hd4 : d ≤ 4 := by omega
      have x1 : (k : Int) * 4 ≤ (k : Int) * 4 + (d : Int) := by omega
      obtain ⟨N, HN⟩ : ∃ q, Hid (n1 + n2 = q) := ⟨_, rfl⟩
      rw [HN.out] at CC HPA HSB HSZ hh
      have hkN : k * 4 + d ≤ N := by omega
      have hN1 : 1 ≤ N := by have := HN.out; omega
      clear SZ hmin hhi HN hd
      go_enter Tryz.func23, Tryz.ntmps23
      go_upto_region 1 with fail
      rw [← HW.out]
      clear HW
      go_wp2_with fail
      refine CC.out.mono ?_
      rintro e w1 ⟨a, c, rfl, hl, hw1⟩
      have PA := HPA.out a c w1 hl
      have hbw1 := hal.trans (hw1.mono hal.size)
      clear c0 c1 CC HPA
      go_wp2_with fail
      refine PA.mono ?_
      rintro e w2 ⟨a', m, c', rfl, hm, lp, hw2⟩
      obtain ⟨b, off, rfl, _⟩ := hl.at (by omega)
      have hNc := hl.cap
      have SZ1 := HSZ.out w2
      have hsub := (HSB.out b off c w1 hl).below hw2 (Nat.le_refl _)
      have CL := cloneI_any _ _ _ _ w2 hsub (by omega)
      have y1 : (k : Int) * 4 + (d : Int) ≤ (c : Int) := by omega
      have y2 : (0 : Int) ≤ (k : Int) * 4 := by omega
      have hdd : k * 4 + d - k * 4 = d := by omega
      have hck : ¬ c = k * 4 := by omega
      have hck2 : ¬ c - k * 4 = 0 := by omega
      clear HSB HSZ hsub PA hkd hh
      go_wp2_with fail
      refine SZ1.mono ?_
      rintro e w3 ⟨rfl, hw3⟩
      replace hw3 := hw3.symm
      subst hw3
      go_wp2_with fail
      refine CL.mono ?_
      rintro e w4 ⟨v, rfl, hv, hw4⟩
      have hbw2 := hbw1.trans (hw2.mono hbw1.size)
      have hv2 : OwnI w.heap.size w4 v PL := hv.mono hbw2.size
      go_wp2_with fail
      go_ret3
      exact ⟨v, a', m, c', rfl, hm, hv2, lp.below hw4 (Nat.le_refl _), hbw2.trans (hw4.mono hbw2.size)⟩

theorem chunk_says : ChunkSays := by
  intro a1 n1 k1 ws a2 n2 k2 ms i w l1 l2 hz
  refine (chunk_own a1 n1 k1 ws a2 n2 k2 ms i w l1 l2 (by omega)).mono ?_
  rintro e w' ⟨v, b2, m2, d2, rfl, hm, hv, lp, hb⟩
  obtain ⟨b1, d1, rfl, l⟩ := hv.lst
  refine ⟨b1, _, d1, b2, m2, d2, rfl, ?_, by omega, l, lp, hb⟩
  unfold ckP
  split
  · unfold partL
    rw [List.length_take, hiN]
    omega
  · simp
end Go.Proofs.YtimciamfgpdjlaaGreat.Fx

/- Lists that packages pupil, optim, tree and spot tell, as blocks of their own. -/
namespace Go.Proofs.YtimciamfgpdjlaaGreat.Fx
open Go.RowKit

theorem ownW_mono {base b2 : Nat} {w : World} {v : Value} {xs : List Int} (h : OwnW base w v xs) (hb : b2 ≤ base) : OwnW b2 w v xs :=
  ⟨h.1, h.2.imp id fun ⟨g, cap, cur, h1, h2, h3⟩ => ⟨g, cap, cur, h1, Nat.le_trans hb h2, h3⟩⟩

set_option maxHeartbeats 1600000 in
theorem shape_own (I H O : Nat) (a : Option Addr) (len cap : Nat) (xs : List Int) (w : World) (ha : Lst w a len cap xs) (i1 : 1 ≤ I) (i2 : I ≤ 4) (j1 : 1 ≤ H) (j2 : H ≤ 4) (o1 : 1 ≤ O) (o2 : O ≤ 4) (hlen : len = H * I + H + O * H + O) (hx : rightB xs = true) :
    Calls Tryz.prog 31 #[.int .i64 I, .int .i64 H, .int .i64 O, .slice a len cap] w fun e w' => ∃ g1 g2 g3 g4 : Nat, e = .returned (.tuple #[(rpup I H O (some ⟨g1, 0, none⟩) (H * I) (some ⟨g2, 0, none⟩) (O * H) (some ⟨g3, 0, none⟩) H (some ⟨g4, 0, none⟩) O).val, .int .i64 0]) ∧ (w.heap.size ≤ g1 ∧ g1 < g3 ∧ g3 < g2 ∧ g2 < g4) ∧ (∃ f1 f2 f3 f4, Arr w' g1 (H * I) (H * I) f1 ∧ Arr w' g2 (O * H) (O * H) f2 ∧ Arr w' g3 H H f3 ∧ Arr w' g4 O O f4) ∧ InPup w' (rpup I H O (some ⟨g1, 0, none⟩) (H * I) (some ⟨g2, 0, none⟩) (O * H) (some ⟨g3, 0, none⟩) H (some ⟨g4, 0, none⟩) O) (cutD I H O xs) ∧ Below w.heap.size w w' := by
  have hal := (Below.refl w.heap.size w).alloc (Nat.le_refl _) (.cells #[.int .i64 0, .int .i64 0, .slice none 0 0, .int .i64 0, .int .i64 0, .slice none 0 0, .slice none 0 0, .slice none 0 0] 62)
  have ha0 := ha.below hal (Nat.le_refl _)
  have si : sideB (I : Int) = true := sideB_mk (by omega) (by omega)
  have sh : sideB (H : Int) = true := sideB_mk (by omega) (by omega)
  have so : sideB (O : Int) = true := sideB_mk (by omega) (by omega)
  have s1 := prod_sideN j2 i2
  have s2 := prod_sideN o2 j2
  have s3 : 0 < H * I := Nat.mul_pos (by omega) (by omega)
  have s4 : 0 < O * H := Nat.mul_pos (by omega) (by omega)
  have z1 : (H : Int) * (I : Int) = ((H * I : Nat) : Int) := by push_cast; rfl
  have z2 : (O : Int) * (H : Int) = ((O * H : Nat) : Int) := by push_cast; rfl
  have b1 : 0 ≤ (H : Int) * (I : Int) := by omega
  have b2 : (H : Int) * (I : Int) ≤ 16 := by omega
  have b3 : 0 ≤ (O : Int) * (H : Int) := by omega
  have b4 : (O : Int) * (H : Int) ≤ 16 := by omega
  have ht : ((len : Int) != (H : Int) * (I : Int) + (H : Int) + (O : Int) * (H : Int) + (O : Int)) = false := by rw [bne_eq_false_iff_eq, z1, z2]; omega
  have Z1 : Hid ((H : Int) * (I : Int) = ((H * I : Nat) : Int)) := z1
  have Z2 : Hid ((O : Int) * (H : Int) = ((O * H : Nat) : Int)) := z2
  have HLEN : Hid (len = H * I + H + O * H + O) := hlen
  have hl40 : len ≤ 40 := by omega
  clear z1 z2 hlen
  go_enter Tryz.func31, Tryz.ntmps31
  go_wp2_with (first | (go_at_call 80; refine (pside_calls _ _).mono ?_; rintro e w' ⟨rfl, rfl⟩) | (go_at_call 81; refine (inb_calls _ _ _ xs _ ha0 (by omega)).mono ?_; rintro e w' ⟨rfl, rfl⟩; rw [hx]))
  have st0 : ShSt w a len cap (fn8 (.int .i64 0) (.int .i64 0) (.slice none 0 0) (.int .i64 0) (.int .i64 0) (.slice none 0 0) (.slice none 0 0) (.slice none 0 0)) (((w.alloc (.cells #[.int .i64 0, .int .i64 0, .slice none 0 0, .int .i64 0, .int .i64 0, .slice none 0 0, .slice none 0 0, .slice none 0 0] 62)).alloc (.cells #[.slice a len cap] 26)).alloc (.cells #[.int .i64 0, .int .i64 0, .slice none 0 0, .int .i64 0, .int .i64 0, .slice none 0 0, .slice none 0 0, .slice none 0 0] 62)) := by
    refine ⟨((fn8_alloc w (.int .i64 0) (.int .i64 0) (.slice none 0 0) (.int .i64 0) (.int .i64 0) (.slice none 0 0) (.slice none 0 0) (.slice none 0 0) 62).alloc _).alloc _, ?_, ?_, (hal.alloc hal.size _).alloc (by simp; omega) _⟩
    · have h := World.rowIs_alloc (w.alloc (.cells #[.int .i64 0, .int .i64 0, .slice none 0 0, .int .i64 0, .int .i64 0, .slice none 0 0, .slice none 0 0, .slice none 0 0] 62)) #[.slice a len cap] 26 (fun _ => .slice a len cap) (by
        intro i hi
        obtain rfl : i = 0 := by simpa using hi
        rfl)
      have h := h.alloc (.cells #[.int .i64 0, .int .i64 0, .slice none 0 0, .int .i64 0, .int .i64 0, .slice none 0 0, .slice none 0 0, .slice none 0 0] 62)
      simpa using h
    · have h := fn8_alloc ((w.alloc (.cells #[.int .i64 0, .int .i64 0, .slice none 0 0, .int .i64 0, .int .i64 0, .slice none 0 0, .slice none 0 0, .slice none 0 0] 62)).alloc (.cells #[.slice a len cap] 26)) (.int .i64 0) (.int .i64 0) (.slice none 0 0) (.int .i64 0) (.int .i64 0) (.slice none 0 0) (.slice none 0 0) (.slice none 0 0) 62
      simpa using h
  generalize (((w.alloc (.cells #[.int .i64 0, .int .i64 0, .slice none 0 0, .int .i64 0, .int .i64 0, .slice none 0 0, .slice none 0 0, .slice none 0 0] 62)).alloc (.cells #[.slice a len cap] 26)).alloc (.cells #[.int .i64 0, .int .i64 0, .slice none 0 0, .int .i64 0, .int .i64 0, .slice none 0 0, .slice none 0 0, .slice none 0 0] 62)) = w0 at st0 ⊢
  clear ha0 hal
  have lt0 := st0.pup.lt
  refine (take_calls (H * I) (w.heap.size + 1) _ Z1.out a (len) (cap) (xs) w0 w st0.bel ha st0.rst s3 (by have := HLEN.out; omega) (by omega)).mono ?_
  rintro e p0 ⟨ar0, rfl, hr0, hq, hl0, hg⟩
  have stq := st0.grown hg hq
  clear st0 hg hq
  obtain ⟨c0, c1, c2, c3, c4, c5, c6, c7⟩ := fn8_box stq.pup
  have f0 := stq.pup.frozen 0
  have f1 := stq.pup.frozen 1
  have f2 := stq.pup.frozen 2
  go_wp2_with fail
  have st1 : ShSt w ar0 (len - (H * I)) (cap - (H * I)) (fn8 (.int .i64 H) (.int .i64 I) (.slice (some ⟨w0.heap.size, 0, none⟩) (H * I) (H * I)) (.int .i64 0) (.int .i64 0) (.slice none 0 0) (.slice none 0 0) (.slice none 0 0)) (((p0.setCell ⟨w.heap.size + 1 + 1, 0, none⟩ (.int .i64 H)).setCell ⟨w.heap.size + 1 + 1, 1, none⟩ (.int .i64 I)).setCell ⟨w.heap.size + 1 + 1, 2, none⟩ (.slice (some ⟨w0.heap.size, 0, none⟩) (H * I) (H * I))) := (((stq.set 0 (.int .i64 H)).set 1 (.int .i64 I)).set 2 (.slice (some ⟨w0.heap.size, 0, none⟩) (H * I) (H * I))).congr (fun i hi => by rcases lt8 hi with rfl | rfl | rfl | rfl | rfl | rfl | rfl | rfl <;> rfl)
  have gr0 : (((p0.setCell ⟨w.heap.size + 1 + 1, 0, none⟩ (.int .i64 H)).setCell ⟨w.heap.size + 1 + 1, 1, none⟩ (.int .i64 I)).setCell ⟨w.heap.size + 1 + 1, 2, none⟩ (.slice (some ⟨w0.heap.size, 0, none⟩) (H * I) (H * I))).rowIs w0.heap.size 3 (H * I) _ := (((hr0.setOther (by simp; omega) _).setOther (by simp; omega) _).setOther (by simp; omega) _)
  have sz0 : w0.heap.size < (((p0.setCell ⟨w.heap.size + 1 + 1, 0, none⟩ (.int .i64 H)).setCell ⟨w.heap.size + 1 + 1, 1, none⟩ (.int .i64 I)).setCell ⟨w.heap.size + 1 + 1, 2, none⟩ (.slice (some ⟨w0.heap.size, 0, none⟩) (H * I) (H * I))).heap.size := gr0.lt
  clear stq c0 c1 c2 c3 c4 c5 c6 c7 f0 f1 f2 hr0
  generalize (((p0.setCell ⟨w.heap.size + 1 + 1, 0, none⟩ (.int .i64 H)).setCell ⟨w.heap.size + 1 + 1, 1, none⟩ (.int .i64 I)).setCell ⟨w.heap.size + 1 + 1, 2, none⟩ (.slice (some ⟨w0.heap.size, 0, none⟩) (H * I) (H * I))) = w1 at st1 gr0 sz0 ⊢
  have hr0 := gr0
  clear gr0
  have lt1 := st1.pup.lt
  refine (take_calls H (w.heap.size + 1) _ rfl ar0 (len - (H * I)) (cap - (H * I)) ((xs).drop (H * I)) w1 w st1.bel hl0 st1.rst (by omega) (by have := HLEN.out; omega) (by omega)).mono ?_
  rintro e p1 ⟨ar1, rfl, hr1, hq, hl1, hg⟩
  have stq := st1.grown hg hq
  replace hr0 := rowIs_grown hr0 hg (by omega)
  clear st1 hg hq
  obtain ⟨c0, c1, c2, c3, c4, c5, c6, c7⟩ := fn8_box stq.pup
  have f6 := stq.pup.frozen 6
  go_wp2_with fail
  have st2 : ShSt w ar1 (len - (H * I) - H) (cap - (H * I) - H) (fn8 (.int .i64 H) (.int .i64 I) (.slice (some ⟨w0.heap.size, 0, none⟩) (H * I) (H * I)) (.int .i64 0) (.int .i64 0) (.slice none 0 0) (.slice (some ⟨w1.heap.size, 0, none⟩) H H) (.slice none 0 0)) (p1.setCell ⟨w.heap.size + 1 + 1, 6, none⟩ (.slice (some ⟨w1.heap.size, 0, none⟩) H H)) := (stq.set 6 (.slice (some ⟨w1.heap.size, 0, none⟩) H H)).congr (fun i hi => by rcases lt8 hi with rfl | rfl | rfl | rfl | rfl | rfl | rfl | rfl <;> rfl)
  have gr0 : (p1.setCell ⟨w.heap.size + 1 + 1, 6, none⟩ (.slice (some ⟨w1.heap.size, 0, none⟩) H H)).rowIs w0.heap.size 3 (H * I) _ := (hr0.setOther (by simp; omega) _)
  have gr1 : (p1.setCell ⟨w.heap.size + 1 + 1, 6, none⟩ (.slice (some ⟨w1.heap.size, 0, none⟩) H H)).rowIs w1.heap.size 3 H _ := (hr1.setOther (by simp; omega) _)
  have sz1 : w1.heap.size < (p1.setCell ⟨w.heap.size + 1 + 1, 6, none⟩ (.slice (some ⟨w1.heap.size, 0, none⟩) H H)).heap.size := gr1.lt
  clear stq c0 c1 c2 c3 c4 c5 c6 c7 f6 hr0 hr1
  generalize (p1.setCell ⟨w.heap.size + 1 + 1, 6, none⟩ (.slice (some ⟨w1.heap.size, 0, none⟩) H H)) = w2 at st2 gr0 gr1 sz1 ⊢
  have hr0 := gr0
  have hr1 := gr1
  clear gr0 gr1
  have lt2 := st2.pup.lt
  refine (take_calls (O * H) (w.heap.size + 1) _ Z2.out ar1 (len - (H * I) - H) (cap - (H * I) - H) (((xs).drop (H * I)).drop H) w2 w st2.bel hl1 st2.rst s4 (by have := HLEN.out; omega) (by omega)).mono ?_
  rintro e p2 ⟨ar2, rfl, hr2, hq, hl2, hg⟩
  have stq := st2.grown hg hq
  replace hr0 := rowIs_grown hr0 hg (by omega)
  replace hr1 := rowIs_grown hr1 hg (by omega)
  clear st2 hg hq
  obtain ⟨c0, c1, c2, c3, c4, c5, c6, c7⟩ := fn8_box stq.pup
  have f3 := stq.pup.frozen 3
  have f4 := stq.pup.frozen 4
  have f5 := stq.pup.frozen 5
  go_wp2_with fail
  have st3 : ShSt w ar2 (len - (H * I) - H - (O * H)) (cap - (H * I) - H - (O * H)) (fn8 (.int .i64 H) (.int .i64 I) (.slice (some ⟨w0.heap.size, 0, none⟩) (H * I) (H * I)) (.int .i64 O) (.int .i64 H) (.slice (some ⟨w2.heap.size, 0, none⟩) (O * H) (O * H)) (.slice (some ⟨w1.heap.size, 0, none⟩) H H) (.slice none 0 0)) (((p2.setCell ⟨w.heap.size + 1 + 1, 3, none⟩ (.int .i64 O)).setCell ⟨w.heap.size + 1 + 1, 4, none⟩ (.int .i64 H)).setCell ⟨w.heap.size + 1 + 1, 5, none⟩ (.slice (some ⟨w2.heap.size, 0, none⟩) (O * H) (O * H))) := (((stq.set 3 (.int .i64 O)).set 4 (.int .i64 H)).set 5 (.slice (some ⟨w2.heap.size, 0, none⟩) (O * H) (O * H))).congr (fun i hi => by rcases lt8 hi with rfl | rfl | rfl | rfl | rfl | rfl | rfl | rfl <;> rfl)
  have gr0 : (((p2.setCell ⟨w.heap.size + 1 + 1, 3, none⟩ (.int .i64 O)).setCell ⟨w.heap.size + 1 + 1, 4, none⟩ (.int .i64 H)).setCell ⟨w.heap.size + 1 + 1, 5, none⟩ (.slice (some ⟨w2.heap.size, 0, none⟩) (O * H) (O * H))).rowIs w0.heap.size 3 (H * I) _ := (((hr0.setOther (by simp; omega) _).setOther (by simp; omega) _).setOther (by simp; omega) _)
  have gr1 : (((p2.setCell ⟨w.heap.size + 1 + 1, 3, none⟩ (.int .i64 O)).setCell ⟨w.heap.size + 1 + 1, 4, none⟩ (.int .i64 H)).setCell ⟨w.heap.size + 1 + 1, 5, none⟩ (.slice (some ⟨w2.heap.size, 0, none⟩) (O * H) (O * H))).rowIs w1.heap.size 3 H _ := (((hr1.setOther (by simp; omega) _).setOther (by simp; omega) _).setOther (by simp; omega) _)
  have gr2 : (((p2.setCell ⟨w.heap.size + 1 + 1, 3, none⟩ (.int .i64 O)).setCell ⟨w.heap.size + 1 + 1, 4, none⟩ (.int .i64 H)).setCell ⟨w.heap.size + 1 + 1, 5, none⟩ (.slice (some ⟨w2.heap.size, 0, none⟩) (O * H) (O * H))).rowIs w2.heap.size 3 (O * H) _ := (((hr2.setOther (by simp; omega) _).setOther (by simp; omega) _).setOther (by simp; omega) _)
  have sz2 : w2.heap.size < (((p2.setCell ⟨w.heap.size + 1 + 1, 3, none⟩ (.int .i64 O)).setCell ⟨w.heap.size + 1 + 1, 4, none⟩ (.int .i64 H)).setCell ⟨w.heap.size + 1 + 1, 5, none⟩ (.slice (some ⟨w2.heap.size, 0, none⟩) (O * H) (O * H))).heap.size := gr2.lt
  clear stq c0 c1 c2 c3 c4 c5 c6 c7 f3 f4 f5 hr0 hr1 hr2
  generalize (((p2.setCell ⟨w.heap.size + 1 + 1, 3, none⟩ (.int .i64 O)).setCell ⟨w.heap.size + 1 + 1, 4, none⟩ (.int .i64 H)).setCell ⟨w.heap.size + 1 + 1, 5, none⟩ (.slice (some ⟨w2.heap.size, 0, none⟩) (O * H) (O * H))) = w3 at st3 gr0 gr1 gr2 sz2 ⊢
  have hr0 := gr0
  have hr1 := gr1
  have hr2 := gr2
  clear gr0 gr1 gr2
  have lt3 := st3.pup.lt
  refine (take_calls O (w.heap.size + 1) _ rfl ar2 (len - (H * I) - H - (O * H)) (cap - (H * I) - H - (O * H)) ((((xs).drop (H * I)).drop H).drop (O * H)) w3 w st3.bel hl2 st3.rst (by omega) (by have := HLEN.out; omega) (by omega)).mono ?_
  rintro e p3 ⟨ar3, rfl, hr3, hq, hl3, hg⟩
  have stq := st3.grown hg hq
  replace hr0 := rowIs_grown hr0 hg (by omega)
  replace hr1 := rowIs_grown hr1 hg (by omega)
  replace hr2 := rowIs_grown hr2 hg (by omega)
  clear st3 hg hq
  obtain ⟨c0, c1, c2, c3, c4, c5, c6, c7⟩ := fn8_box stq.pup
  have f7 := stq.pup.frozen 7
  obtain ⟨r0, r1, r2, r3, r4, r5, r6, r7⟩ := fn8_box stq.res
  have g0 := stq.res.frozen 0
  have g1 := stq.res.frozen 1
  have g2 := stq.res.frozen 2
  have g3 := stq.res.frozen 3
  have g4 := stq.res.frozen 4
  have g5 := stq.res.frozen 5
  have g6 := stq.res.frozen 6
  have g7 := stq.res.frozen 7
  go_wp2
  have st4 : ShSt w ar3 (len - (H * I) - H - (O * H) - O) (cap - (H * I) - H - (O * H) - O) (fn8 (.int .i64 H) (.int .i64 I) (.slice (some ⟨w0.heap.size, 0, none⟩) (H * I) (H * I)) (.int .i64 O) (.int .i64 H) (.slice (some ⟨w2.heap.size, 0, none⟩) (O * H) (O * H)) (.slice (some ⟨w1.heap.size, 0, none⟩) H H) (.slice (some ⟨w3.heap.size, 0, none⟩) O O)) (p3.setCell ⟨w.heap.size + 1 + 1, 7, none⟩ (.slice (some ⟨w3.heap.size, 0, none⟩) O O)) := (stq.set 7 (.slice (some ⟨w3.heap.size, 0, none⟩) O O)).congr (fun i hi => by rcases lt8 hi with rfl | rfl | rfl | rfl | rfl | rfl | rfl | rfl <;> rfl)
  have gr0 : (p3.setCell ⟨w.heap.size + 1 + 1, 7, none⟩ (.slice (some ⟨w3.heap.size, 0, none⟩) O O)).rowIs w0.heap.size 3 (H * I) _ := (hr0.setOther (by simp; omega) _)
  have gr1 : (p3.setCell ⟨w.heap.size + 1 + 1, 7, none⟩ (.slice (some ⟨w3.heap.size, 0, none⟩) O O)).rowIs w1.heap.size 3 H _ := (hr1.setOther (by simp; omega) _)
  have gr2 : (p3.setCell ⟨w.heap.size + 1 + 1, 7, none⟩ (.slice (some ⟨w3.heap.size, 0, none⟩) O O)).rowIs w2.heap.size 3 (O * H) _ := (hr2.setOther (by simp; omega) _)
  have gr3 : (p3.setCell ⟨w.heap.size + 1 + 1, 7, none⟩ (.slice (some ⟨w3.heap.size, 0, none⟩) O O)).rowIs w3.heap.size 3 O _ := (hr3.setOther (by simp; omega) _)
  have sz3 : w3.heap.size < (p3.setCell ⟨w.heap.size + 1 + 1, 7, none⟩ (.slice (some ⟨w3.heap.size, 0, none⟩) O O)).heap.size := gr3.lt
  clear stq c0 c1 c2 c3 c4 c5 c6 c7 f7 hr0 hr1 hr2 hr3
  have hq := fn8_set8 st4.res (.int .i64 H) (.int .i64 I) (.slice (some ⟨w0.heap.size, 0, none⟩) (H * I) (H * I)) (.int .i64 O) (.int .i64 H) (.slice (some ⟨w2.heap.size, 0, none⟩) (O * H) (O * H)) (.slice (some ⟨w1.heap.size, 0, none⟩) H H) (.slice (some ⟨w3.heap.size, 0, none⟩) O O)
  obtain ⟨q0, q1, q2, q3, q4, q5, q6, q7⟩ := fn8_box hq
  refine bodyPost_ret (v := .tuple #[(rpup I H O (some ⟨w0.heap.size, 0, none⟩) (H * I) (some ⟨w2.heap.size, 0, none⟩) (O * H) (some ⟨w1.heap.size, 0, none⟩) H (some ⟨w3.heap.size, 0, none⟩) O).val, .int .i64 0]) (by simp [results, Tryz.results31, go_sem, rpup, Pup.val, Pup.cells, q0, q1, q2, q3, q4, q5, q6, q7]) rfl ?_
  have keep : ∀ (g n : Nat) (f : Nat → Value) (v0 v1 v2 v3 v4 v5 v6 v7 : Value) (wq : World), wq.rowIs g 3 n f → w.heap.size < g → ((((((((wq.setCell ⟨w.heap.size, 0, none⟩ v0).setCell ⟨w.heap.size, 1, none⟩ v1).setCell ⟨w.heap.size, 2, none⟩ v2).setCell ⟨w.heap.size, 3, none⟩ v3).setCell ⟨w.heap.size, 4, none⟩ v4).setCell ⟨w.heap.size, 5, none⟩ v5).setCell ⟨w.heap.size, 6, none⟩ v6).setCell ⟨w.heap.size, 7, none⟩ v7).rowIs g 3 n f := by
    intro g n f v0 v1 v2 v3 v4 v5 v6 v7 wq h hg
    exact (((((((h.setOther (by simp; omega) _).setOther (by simp; omega) _).setOther (by simp; omega) _).setOther (by simp; omega) _).setOther (by simp; omega) _).setOther (by simp; omega) _).setOther (by simp; omega) _).setOther (by simp; omega) _
  refine ⟨_, _, _, _, rfl, ⟨by omega, by omega, by omega, by omega⟩, ⟨_, _, _, _, Arr.row (keep _ _ _ _ _ _ _ _ _ _ _ _ gr0 (by omega)), Arr.row (keep _ _ _ _ _ _ _ _ _ _ _ _ gr2 (by omega)), Arr.row (keep _ _ _ _ _ _ _ _ _ _ _ _ gr1 (by omega)), Arr.row (keep _ _ _ _ _ _ _ _ _ _ _ _ gr3 (by omega))⟩, ?_, ?_⟩
  · skip
    have hl := ha.len
    have := HLEN.out
    refine ⟨?_, ?_, ?_, ?_⟩
    · show Lst _ _ (H * I) (H * I) (xs.take (H * I))
      exact Lst.row (keep _ _ _ _ _ _ _ _ _ _ _ _ gr0 (by omega)) (by simp; omega) (fun i hi => by unfold rowTo; rw [if_pos hi])
    · show Lst _ _ (O * H) (O * H) (((xs.drop (H * I)).drop H).take (O * H))
      exact Lst.row (keep _ _ _ _ _ _ _ _ _ _ _ _ gr2 (by omega)) (by simp; omega) (fun i hi => by unfold rowTo; rw [if_pos hi])
    · show Lst _ _ H H ((xs.drop (H * I)).take H)
      exact Lst.row (keep _ _ _ _ _ _ _ _ _ _ _ _ gr1 (by omega)) (by simp; omega) (fun i hi => by unfold rowTo; rw [if_pos hi])
    · show Lst _ _ O O ((((xs.drop (H * I)).drop H).drop (O * H)).take O)
      exact Lst.row (keep _ _ _ _ _ _ _ _ _ _ _ _ gr3 (by omega)) (by simp; omega) (fun i hi => by unfold rowTo; rw [if_pos hi])
  · exact (((((((st4.bel.setCell (Nat.le_refl _) _).setCell (Nat.le_refl _) _).setCell (Nat.le_refl _) _).setCell (Nat.le_refl _) _).setCell (Nat.le_refl _) _).setCell (Nat.le_refl _) _).setCell (Nat.le_refl _) _).setCell (Nat.le_refl _) _

theorem concat4_own (a0 a1 a2 a3 : Option Addr) (l0 l1 l2 l3 c0 c1 c2 c3 : Nat) (x0 x1 x2 x3 : List Int) (g : Nat) (w : World) (hg : g = w.heap.size) (h0 : Lst w a0 l0 c0 x0) (h1 : Lst w a1 l1 c1 x1) (h2 : Lst w a2 l2 c2 x2) (h3 : Lst w a3 l3 c3 x3)
    (p0 : 0 < l0) (p1 : 0 < l1) (p2 : 0 < l2) (p3 : 0 < l3) (hs : l0 + l1 + l2 + l3 ≤ 1000) :
    Calls Tryz.prog 69 #[.slice (some ⟨g, 0, none⟩) 4 4] (w.alloc (.cells #[.slice a0 l0 c0, .slice a1 l1 c1, .slice a2 l2 c2, .slice a3 l3 c3] 26)) fun e w' => ∃ v, e = .returned v ∧ OwnI w.heap.size w' v (x0 ++ (x1 ++ (x2 ++ x3))) ∧ Below w.heap.size w w' := by
  subst hg
  have hal := (Below.refl w.heap.size w).alloc (Nat.le_refl _) (.cells #[.slice a0 l0 c0, .slice a1 l1 c1, .slice a2 l2 c2, .slice a3 l3 c3] 26)
  have hr := World.rowIs_alloc w #[.slice a0 l0 c0, .slice a1 l1 c1, .slice a2 l2 c2, .slice a3 l3 c3] 26 (fun i => .slice (four a0 a1 a2 a3 i) (four l0 l1 l2 l3 i) (four c0 c1 c2 c3 i)) (by
    intro i hi
    rcases lt_four hi with rfl | rfl | rfl | rfl <;> rfl)
  refine (concat_calls 4 (four a0 a1 a2 a3) (four l0 l1 l2 l3) (four c0 c1 c2 c3) (four x0 x1 x2 x3) w.heap.size _ (by simp) (by omega) (by omega) (fun i hi => hr.cell hi) ?_ ?_ ?_).mono ?_
  · intro i hi
    rcases lt_four hi with rfl | rfl | rfl | rfl
    · exact h0.below hal (Nat.le_refl _)
    · exact h1.below hal (Nat.le_refl _)
    · exact h2.below hal (Nat.le_refl _)
    · exact h3.below hal (Nat.le_refl _)
  · intro i hi
    rcases lt_four hi with rfl | rfl | rfl | rfl
    · exact p0
    · exact p1
    · exact p2
    · exact p3
  · show 0 + l0 + l1 + l2 + l3 ≤ 1000
    omega
  · rintro e w' ⟨v, rfl, hown, hb⟩
    have e1 : catTo (four x0 x1 x2 x3) 4 = x0 ++ (x1 ++ (x2 ++ x3)) := by
      show (([] ++ x0) ++ x1 ++ x2) ++ x3 = _
      simp [List.append_assoc]
    rw [e1] at hown
    exact ⟨v, rfl, hown.mono hal.size, hal.trans (hb.mono hal.size)⟩

set_option maxHeartbeats 800000 in
theorem clamped_own (a : Option Addr) (la ca : Nat) (xs : List Int) (w : World) (ha : Lst w a la ca xs) (hl : la ≤ 200) :
    Calls Tryz.prog 91 #[.slice a la ca] w fun e w' => ∃ g, e = .returned (.slice (some ⟨g, 0, none⟩) la la) ∧ w.heap.size ≤ g ∧ Arr w' g la la (clampG xs) ∧ Below w.heap.size w w' := by
  have hmk := run_make_row' (P := Tryz.prog) 26 3 (.int .i64 0) 8 Tryz.underlying26 info3 rfl .i64 .i64 la (by omega) (by omega)
  go_enter Tryz.func91, Tryz.ntmps91
  go_wp2
  go_loopw [11] (fun i wr => ∃ k : Nat, k ≤ la ∧ i = .int .i64 k ∧ wr.rowIs w.heap.size 3 la (rowTo (clampG xs) k) ∧ Below w.heap.size w wr) (fun i _ => la - (intOf i).toNat)
  case atStart => exact ⟨0, Nat.zero_le _, rfl, rowTo_made (World.rowIs_made _ _ _ _), (Below.refl _ _).alloc (Nat.le_refl _) _⟩
  case round =>
    obtain ⟨k, hk, rfl, hrow, hbel⟩ := hrel
    have ha' := ha.below hbel (Nat.le_refl _)
    clear ha hmk
    by_cases hlt : k < la
    · obtain ⟨b1, o1, x, rfl, _, c1, HX⟩ := ha'.at1 hlt
      have c3 := rowTo_cell hrow hlt
      have f3 := hrow.frozen k
      go_wp2_with (go_at_call 136; refine (clamp_calls _ _).mono ?_; rintro e w' ⟨rfl, hw'⟩; replace hw' := hw'.symm; subst hw')
      go_roundw
      case rel =>
        have st := rowTo_step (g := clampG xs) hrow
        simp only [clampG, HX.out] at st
        exact ⟨k + 1, by omega, by go_num, st, hbel.setCell (Nat.le_refl _) _⟩
      case measure => simp [intOf]; omega
    · obtain rfl : k = la := by omega
      go_wp2
      go_ret
      exact ⟨_, rfl, Nat.le_refl _, Arr.row hrow, hbel⟩

set_option maxHeartbeats 800000 in
theorem clip0_own (a : Option Addr) (la ca : Nat) (xs : List Int) (w : World) (ha : Lst w a la ca xs) (hl : la ≤ 200) :
    Calls Tryz.prog 35 #[.slice a la ca, .int .i64 0] w fun e w' => ∃ g, e = .returned (.tuple #[.slice (some ⟨g, 0, none⟩) la la, .int .i64 0]) ∧ w.heap.size ≤ g ∧ Arr w' g la la (clampG xs) ∧ Below w.heap.size w w' := by
  have HM : Hid (inB 0 0 2147483647 = true) := rfl
  have hl' : ¬ (200 : Int) < (la : Int) := by omega
  have HGT : Hid (∀ (a' : Option Addr) (q : World), Lst q a' la la (clampL xs la) → Calls Tryz.prog 92 #[.slice a' la la] q fun e w' => e = .returned (.int .i64 (topL xs la)) ∧ w' = q) :=
    fun a' q hq => greatest_calls a' la la _ (clampG xs) q hq (by omega) (fun i hi => clampL_get hi) (fun i _ => clampG_bd xs i)
  generalize topL xs la = t at *
  go_enter Tryz.func35, Tryz.ntmps35
  go_wp2_with (go_at_call 90; refine (within_calls _ _ _ _).mono ?_; rintro e w' ⟨rfl, hw'⟩; replace hw' := hw'.symm; subst hw'; rw [HM.out])
  refine (clamped_own _ _ _ _ _ ha (by omega)).mono ?_
  rintro e w1 ⟨g, rfl, hg, h1, hw1⟩
  have h2 : Lst w1 (some ⟨g, 0, none⟩) la la (clampL xs la) := h1.lst
  go_wp2_with (go_at_call 92; refine (HGT.out _ _ h2).mono ?_; rintro e w' ⟨rfl, hw'⟩; replace hw' := hw'.symm; subst hw')
  go_ret2
  exact ⟨_, rfl, hg, h1, hw1⟩

theorem path_own (a : Option Addr) (n c : Nat) (xs : List Int) (i : Nat) (w : World) (ha : Lst w a n c xs) (h1 : 1 ≤ n) (h2 : n ≤ 200) (hi : i < (n + 3) / 4) :
    Calls Tryz.prog 70 #[.slice a n c, .int .i64 i] w fun e w' => ∃ v, e = .returned (.tuple #[v, .int .i64 0]) ∧ OwnW w.heap.size w' v (wayP (leavesP xs n) i) ∧ Below w.heap.size w w' := by
  have hd := (way_deep _ (leavesP xs n) i (Nat.le_refl _) (leavesP_ok _ _)).1
  rw [leavesP_len] at hd
  have HD : Hid ((wayP (leavesP xs n) i).length = deepP i ((n + 3) / 4)) := hd
  have HV : Hid (∀ w, Lst w a n c xs → Calls Tryz.prog 73 #[.slice a n c] w fun e w' => ∃ a', e = .returned (.tuple #[.slice a' ((n + 3) / 4 : Nat) ((n + 3) / 4 : Nat), .int .i64 0]) ∧ LstW w' a' ((n + 3) / 4) ((n + 3) / 4) (leavesP xs n) ∧ Below w.heap.size w w') := fun w ha => leaves_calls a n c xs w ha h1 h2
  have hN : (n + 3) / 4 ≤ 50 := by omega
  clear hd
  generalize (n + 3) / 4 = N at *
  go_enter Tryz.func70, Tryz.ntmps70
  go_wp2_with (first | (go_at_call 73; refine (HV.out _ ha).mono ?_; rintro e w1 ⟨a1, rfl, hl1, hw1⟩) | (go_at_call 128; refine (beside_calls 50 _ _ _ (leavesP xs n) i _ (by omega) (by omega) (by omega) hi hl1 (leavesP_ok _ _)).mono ?_; rintro e w2 ⟨v2, rfl, hown, hw2⟩))
  go_ret2
  exact ⟨_, rfl, ownW_mono hown hw1.size, hw1.trans (hw2.mono hw1.size)⟩

end Go.Proofs.YtimciamfgpdjlaaGreat.Fx

/- What draw.place and draw.order return: the order of an epoch, within the bounds. -/
namespace Go.Proofs.YtimciamfgpdjlaaGreat.Fx
open Go.RowKit

theorem place_calls (seed : Int) (hs : okW seed) (epoch i : Nat) (he : epoch ≤ 1000) (hi : i ≤ 16) (w : World) :
    Calls Tryz.prog 176 #[.int .u64 seed, .int .i64 epoch, .int .i64 i] w fun e w' => e = .returned (.int .i64 (placeP seed epoch i)) ∧ Below w.heap.size w w' := by
  have HE : Hid (ofP 2 [seed, ((64 * epoch + i : Nat) : Int)] % ((i : Int) + 1) = (placeP seed epoch i : Int)) := placeP_eq _ _ _
  have hle := placeP_le seed epoch i
  have HK : Hid (okP (ofP 2 [seed, ((64 * epoch + i : Nat) : Int)])) := ofP_ok _ _
  generalize placeP seed epoch i = j at *
  obtain ⟨t, ht⟩ : ∃ t : Nat, 64 * epoch + i = t := ⟨_, rfl⟩
  rw [ht] at HE HK
  have e1 : (64 : Int) * (epoch : Int) + (i : Int) = (t : Int) := by omega
  have kt : okW (t : Int) := ⟨by omega, by omega⟩
  go_enter Tryz.func176, Tryz.ntmps176
  go_wp2_with fail
  refine (dWord_calls _ _ hs kt _).mono ?_
  rintro e w1 ⟨rfl, hw1⟩
  obtain ⟨M, hM⟩ : ∃ M, ofP 2 [seed, (t : Int)] = M := ⟨_, rfl⟩
  rw [hM] at HE HK ⊢
  obtain ⟨m0, m1⟩ := HK.out
  have e2 : M.tmod ((i : Int) + 1) = (j : Int) := by rw [Int.tmod_eq_emod_of_nonneg m0]; exact HE.out
  have e3 : M % ((i : Int) + 1) = (j : Int) := HE.out
  clear hM
  go_wp2
  go_ret
  exact ⟨rfl, hw1⟩

set_option maxRecDepth 100000 in
set_option maxHeartbeats 1600000 in
theorem order_calls (seed : Int) (hs : okW seed) (epoch n : Nat) (he : epoch ≤ 1000) (h1 : 1 ≤ n) (h2 : n ≤ 16) (w : World) :
    Calls Tryz.prog 166 #[.int .u64 seed, .int .i64 epoch, .int .i64 n] w fun e w' => ∃ b, e = .returned (.slice (some ⟨b, 0, none⟩) n n) ∧ w.heap.size ≤ b ∧ Arr w' b n n (shufF seed epoch n) ∧ Below w.heap.size w w' := by
  have hmk := run_make_row' (P := Tryz.prog) 26 3 (.int .i64 0) 8 Tryz.underlying26 info3 rfl .i64 .i64 n (by omega) (by omega)
  go_enter Tryz.func166, Tryz.ntmps166
  go_wp2
  go_loopw [15] (fun i wr => ∃ k : Nat, k ≤ n ∧ i = .int .i64 k ∧ wr.rowIs w.heap.size 3 n (rowTo (fun x => (x : Int)) k) ∧ Below w.heap.size w wr) (fun i _ => n - (intOf i).toNat)
  case atStart => exact ⟨0, Nat.zero_le _, rfl, rowTo_made (World.rowIs_made _ _ _ _), (Below.refl _ _).alloc (Nat.le_refl _) _⟩
  case round =>
    obtain ⟨k, hk, rfl, hrow, hbel⟩ := hrel
    clear hmk
    by_cases hlt : k < n
    · have c3 := rowTo_cell hrow hlt
      have f3 := hrow.frozen k
      go_wp2
      go_roundw
      case rel => exact ⟨k + 1, by omega, by go_num, rowTo_step (g := fun x => (x : Int)) hrow, hbel.setCell (Nat.le_refl _) _⟩
      case measure => simp [intOf]; omega
    · obtain rfl : k = n := by omega
      have hA : Arr wr w.heap.size k k (shufTo seed epoch k 0) := Arr.row hrow
      clear hrow
      generalize hwr : wr = w1 at *
      clear hwr
      go_wp2
      go_loopw [9] (fun i wr => ∃ p j : Nat, p + j + 1 = k ∧ i = .int .i64 p ∧ Arr wr w.heap.size k k (shufTo seed epoch k j) ∧ Below w.heap.size w wr) (fun i _ => (intOf i).toNat)
      case atStart => exact ⟨k - 1, 0, by omega, by go_num, hA, hbel⟩
      case round =>
        obtain ⟨p, j, hp, rfl, hR, hB⟩ := hrel
        clear hA hbel
        by_cases hlt2 : 1 ≤ p
        · go_wp2_with fail
          refine (place_calls _ hs _ _ he (by omega) _).mono ?_
          rintro e w2 ⟨rfl, hw2⟩
          have hle := placeP_le seed epoch p
          have HS : Hid (swapF (shufTo seed epoch k j) p (placeP seed epoch p) = shufTo seed epoch k (j + 1)) := shufTo_step hp
          generalize placeP seed epoch p = q at *
          replace hB := hB.trans (hw2.mono hB.size)
          replace hR := hR.below hw2
          have c1 := hR.cell (i := p) (by omega)
          have c2 := hR.cell (i := q) (by omega)
          have f1 := hR.frozen p
          have f2 := hR.frozen q
          have R1 := hR.set p (shufTo seed epoch k j q)
          have f3 := R1.frozen q
          have d3 := R1.cell (i := q) (by omega)
          have hqk : q < k := by omega
          have hpk : p < k := by omega
          generalize (if q = p then shufTo seed epoch k j q else shufTo seed epoch k j q) = z at d3
          obtain ⟨x, hx⟩ : ∃ x, shufTo seed epoch k j q = x := ⟨_, rfl⟩
          obtain ⟨y, hy⟩ : ∃ y, shufTo seed epoch k j p = y := ⟨_, rfl⟩
          have RR := hR.swap p q x y hx hy
          rw [hx] at c2 f3 d3
          rw [hy] at c1
          clear R1 hx hy hw2
          go_wp2
          go_region
          go_wp2
          go_roundw
          case rel => exact ⟨p - 1, j + 1, by omega, by go_num, (HS.out ▸ RR).drew, below_drewN ((hB.setCell (Nat.le_refl _) _).setCell (Nat.le_refl _) _) 1⟩
          case measure => simp [intOf]; omega
        · obtain rfl : p = 0 := by omega
          go_wp2
          go_ret
          obtain rfl : j = k - 1 := by omega
          exact ⟨_, rfl, Nat.le_refl _, hR, hB⟩

end Go.Proofs.YtimciamfgpdjlaaGreat.Fx

/- What draw.isCount, Shuffle and Batch return, whatever is handed in. -/
namespace Go.Proofs.YtimciamfgpdjlaaGreat.Fx
open Go.RowKit

def cntB (n : Int) : Bool := decide (1 ≤ n) && decide (n ≤ 16)
theorem count_calls (n : Int) (w : World) : Calls Tryz.prog 165 #[.int .i64 n] w fun e w' => e = .returned (.bool (cntB n)) ∧ w' = w := by
  unfold cntB
  by_cases h1 : 1 ≤ n
  · by_cases h2 : n ≤ 16
    · go_enter Tryz.func165, Tryz.ntmps165
      go_wp2
      go_ret
      exact ⟨ret_bool (by simp [h1, h2]), rfl⟩
    · go_enter Tryz.func165, Tryz.ntmps165
      go_wp2
      go_ret
      exact ⟨ret_bool (by simp; omega), rfl⟩
  · go_enter Tryz.func165, Tryz.ntmps165
    go_wp2
    go_ret
    exact ⟨ret_bool (by simp; omega), rfl⟩
theorem cnt_yes {n : Int} (h : 1 ≤ n ∧ n ≤ 16) : cntB n = true := by unfold cntB; simp; omega
theorem cnt_no {n : Int} (h : ¬ (1 ≤ n ∧ n ≤ 16)) : cntB n = false := by unfold cntB; simp; omega

def okS (epoch n : Int) : Prop := (1 ≤ n ∧ n ≤ 16) ∧ 0 ≤ epoch ∧ epoch ≤ 1000
instance (epoch n : Int) : Decidable (okS epoch n) := by unfold okS; infer_instance
def errS (epoch n : Int) : Int := if okS epoch n then 0 else 1
def shufL (seed epoch n : Int) : List Int := if okS epoch n then shufP seed epoch.toNat n.toNat else []

/-- The order that serves ahead of number k of a batch from s on. -/
def NowIs (seed : Int) (n s k base : Nat) (v : Value) (w : World) : Prop := k = 0 ∨ ∃ b c, v = .slice (some ⟨b, 0, none⟩) n c ∧ base < b ∧ Arr w b c n (shufF seed ((s + (k - 1)) / n) n)

theorem NowIs.next {seed : Int} {n s k base b c d : Nat} {w : World} (hA : Arr w b c n (shufF seed d n)) (hb : base < b) (hd : (s + k) / n = d) : NowIs seed n s (k + 1) base (.slice (some ⟨b, 0, none⟩) n c) w := by
  subst hd
  exact .inr ⟨b, c, rfl, hb, hA⟩
theorem NowIs.before {seed : Int} {n s k base : Nat} {v : Value} {w : World} (h : NowIs seed n s k base v w) (hk : k ≠ 0) : ∃ b c, v = .slice (some ⟨b, 0, none⟩) n c ∧ base < b ∧ Arr w b c n (shufF seed ((s + (k - 1)) / n) n) := by
  rcases h with h | h
  · exact absurd h hk
  · exact h

set_option maxRecDepth 100000 in
set_option maxHeartbeats 1600000 in
theorem batch_good (seed : Int) (hs : okW seed) (size n step : Nat) (z1 : 1 ≤ size) (z2 : size ≤ 8) (h1 : 1 ≤ n) (h2 : n ≤ 16) (hp : step ≤ 39) (w : World) :
    Calls Tryz.prog 150 #[.int .u64 seed, .int .i64 size, .int .i64 n, .int .i64 step] w fun e w' => ∃ b, e = .returned (.tuple #[.slice (some ⟨b, 0, none⟩) size size, .int .i64 0]) ∧ w.heap.size ≤ b ∧ Arr w' b size size (batchG seed n (step * size)) ∧ Below w.heap.size w w' := by
  have HC : Hid (cntB (n : Int) = true) := cnt_yes ⟨by omega, by omega⟩
  have hmul : step * size ≤ 39 * 8 := Nat.mul_le_mul hp z2
  obtain ⟨s, hsz⟩ : ∃ s, step * size = s := ⟨_, rfl⟩
  have e1 : (step : Int) * (size : Int) = (s : Int) := by rw [← hsz]; simp
  rw [hsz] at hmul ⊢
  have hmk := run_make_row' (P := Tryz.prog) 26 3 (.int .i64 0) 8 Tryz.underlying26 info3 rfl .i64 .i64 size (by omega) (by omega)
  clear hsz
  go_enter Tryz.func150, Tryz.ntmps150
  go_wp2_with (go_at_call 165; refine (count_calls _ _).mono ?_; rintro e w' ⟨rfl, hw'⟩; replace hw' := hw'.symm; subst hw'; rw [HC.out])
  go_loopw [11, 37] (fun v i wr => ∃ k : Nat, k ≤ size ∧ i = .int .i64 k ∧ NowIs seed n s k w.heap.size v wr ∧ wr.rowIs w.heap.size 3 size (rowTo (batchG seed n s) k) ∧ Below w.heap.size w wr) (fun _ i _ => size - (intOf i).toNat)
  case atStart => exact ⟨0, Nat.zero_le _, rfl, .inl rfl, rowTo_made (World.rowIs_made _ _ _ _), (Below.refl _ _).alloc (Nat.le_refl _) _⟩
  case round =>
    obtain ⟨k, hk, rfl, hnow, hrow, hbel⟩ := hrel
    clear hmk
    by_cases hlt : k < size
    · obtain ⟨t, ht⟩ : ∃ t, s + k = t := ⟨_, rfl⟩
      obtain ⟨d, hd⟩ : ∃ d, t / n = d := ⟨_, rfl⟩
      obtain ⟨r, hr⟩ : ∃ r, t % n = r := ⟨_, rfl⟩
      have hrn : r < n := by rw [← hr]; exact Nat.mod_lt _ (by omega)
      have hdm : n * d + r = t := by rw [← hd, ← hr]; exact Nat.div_add_mod t n
      have hdt : d ≤ t := by rw [← hd]; exact Nat.div_le_self _ _
      have HG : Hid (batchG seed n s k = shufF seed d n r) := by show batchG seed n s k = _; unfold batchG; rw [ht, hd, hr]
      have e2 : (s : Int) + (k : Int) = (t : Int) := by omega
      have e3 : (t : Int).tdiv (n : Int) = (d : Int) := by rw [← hd]; exact Int.ofNat_tdiv t n
      have e4 : (t : Int).tmod (n : Int) = (r : Int) := by rw [← hr]; exact Int.ofNat_tmod t n
      have hn0 : ((n : Int) == 0) = false := by rw [beq_eq_false_iff_ne]; omega
      have hlr := hrow.lt
      by_cases hk0 : k = 0
      · have b0 : ((k : Int) == 0) = true := by rw [beq_iff_eq]; omega
        clear hnow hk0
        go_wp2_with fail
        refine (order_calls _ hs d n (by omega) h1 h2 _).mono ?_
        rintro e w2 ⟨b, rfl, hb, hA, hw2⟩
        replace hrow := hrow.of_block (hw2.block _ hlr)
        have c3 := rowTo_cell hrow hlt
        have f3 := hrow.frozen k
        have hbl := hbel.trans (hw2.mono hbel.size)
        have c4 := hA.cell hrn
        obtain ⟨x, hx⟩ : ∃ x, shufF seed d n r = x := ⟨_, rfl⟩
        rw [hx] at c4 HG
        have st := rowTo_step (g := batchG seed n s) hrow
        rw [HG.out] at st
        clear hx
        go_wp2
        go_roundw
        case rel => exact ⟨k + 1, by omega, by go_num, NowIs.next (hA.setOther (show b ≠ w.heap.size by omega) _) (by omega) (by rw [ht, hd]), st, hbl.setCell (Nat.le_refl _) _⟩
        case measure => simp [intOf]; omega
      · have b0 : ((k : Int) == 0) = false := by rw [beq_eq_false_iff_ne]; omega
        by_cases hr0 : r = 0
        · have b1 : ((r : Int) == 0) = true := by rw [beq_iff_eq]; omega
          clear hnow hr0
          go_wp2_with fail
          refine (order_calls _ hs d n (by omega) h1 h2 _).mono ?_
          rintro e w2 ⟨b, rfl, hb, hA, hw2⟩
          replace hrow := hrow.of_block (hw2.block _ hlr)
          have c3 := rowTo_cell hrow hlt
          have f3 := hrow.frozen k
          have hbl := hbel.trans (hw2.mono hbel.size)
          have c4 := hA.cell hrn
          obtain ⟨x, hx⟩ : ∃ x, shufF seed d n r = x := ⟨_, rfl⟩
          rw [hx] at c4 HG
          have st := rowTo_step (g := batchG seed n s) hrow
          rw [HG.out] at st
          clear hx
          go_wp2
          go_roundw
          case rel => exact ⟨k + 1, by omega, by go_num, NowIs.next (hA.setOther (show b ≠ w.heap.size by omega) _) (by omega) (by rw [ht, hd]), st, hbl.setCell (Nat.le_refl _) _⟩
          case measure => simp [intOf]; omega
        · have b1 : ((r : Int) == 0) = false := by rw [beq_eq_false_iff_ne]; omega
          obtain ⟨b, c, rfl, hb, hA⟩ := hnow.before hk0
          rw [day_goes ht hdm hrn hk0 hr0] at hA
          have c3 := rowTo_cell hrow hlt
          have f3 := hrow.frozen k
          have c4 := hA.cell hrn
          obtain ⟨x, hx⟩ : ∃ x, shufF seed d n r = x := ⟨_, rfl⟩
          rw [hx] at c4 HG
          have st := rowTo_step (g := batchG seed n s) hrow
          rw [HG.out] at st
          clear hx
          go_wp2
          go_roundw
          case rel => exact ⟨k + 1, by omega, by go_num, NowIs.next (hA.setOther (show b ≠ w.heap.size by omega) _) (by omega) (by rw [ht, hd]), st, hbel.setCell (Nat.le_refl _) _⟩
          case measure => simp [intOf]; omega
    · obtain rfl : k = size := by omega
      go_wp2
      go_ret2
      exact ⟨_, rfl, Nat.le_refl _, Arr.row hrow, hbel⟩

/-- Whether a size, a count and a step are such as may be. -/
def okB (size n step : Int) : Prop := (1 ≤ size ∧ size ≤ 8) ∧ (1 ≤ n ∧ n ≤ 16) ∧ 0 ≤ step ∧ step ≤ 39
instance (size n step : Int) : Decidable (okB size n step) := by unfold okB; infer_instance
def errB (size n step : Int) : Int := if okB size n step then 0 else 1
def batchL (seed size n step : Int) : List Int := if okB size n step then batchP seed size.toNat n.toNat (step.toNat * size.toNat) else []

theorem batch_bad (seed size n step : Int) (h : ¬ okB size n step) (w : World) :
    Calls Tryz.prog 150 #[.int .u64 seed, .int .i64 size, .int .i64 n, .int .i64 step] w fun e w' => e = .returned (.tuple #[.slice none 0 0, .int .i64 1]) ∧ w' = w := by
  by_cases z1 : size < 1
  · clear h
    go_enter Tryz.func150, Tryz.ntmps150
    go_wp2
    go_ret2
    exact ⟨rfl, rfl⟩
  · by_cases z2 : 8 < size
    · clear h
      go_enter Tryz.func150, Tryz.ntmps150
      go_wp2
      go_ret2
      exact ⟨rfl, rfl⟩
    · by_cases hc : 1 ≤ n ∧ n ≤ 16
      · have HC : Hid (cntB n = true) := cnt_yes hc
        have hx : ¬ (0 ≤ step ∧ step ≤ 39) := fun x => h ⟨⟨by omega, by omega⟩, hc, x⟩
        clear h hc
        by_cases h0 : step < 0
        · go_enter Tryz.func150, Tryz.ntmps150
          go_wp2_with (go_at_call 165; refine (count_calls _ _).mono ?_; rintro e w' ⟨rfl, hw'⟩; replace hw' := hw'.symm; subst hw'; rw [HC.out])
          go_ret2
          exact ⟨rfl, rfl⟩
        · have h9 : 40 ≤ step := by omega
          clear hx
          go_enter Tryz.func150, Tryz.ntmps150
          go_wp2_with (go_at_call 165; refine (count_calls _ _).mono ?_; rintro e w' ⟨rfl, hw'⟩; replace hw' := hw'.symm; subst hw'; rw [HC.out])
          go_ret2
          exact ⟨rfl, rfl⟩
      · have HC : Hid (cntB n = false) := cnt_no hc
        clear h hc
        go_enter Tryz.func150, Tryz.ntmps150
        go_wp2_with (go_at_call 165; refine (count_calls _ _).mono ?_; rintro e w' ⟨rfl, hw'⟩; replace hw' := hw'.symm; subst hw'; rw [HC.out])
        go_ret2
        exact ⟨rfl, rfl⟩

theorem Batch_calls (seed : Int) (hs : okW seed) (size n step : Int) (w : World) :
    Calls Tryz.prog 150 #[.int .u64 seed, .int .i64 size, .int .i64 n, .int .i64 step] w fun e w' => ∃ a m, e = .returned (.tuple #[.slice a m m, .int .i64 (errB size n step)]) ∧ m ≤ 16 ∧ Lst w' a m m (batchL seed size n step) ∧ Below w.heap.size w w' := by
  unfold errB batchL
  by_cases h : okB size n step
  · rw [if_pos h, if_pos h]
    obtain ⟨⟨z1, z2⟩, ⟨h1, h2⟩, h3, h4⟩ := h
    obtain ⟨S, rfl⟩ := Int.eq_ofNat_of_zero_le (show 0 ≤ size by omega)
    obtain ⟨T, rfl⟩ := Int.eq_ofNat_of_zero_le h3
    obtain ⟨N, rfl⟩ := Int.eq_ofNat_of_zero_le (show 0 ≤ n by omega)
    refine (batch_good seed hs S N T (by omega) (by omega) (by omega) (by omega) (by omega) w).mono ?_
    rintro e w1 ⟨b, rfl, hb, hA, hw1⟩
    exact ⟨_, S, rfl, by omega, hA.lst, hw1⟩
  · rw [if_neg h, if_neg h]
    refine (batch_bad seed size n step h w).mono ?_
    rintro e w1 ⟨rfl, rfl⟩
    exact ⟨none, 0, rfl, by omega, Lst.nil _ _ _, Below.refl _ _⟩

end Go.Proofs.YtimciamfgpdjlaaGreat.Fx

/- A course in plain numbers: what Check, Start, Next and Run tell of right things; and how examples and states lie in memory; no function of the program is spoken of. -/
namespace Go.Proofs.YtimciamfgpdjlaaGreat.Fx
open Go.RowKit

/-- A slice of examples: where each one's lists lie, and their numbers. -/
def Exs (w : World) (a : Option Addr) (n cap : Nat) (X : Nat → Exm) (DI DO : Nat → List Int) : Prop :=
  n ≤ cap ∧ (n = 0 ∨ ∃ b off, a = some ⟨b, off, none⟩ ∧ b < w.heap.size ∧ ∀ i, i < n → w.cell? ⟨b, off + i * 2, none⟩ = some (.slice (X i).a (X i).n (X i).k) ∧ w.cell? ⟨b, off + i * 2 + 1, none⟩ = some (.slice (X i).b (X i).m (X i).t) ∧ InEx w (X i) (DI i) (DO i))
theorem Exs.below {w w' : World} {a : Option Addr} {n c : Nat} {X : Nat → Exm} {DI DO : Nat → List Int} {B : Nat} (h : Exs w a n c X DI DO) (hb : Below B w w') (hB : w.heap.size ≤ B) : Exs w' a n c X DI DO := by
  refine ⟨h.1, ?_⟩
  rcases h.2 with h0 | ⟨b, off, e, hs, hc⟩
  · exact .inl h0
  · exact .inr ⟨b, off, e, Nat.lt_of_lt_of_le hs hb.size, fun i hi =>
      ⟨(hb.cell (p := ⟨b, off + i * 2, none⟩) (Nat.lt_of_lt_of_le hs hB)).trans (hc i hi).1, (hb.cell (p := ⟨b, off + i * 2 + 1, none⟩) (Nat.lt_of_lt_of_le hs hB)).trans (hc i hi).2.1, (hc i hi).2.2.below hb hB⟩⟩
theorem Exs.drewN {w : World} {a : Option Addr} {n c : Nat} {X : Nat → Exm} {DI DO : Nat → List Int} (h : Exs w a n c X DI DO) (k : Nat) : Exs (w.drewN k) a n c X DI DO := h.below (below_drewN (Below.refl w.heap.size w) k) (Nat.le_refl _)
theorem Exs.at {w : World} {a : Option Addr} {n c : Nat} {X : Nat → Exm} {DI DO : Nat → List Int} (h : Exs w a n c X DI DO) {i : Nat} (hi : i < n) :
    ∃ b off, a = some ⟨b, off, none⟩ ∧ w.cell? ⟨b, off + i * 2, none⟩ = some (.slice (X i).a (X i).n (X i).k) ∧ w.cell? ⟨b, off + i * 2 + 1, none⟩ = some (.slice (X i).b (X i).m (X i).t) ∧ InEx w (X i) (DI i) (DO i) := by
  rcases h.2 with h0 | ⟨b, off, e, _, hc⟩
  · omega
  · exact ⟨b, off, e, hc i hi⟩

/-- Whether an example is one of the config. -/
def exB (c : Cfg) (x : Exm) (I O : List Int) : Bool := decide ((x.n : Int) = c.i) && decide ((x.m : Int) = c.o) && rightB I && rightB O
def allEx (c : Cfg) (n : Nat) (X : Nat → Exm) (DI DO : Nat → List Int) : Bool := (List.range n).all fun i => exB c (X i) (DI i) (DO i)
theorem allEx_yes {c : Cfg} {n : Nat} {X : Nat → Exm} {DI DO : Nat → List Int} (h : ∀ i, i < n → exB c (X i) (DI i) (DO i) = true) : allEx c n X DI DO = true := by
  unfold allEx; rw [List.all_eq_true]; exact fun i hi => h i (List.mem_range.1 hi)
theorem allEx_no {c : Cfg} {n i : Nat} {X : Nat → Exm} {DI DO : Nat → List Int} (hi : i < n) (h : exB c (X i) (DI i) (DO i) = false) : allEx c n X DI DO = false := by
  unfold allEx; rw [List.all_eq_false]; exact ⟨i, List.mem_range.2 hi, by rw [h]; decide⟩
theorem allEx_is {c : Cfg} {n : Nat} {X : Nat → Exm} {DI DO : Nat → List Int} (h : allEx c n X DI DO = true) {i : Nat} (hi : i < n) : exB c (X i) (DI i) (DO i) = true := by
  unfold allEx at h; rw [List.all_eq_true] at h; exact h i (List.mem_range.2 hi)
theorem exB_is {c : Cfg} {x : Exm} {I O : List Int} (h : exB c x I O = true) : (x.n : Int) = c.i ∧ (x.m : Int) = c.o ∧ rightB I = true ∧ rightB O = true := by
  simp only [exB, Bool.and_eq_true, decide_eq_true_eq] at h
  exact ⟨h.1.1.1, h.1.1.2, h.1.2, h.2⟩
def courseI (c : Cfg) (n : Nat) (X : Nat → Exm) (DI DO : Nat → List Int) : Int :=
  if cfgB c = true then (if n = 0 then 1 else if 16 < n then 2 else if allEx c n X DI DO = true then 0 else 5) else 1

/-- Start: the first weights. -/
def startG (seed : Int) (i : Nat) : Int := ofP 2 [seed, 1000 + (i : Int)] % 131073 - 65536
def zeroG (_ : Nat) : Int := 0
theorem startG_bd (seed : Int) (i : Nat) : -65536 ≤ startG seed i ∧ startG seed i ≤ 65536 := by
  unfold startG
  have := Int.emod_nonneg (ofP 2 [seed, 1000 + (i : Int)]) (b := 131073) (by omega)
  have := Int.emod_lt_of_pos (ofP 2 [seed, 1000 + (i : Int)]) (b := 131073) (by omega)
  omega

/-- The gradients of a batch, added one by one; their mean. -/
def accTo (f : Nat → Nat → Int) : Nat → Nat → Int
  | 0, _ => 0
  | k + 1, i => addI (accTo f k i) (f k i)
def gradOf (I H O : Nat) (ws : List Int) (DI DO : Nat → List Int) (j : Nat) : List Int := flatD (graD (cutD I H O ws) (DI j) (DO j) I H O)
def meanG (f : Nat → Nat → Int) (b : Int) (i : Nat) : Int := divI (accTo f b.toNat i) (b * 65536)
def gradG (c : Cfg) (n : Nat) (ws : List Int) (DI DO : Nat → List Int) (step : Int) (k i : Nat) : Int :=
  (gradOf c.i.toNat c.h.toNat c.o.toNat ws DI DO ((batchL c.seed c.batch n step).getD k 0).toNat).getD i 0
def pushL (c : Cfg) (n : Nat) (ws : List Int) (DI DO : Nat → List Int) (step : Int) (nw : Nat) : List Int :=
  clipL ((List.range nw).map (meanG (gradG c n ws DI DO step) c.batch)) c.clip nw
end Go.Proofs.YtimciamfgpdjlaaGreat.Fx

/- Durstenfeld's law in plain numbers: an order has each number once; sorted, it is the numbers from 0 on. -/
namespace Go.Proofs.YtimciamfgpdjlaaGreat.Fx

def idN (x : Nat) : Int := (x : Int)

theorem swap_perm (f : Nat → Int) {n i j : Nat} (hi : i < n) (hj : j < n) : ((List.range n).map (swapF f i j)).Perm ((List.range n).map f) := by
  have h := Array.swap_perm (xs := ((List.range n).map f).toArray) (i := i) (j := j) (by simpa using hi) (by simpa using hj)
  rw [Array.perm_iff_toList_perm] at h
  refine List.Perm.trans ?_ h
  rw [show (List.range n).map (swapF f i j) = (((List.range n).map f).toArray.swap i j (by simpa using hi) (by simpa using hj)).toList from ?_]
  refine List.ext_getElem (by simp) (fun k h1 h2 => ?_)
  simp only [List.length_map, List.length_range] at h1
  simp only [List.getElem_map, List.getElem_range, Array.getElem_toList, Array.getElem_swap, List.getElem_toArray]
  unfold swapF
  by_cases e1 : k = i
  · subst e1
    by_cases e2 : k = j
    · subst e2; simp
    · simp [e2]
  · by_cases e2 : k = j
    · subst e2; simp [e1]
    · simp [e1, e2]

theorem shufTo_perm (seed : Int) (epoch n : Nat) : ∀ k, k + 1 ≤ n → ((List.range n).map (shufTo seed epoch n k)).Perm ((List.range n).map idN)
  | 0, _ => List.Perm.refl _
  | k + 1, h => (swap_perm (shufTo seed epoch n k) (i := n - 1 - k) (j := placeP seed epoch (n - 1 - k)) (by omega) (by have := placeP_le seed epoch (n - 1 - k); omega)).trans (shufTo_perm seed epoch n k (by omega))

theorem shufP_perm (seed : Int) (epoch n : Nat) (h : 1 ≤ n) : ((List.range n).map (shufF seed epoch n)).Perm ((List.range n).map idN) := shufTo_perm seed epoch n (n - 1) (by omega)

theorem sort_range {l : List Int} {n : Nat} (h : l.Perm ((List.range n).map idN)) : l.mergeSort (fun x y => decide (x ≤ y)) = (List.range n).map idN := by
  have h1 : (l.mergeSort (fun x y => decide (x ≤ y))).Perm ((List.range n).map idN) := (List.mergeSort_perm _ _).trans h
  have h2 : (l.mergeSort (fun x y => decide (x ≤ y))).Pairwise (fun x y => decide (x ≤ y) = true) := List.pairwise_mergeSort (le := fun x y : Int => decide (x ≤ y)) (by intro a b c h1 h2; simp only [decide_eq_true_eq] at *; omega) (by intro a b; simp only [Bool.or_eq_true, decide_eq_true_eq]; omega) _
  have h3 : ((List.range n).map idN).Pairwise (fun x y => decide (x ≤ y) = true) := by
    rw [List.pairwise_map]
    refine List.pairwise_lt_range.imp ?_
    intro a b hab
    exact decide_eq_true (show idN a ≤ idN b by unfold idN; omega)
  exact h1.eq_of_pairwise (fun a b _ _ p q => by simp only [decide_eq_true_eq] at p q; omega) h2 h3

/-- Number t of all the orders, one behind the other. -/
def allG (seed : Int) (n t : Nat) : Int := shufF seed (t / n) n (t % n)
theorem batchG_all (seed : Int) (n s i : Nat) : batchG seed n s i = allG seed n (s + i) := rfl
theorem all_snoc (seed : Int) (n s m : Nat) : (List.range s).map (allG seed n) ++ (List.range m).map (batchG seed n s) = (List.range (s + m)).map (allG seed n) := by
  rw [List.range_add, List.map_append, List.map_map]
  rfl
theorem all_part (seed : Int) {n m : Nat} (hn : 1 ≤ n) {L : Nat} (h : m * n + n ≤ L) : (((List.range L).map (allG seed n)).drop (m * n)).take n = (List.range n).map (shufF seed m n) := by
  refine List.ext_getElem (by simp; omega) (fun i h1 h2 => ?_)
  simp only [List.length_map, List.length_range] at h2
  simp only [List.getElem_take, List.getElem_drop, List.getElem_map, List.getElem_range, allG]
  rw [show m * n + i = i + n * m from by rw [Nat.mul_comm, Nat.add_comm], Nat.add_mul_div_left _ _ (by omega), Nat.add_mul_mod_self_left, Nat.div_eq_of_lt h2, Nat.mod_eq_of_lt h2, Nat.zero_add]

theorem first_two : shufF 1 0 2 0 = 0 ∧ shufF 1 0 2 1 = 1 := by decide +kernel

end Go.Proofs.YtimciamfgpdjlaaGreat.Fx
