/- A list of integers that the program itself makes by append: what is known of it, and what one append more leaves. -/
import Derived.Test.YtfkalnehomgccaaJ04
import Derived.Deep.AppendLies
import Derived.Deep.RegionHeld3
import Derived.Lib.AppendZeros
import Derived.Test.YtfkalnehomgccaaJ00
import Derived.Maps.AppendAt
import Derived.Lib.SliceRun
import Derived.Test.YtfkalnehomgccaaJ03
import Derived.Deep.DeepCutAuto
import Derived.Deep.CutBlock
namespace Go.Proofs.Ytfkalnehomgccaa.Fx
open Go.RowKit

/-- The slice value v, made from block number base on, owns the integers xs. -/
def OwnI (base : Nat) (w : World) (v : Value) (xs : List Int) : Prop := w.ownsRow base 3 1 v xs.length (xs.map (Value.int .i64))

theorem OwnI.nil (base : Nat) (w : World) : OwnI base w (.slice none 0 0) [] := World.ownsRow_nil _ _ _ _
theorem OwnI.drew {base : Nat} {w : World} {v : Value} {xs : List Int} (h : OwnI base w v xs) : OwnI base w.drew v xs := h
theorem OwnI.drewN {base : Nat} {w : World} {v : Value} {xs : List Int} (h : OwnI base w v xs) (n : Nat) : OwnI base (w.drewN n) v xs := h
theorem OwnI.alloc {base : Nat} {w : World} {v : Value} {xs : List Int} (h : OwnI base w v xs) (o : Obj) : OwnI base (w.alloc o) v xs := World.ownsRow.alloc h o
theorem OwnI.below {base : Nat} {w w' : World} {v : Value} {xs : List Int} (h : OwnI base w v xs) (hb : Below w.heap.size w w') : OwnI base w' v xs := by
  refine ⟨h.1, ?_⟩
  rcases h.2 with h0 | ⟨g, cap, cur, hv, hg, hh, r⟩
  · exact .inl h0
  · exact .inr ⟨g, cap, cur, hv, hg, by rw [hb.block g (Array.getElem?_eq_some_iff.1 hh).1]; exact hh, r⟩
theorem OwnI.lst {base : Nat} {w : World} {v : Value} {xs : List Int} (h : OwnI base w v xs) : ∃ a c, v = .slice a xs.length c ∧ Lst w a xs.length c xs := Lst.owned h
theorem OwnI.lst' {base : Nat} {w : World} {v : Value} {xs : List Int} {n : Nat} (h : OwnI base w v xs) (hn : xs.length = n) : ∃ a c, v = .slice a n c ∧ Lst w a n c xs := by
  subst hn; exact Lst.owned h
theorem OwnI.congr {base : Nat} {w : World} {v : Value} {xs ys : List Int} (h : OwnI base w v xs) (e : xs = ys) : OwnI base w v ys := e ▸ h
theorem range_snoc (g : Nat → Int) (k : Nat) (x : Int) (h : g k = x) : (List.range k).map g ++ [x] = (List.range (k + 1)).map g := by
  rw [List.range_succ, List.map_append, List.map_singleton, h]

section
variable {w' W0 : World} {ops : Array Oper} {o : Oper} {a : Act} {Q : Exit → Act → World → Prop}

theorem run_append_int (ty : TypeId) (base : Nat) (v : Value) (xs : List Int) (z : Int) (g : Nat) (hown : OwnI base w' v xs) (hc : w'.cell? ⟨g, 0, none⟩ = some (.int .i64 z))
    (hn : (xs.length + 1) * 8 ≤ 140737488355328) (hbase : base ≤ w'.heap.size) (hB : Below base W0 w') :
    ∃ v' w1, (Builtin.append_ #[22, 22] ty #[v, .slice (some ⟨g, 0, none⟩) 1 1]).run Try.prog w' = .ok v' w1 ∧ OwnI base w1 v' (xs ++ [z]) ∧ Below base W0 w1 := by
  obtain ⟨i0, hi, hz0, hz1, hz2⟩ := info_parts info3
  obtain ⟨v', w1, hrun, h1, h2, _⟩ := run_append_own (P := Try.prog) w' base 22 ty 3 i0 (.int .i64 0) 1 8 Try.underlying22 hi hz0 hz1 hz2 rfl (by decide) v xs.length _ hown ⟨g, 0, none⟩ 1 1 [.int .i64 z] rfl
    (by intro j u hj
        match j, hj with
        | 0, hj => simp at hj; subst hj; simpa [Addr.add] using hc)
    (by intro u hu; simp at hu; subst hu; rfl) (by unfold maxLen; omega) hn hbase
  refine ⟨v', w1, hrun, by unfold OwnI; rw [List.length_append, List.map_append]; exact h1, hB.grown h2 hbase ?_⟩
  intro k hk
  rcases hown.2 with ⟨rfl, _⟩ | ⟨g', cap, cur, rfl, hg, _⟩
  · simp [Value.ownBlock] at hk
  · simp [Value.ownBlock] at hk; omega

theorem wpList_append_int {rest : List Oper} (hgd : o.guard = none) (s x : Operand) (ho : o.op = .call { callee := .builtin .append, args := #[s, x], argTypes := #[22, 22] })
    (base : Nat) (v : Value) (xs : List Int) (z : Int) (g : Nat) (W0 : World) (hs : a.eval s = v) (hx : a.eval x = .slice (some ⟨g, 0, none⟩) 1 1) (hown : OwnI base w' v xs) (hc : w'.cell? ⟨g, 0, none⟩ = some (.int .i64 z))
    (hn : (xs.length + 1) * 8 ≤ 140737488355328) (hbase : base ≤ w'.heap.size) (hB : Below base W0 w')
    (h : ∀ v' w1, OwnI base w1 v' (xs ++ [z]) → Below base W0 w1 → wpList Try.prog ops Q rest (a.put o.dst v') w1) : wpList Try.prog ops Q (o :: rest) a w' := by
  obtain ⟨v', w1, hrun, h1, h2⟩ := run_append_int o.type base v xs z g hown hc hn hbase hB
  refine wpList_plain hgd fun K hK => ?_
  unfold Oper.wp
  simp [execOp, ho, resolve, invoke, builtin, hs, hx, hrun, Result.andThen]
  exact hK _ _ (h v' w1 h1 h2)

theorem step_append_int {K : Act → World → Prop} {E : Prop} (hgd : o.guard = none) (s x : Operand) (ho : o.op = .call { callee := .builtin .append, args := #[s, x], argTypes := #[22, 22] })
    (base : Nat) (v : Value) (xs : List Int) (z : Int) (g : Nat) (W0 : World) (hs : a.eval s = v) (hx : a.eval x = .slice (some ⟨g, 0, none⟩) 1 1) (hown : OwnI base w' v xs) (hc : w'.cell? ⟨g, 0, none⟩ = some (.int .i64 z))
    (hn : (xs.length + 1) * 8 ≤ 140737488355328) (hbase : base ≤ w'.heap.size) (hB : Below base W0 w')
    (h : ∀ v' w1, OwnI base w1 v' (xs ++ [z]) → Below base W0 w1 → K (a.put o.dst v') w1) :
    if Region.wanted o (yielded ops a.tmps) = true then Oper.wp Try.prog o a w' K Q else E := by
  obtain ⟨v', w1, hrun, h1, h2⟩ := run_append_int o.type base v xs z g hown hc hn hbase hB
  have hw : Region.wanted o (yielded ops a.tmps) = true := by simp [Region.wanted, hgd]
  rw [if_pos hw]
  unfold Oper.wp
  simp [execOp, ho, resolve, invoke, builtin, hs, hx, hrun, Result.andThen]
  exact h v' w1 h1 h2
end
end Go.Proofs.Ytfkalnehomgccaa.Fx

/- What slices.Grow (of nil), slices.Concat (of four lists) and pupil.Flat return. -/
namespace Go.Proofs.Ytfkalnehomgccaa.Fx
open Go.RowKit

set_option maxRecDepth 100000 in
set_option maxHeartbeats 800000 in
theorem grow_calls (n : Nat) (w : World) (h0 : 0 < n) (h1 : n ≤ 1000) :
    Calls Try.prog 35 #[.slice none 0 0, .int .i64 n] w fun e w' => ∃ v, e = .returned v ∧ OwnI w.heap.size w' v [] ∧ Below w.heap.size w w' := by
  obtain ⟨i0, hi, hz0, hz1, hz2⟩ := info_parts info3
  have happ := fun ty => Lib.run_append_nil_zeros (P := Try.prog) w 22 3 ty 3 i0 (.int .i64 0) .i64 .i64 Try.underlying22 Try.underlying3 hi hz0 n h0 (by omega) (by omega) (by rw [hz2]; omega)
  have hge := grownCap_ge w n 0 3
  have hle := grownCap_le_maxLen w n 0 3 (by unfold maxLen; omega)
  generalize grownCap w n 0 3 = G at happ hge hle
  have hG63 : G ≤ 9223372036854775807 := by unfold maxLen at hle; omega
  have hsz : (Builtin.zeroCells (Value.int .i64 0).cells n ++ Builtin.zeroCells (Value.int .i64 0).cells (G - n)).size = G * 1 := by
    simp [size_zeroCells, Value.cells]; omega
  generalize Builtin.zeroCells (Value.int .i64 0).cells n ++ Builtin.zeroCells (Value.int .i64 0).cells (G - n) = cs at happ hsz
  have hpos : (n : Int) > 0 := by omega
  go_enter Try.func35, Try.ntmps35
  go_wp2_with (at_builtin; refine Lib.wpList_append_run _ rfl _ _ _ _ rfl _ _ rfl rfl _ _ (happ _) ?_)
  go_ret
  refine ⟨_, rfl, ⟨rfl, .inr ⟨w.heap.size, G, cs, rfl, Nat.le_refl _, ?_, Nat.zero_le _, hle, hsz, rfl⟩⟩, ?_⟩
  · exact heap_alloc_new w.drew _
  · exact ((Below.refl _ _).drew).alloc (Nat.le_refl _) _

/-! An append of as many integers as a list has. -/
section
variable {w' W0 : World} {ops : Array Oper} {o : Oper} {a : Act} {Q : Exit → Act → World → Prop}

theorem run_append_ints (ty : TypeId) (base : Nat) (v : Value) (xs ys : List Int) (src : Option Addr) (m c : Nat) (hm : 0 < m) (hown : OwnI base w' v xs) (hsrc : Lst w' src m c ys)
    (hn : (xs.length + m) * 8 ≤ 140737488355328) (hbase : base ≤ w'.heap.size) (hB : Below base W0 w') :
    ∃ v' w1, (Builtin.append_ #[22, 22] ty #[v, .slice src m c]).run Try.prog w' = .ok v' w1 ∧ OwnI base w1 v' (xs ++ ys) ∧ Below base W0 w1 := by
  obtain ⟨i0, hi, hz0, hz1, hz2⟩ := info_parts info3
  have hl := hsrc.len
  obtain ⟨b, off, rfl, _, hc⟩ := hsrc.at hm
  obtain ⟨v', w1, hrun, h1, h2, _⟩ := run_append_own (P := Try.prog) w' base 22 ty 3 i0 (.int .i64 0) 1 8 Try.underlying22 hi hz0 hz1 hz2 rfl (by decide) v xs.length _ hown ⟨b, off, none⟩ m c (ys.map (Value.int .i64)) (by simp [hl])
    (by intro j u hj
        have hj' : j < ys.length := by
          have := (List.getElem?_eq_some_iff.1 hj).1
          simpa using this
        rw [getD_map_int ys j hj'] at hj
        rw [Go.WideShapes.add_plain, hc j (by omega)]
        exact hj)
    (by intro u hu
        obtain ⟨z, _, rfl⟩ := List.mem_map.1 hu
        rfl) (by unfold maxLen; omega) hn hbase
  refine ⟨v', w1, hrun, by unfold OwnI; rw [List.length_append, List.map_append, hl]; exact h1, hB.grown h2 hbase ?_⟩
  intro k hk
  rcases hown.2 with ⟨rfl, _⟩ | ⟨g', cap, cur, rfl, hg, _⟩
  · simp [Value.ownBlock] at hk
  · simp [Value.ownBlock] at hk; omega

theorem wpList_append_ints {rest : List Oper} (hgd : o.guard = none) (s x : Operand) (ho : o.op = .call { callee := .builtin .append, args := #[s, x], argTypes := #[22, 22] })
    (base : Nat) (v : Value) (xs ys : List Int) (src : Option Addr) (m c : Nat) (W0 : World) (hm : 0 < m) (hs : a.eval s = v) (hx : a.eval x = .slice src m c) (hown : OwnI base w' v xs) (hsrc : Lst w' src m c ys)
    (hn : (xs.length + m) * 8 ≤ 140737488355328) (hbase : base ≤ w'.heap.size) (hB : Below base W0 w')
    (h : ∀ v' w1, OwnI base w1 v' (xs ++ ys) → Below base W0 w1 → wpList Try.prog ops Q rest (a.put o.dst v') w1) : wpList Try.prog ops Q (o :: rest) a w' := by
  obtain ⟨v', w1, hrun, h1, h2⟩ := run_append_ints o.type base v xs ys src m c hm hown hsrc hn hbase hB
  refine wpList_plain hgd fun K hK => ?_
  unfold Oper.wp
  simp [execOp, ho, resolve, invoke, builtin, hs, hx, hrun, Result.andThen]
  exact hK _ _ (h v' w1 h1 h2)
end

def lenTo (L : Nat → Nat) : Nat → Nat
  | 0 => 0
  | k + 1 => lenTo L k + L k
def catTo (X : Nat → List Int) : Nat → List Int
  | 0 => []
  | k + 1 => catTo X k ++ X k
theorem lenTo_le (L : Nat → Nat) {k n : Nat} (h : k ≤ n) : lenTo L k ≤ lenTo L n := by
  induction n with
  | zero => obtain rfl : k = 0 := by omega
            exact Nat.le_refl _
  | succ n ih =>
    by_cases e : k = n + 1
    · subst e; exact Nat.le_refl _
    · have := ih (by omega)
      rw [lenTo]; omega
theorem catTo_len (X : Nat → List Int) (L : Nat → Nat) (n : Nat) (h : ∀ i, i < n → (X i).length = L i) : (catTo X n).length = lenTo L n := by
  induction n with
  | zero => rfl
  | succ n ih => rw [catTo, lenTo, List.length_append, ih (fun i hi => h i (by omega)), h n (by omega)]

set_option maxHeartbeats 1600000 in
theorem concat_calls (n : Nat) (A : Nat → Option Addr) (L C : Nat → Nat) (X : Nat → List Int) (b : Nat) (w : World) (hb : b < w.heap.size) (hn0 : 0 < n) (hn : n ≤ 1000) (hc : ∀ i, i < n → w.cell? ⟨b, i, none⟩ = some (.slice (A i) (L i) (C i)))
    (hl : ∀ i, i < n → Lst w (A i) (L i) (C i) (X i)) (hp : ∀ i, i < n → 0 < L i) (hs : lenTo L n ≤ 1000) :
    Calls Try.prog 23 #[.slice (some ⟨b, 0, none⟩) n n] w fun e w' => ∃ v, e = .returned v ∧ OwnI w.heap.size w' v (catTo X n) ∧ Below w.heap.size w w' := by
  have HC : Hid (∀ i, i < n → w.cell? ⟨b, i, none⟩ = some (.slice (A i) (L i) (C i))) := hc
  have HL : Hid (∀ i, i < n → Lst w (A i) (L i) (C i) (X i)) := hl
  have HP : Hid (∀ i, i < n → 0 < L i) := hp
  clear hc hl hp
  go_enter Try.func23, Try.ntmps23
  go_wp2
  go_loopw [3, 11] (fun s i wr => ∃ k : Nat, k ≤ n ∧ i = .int .i64 k ∧ s = .int .i64 (lenTo L k) ∧ wr = w) (fun _ i _ => n - (intOf i).toNat)
  case atStart => exact ⟨0, Nat.zero_le _, rfl, rfl, rfl⟩
  case round =>
    obtain ⟨k, hk, rfl, rfl, hw⟩ := hrel
    replace hw := hw.symm
    subst hw
    by_cases hlt : k < n
    · have c := HC.out k hlt
      have b1 := lenTo_le L (k := k + 1) (n := n) (by omega)
      have b2 : lenTo L (k + 1) = lenTo L k + L k := rfl
      obtain ⟨l, hl⟩ : ∃ l, Hid (L k = l) := ⟨_, rfl⟩
      obtain ⟨T, hT⟩ : ∃ T, Hid (lenTo L k = T) := ⟨_, rfl⟩
      rw [hl.out] at c b2
      rw [hT.out] at b2
      have b3 : T + l ≤ 1000 := by omega
      rw [hT.out]
      clear b1 b2
      go_wp2
      go_roundw
      case rel => exact ⟨k + 1, by omega, by go_num, by rw [lenTo, hT.out, hl.out]; go_num, by trivial⟩
      case measure => simp [intOf]; omega
    · obtain rfl : k = n := by omega
      have hpos : 0 < lenTo L k := by
        have b1 := lenTo_le L (k := 1) (n := k) (by omega)
        have b2 : lenTo L 1 = 0 + L 0 := rfl
        have := HP.out 0 hn0
        omega
      obtain ⟨T, hT⟩ : ∃ T, Hid (lenTo L k = T) := ⟨_, rfl⟩
      have HS : Hid (lenTo L k ≤ 1000) := hs
      rw [hT.out] at hs hpos ⊢
      go_wp2_with fail
      refine (grow_calls T _ hpos hs).mono ?_
      rintro e w1 ⟨v0, rfl, hown, hw1⟩
      go_wp2
      go_loopw [6, 27] (fun v i wr => ∃ j : Nat, j ≤ k ∧ i = .int .i64 j ∧ OwnI w.heap.size wr v (catTo X j) ∧ Below w.heap.size w wr) (fun _ i _ => k - (intOf i).toNat)
      case atStart => exact ⟨0, Nat.zero_le _, rfl, hown, hw1⟩
      case round =>
        obtain ⟨j, hj, rfl, hown, hbel⟩ := hrel
        have hsz := hbel.size
        by_cases hlt2 : j < k
        · have c := (hbel.cell (p := ⟨b, j, none⟩) (by exact hb)).trans (HC.out j hlt2)
          have hx := (HL.out j hlt2).below hbel (Nat.le_refl _)
          have hp := HP.out j hlt2
          have hlen : (catTo X j).length + L j ≤ 1000 := by
            rw [catTo_len X L j (fun i hi => (HL.out i (by omega)).len)]
            have b1 := lenTo_le L (k := j + 1) (n := k) (by omega)
            have b2 : lenTo L (j + 1) = lenTo L j + L j := rfl
            have := HS.out
            omega
          obtain ⟨l, hl⟩ : ∃ l, Hid (L j = l) := ⟨_, rfl⟩
          rw [hl.out] at c hx hp hlen
          go_wp2_with (at_builtin; refine wpList_append_ints (by rfl) _ _ (by rfl) w.heap.size _ (catTo X j) (X j) (A j) l (C j) w hp (by rfl) (by rfl) (by exact hown) (by exact hx) (by omega) (by exact hsz) (by exact hbel) ?_; intro v1 w3 hown1 hbel1)
          go_roundw
          case rel => exact ⟨j + 1, by omega, by go_num, hown1, hbel1⟩
          case measure => simp [intOf]; omega
        · obtain rfl : j = k := by omega
          go_wp2
          go_ret
          exact ⟨_, rfl, hown, hbel⟩

def four {α : Type} (x0 x1 x2 x3 : α) (i : Nat) : α := if i = 0 then x0 else if i = 1 then x1 else if i = 2 then x2 else x3
theorem lt_four {i : Nat} (h : i < 4) : i = 0 ∨ i = 1 ∨ i = 2 ∨ i = 3 := by omega

theorem concat4 (a0 a1 a2 a3 : Option Addr) (l0 l1 l2 l3 c0 c1 c2 c3 : Nat) (x0 x1 x2 x3 : List Int) (g : Nat) (w : World) (hg : g = w.heap.size) (h0 : Lst w a0 l0 c0 x0) (h1 : Lst w a1 l1 c1 x1) (h2 : Lst w a2 l2 c2 x2) (h3 : Lst w a3 l3 c3 x3)
    (p0 : 0 < l0) (p1 : 0 < l1) (p2 : 0 < l2) (p3 : 0 < l3) (hs : l0 + l1 + l2 + l3 ≤ 1000) :
    Calls Try.prog 23 #[.slice (some ⟨g, 0, none⟩) 4 4] (w.alloc (.cells #[.slice a0 l0 c0, .slice a1 l1 c1, .slice a2 l2 c2, .slice a3 l3 c3] 22)) fun e w' => ∃ a n c, e = .returned (.slice a n c) ∧ n = l0 + l1 + l2 + l3 ∧ Lst w' a n c (x0 ++ (x1 ++ (x2 ++ x3))) ∧ Below w.heap.size w w' := by
  subst hg
  have hal := (Below.refl w.heap.size w).alloc (Nat.le_refl _) (.cells #[.slice a0 l0 c0, .slice a1 l1 c1, .slice a2 l2 c2, .slice a3 l3 c3] 22)
  have hr := World.rowIs_alloc w #[.slice a0 l0 c0, .slice a1 l1 c1, .slice a2 l2 c2, .slice a3 l3 c3] 22 (fun i => .slice (four a0 a1 a2 a3 i) (four l0 l1 l2 l3 i) (four c0 c1 c2 c3 i)) (by
    intro i hi
    rcases lt_four hi with rfl | rfl | rfl | rfl <;> rfl)
  refine (concat_calls 4 (four a0 a1 a2 a3) (four l0 l1 l2 l3) (four c0 c1 c2 c3) (four x0 x1 x2 x3) w.heap.size _ (by simp) (by omega) (by omega) (fun i hi => hr.cell hi) ?_ ?_ ?_).mono ?_
  · intro i hi
    rcases lt_four hi with rfl | rfl | rfl | rfl
    · exact h0.below hal (Nat.le_refl _)
    · exact h1.below hal (Nat.le_refl _)
    · exact h2.below hal (Nat.le_refl _)
    · exact h3.below hal (Nat.le_refl _)
  · intro i hi
    rcases lt_four hi with rfl | rfl | rfl | rfl
    · exact p0
    · exact p1
    · exact p2
    · exact p3
  · show 0 + l0 + l1 + l2 + l3 ≤ 1000
    omega
  · rintro e w' ⟨v, rfl, hown, hb⟩
    obtain ⟨a, c, rfl, hl⟩ := hown.lst
    have e1 : catTo (four x0 x1 x2 x3) 4 = x0 ++ (x1 ++ (x2 ++ x3)) := by
      show (([] ++ x0) ++ x1 ++ x2) ++ x3 = _
      simp [List.append_assoc]
    rw [e1] at hl ⊢
    exact ⟨a, _, c, rfl, by simp [h0.len, h1.len, h2.len, h3.len]; omega, hl, hal.trans (hb.mono hal.size)⟩

theorem flatD_len {I H O : Nat} {a1 : Option Addr} {k1 : Nat} {a2 : Option Addr} {k2 : Nat} {d1 : Option Addr} {e1 : Nat} {d2 : Option Addr} {e2 : Nat} {d : PD} {w : World} (h : InPup w (rpup I H O a1 k1 a2 k2 d1 e1 d2 e2) d) :
    d.X1.length = H * I ∧ d.B1.length = H ∧ d.X2.length = O * H ∧ d.B2.length = O := ⟨h.x1.len, h.b1.len, h.x2.len, h.b2.len⟩
end Go.Proofs.Ytfkalnehomgccaa.Fx

/- Orders and batches as plain numbers, and a row of integers whose cells are changed in whatever order; no program is spoken of. -/
namespace Go.Proofs.Ytfkalnehomgccaa.Fx
open Go.RowKit

/-- The place that place i changes with. -/
def placeP (seed : Int) (epoch i : Nat) : Nat := (ofP 2 [seed, ((64 * epoch + i : Nat) : Int)] % ((i : Int) + 1)).toNat
theorem placeP_le (seed : Int) (epoch i : Nat) : placeP seed epoch i ≤ i := by
  unfold placeP
  have h := Int.emod_lt_of_pos (ofP 2 [seed, ((64 * epoch + i : Nat) : Int)]) (b := (i : Int) + 1) (by omega)
  omega
theorem placeP_eq (seed : Int) (epoch i : Nat) : ofP 2 [seed, ((64 * epoch + i : Nat) : Int)] % ((i : Int) + 1) = (placeP seed epoch i : Int) := by
  unfold placeP
  have h := Int.emod_nonneg (ofP 2 [seed, ((64 * epoch + i : Nat) : Int)]) (b := (i : Int) + 1) (by omega)
  omega

/-- Numbers i and j change places. -/
def swapF (f : Nat → Int) (i j : Nat) : Nat → Int := fun x => if x = j then f i else if x = i then f j else f x
/-- The order behind k changes, from the last place on. -/
def shufTo (seed : Int) (epoch n : Nat) : Nat → Nat → Int
  | 0 => fun x => (x : Int)
  | k + 1 => swapF (shufTo seed epoch n k) (n - 1 - k) (placeP seed epoch (n - 1 - k))
theorem shufTo_step {seed : Int} {epoch n k i : Nat} (h : i + k + 1 = n) : swapF (shufTo seed epoch n k) i (placeP seed epoch i) = shufTo seed epoch n (k + 1) := by
  obtain rfl : i = n - 1 - k := by omega
  rfl
def shufF (seed : Int) (epoch n : Nat) : Nat → Int := shufTo seed epoch n (n - 1)
def shufP (seed : Int) (epoch n : Nat) : List Int := (List.range n).map (shufF seed epoch n)
theorem shufP_len (seed : Int) (epoch n : Nat) : (shufP seed epoch n).length = n := by unfold shufP; simp
theorem getD_range (g : Nat → Int) {n i : Nat} (h : i < n) : ((List.range n).map g).getD i 0 = g i := by
  simp [List.getD_eq_getElem?_getD, h]

/-- Number i of a batch that begins at s. -/
def batchG (seed : Int) (n s i : Nat) : Int := shufF seed ((s + i) / n) n ((s + i) % n)
def batchP (seed : Int) (size n s : Nat) : List Int := (List.range size).map (batchG seed n s)

theorem day_goes {n d r s k t : Nat} (ht : s + k = t) (hdm : n * d + r = t) (hrn : r < n) (hk : k ≠ 0) (hr : r ≠ 0) : (s + (k - 1)) / n = d := by
  rw [show s + (k - 1) = (r - 1) + n * d from by omega, Nat.add_mul_div_left _ _ (by omega), Nat.div_eq_of_lt (by omega), Nat.zero_add]

/-- Block b, of c cells, none of them frozen, holds first the n integers of f. -/
def Arr (w : World) (b c n : Nat) (f : Nat → Int) : Prop := n ≤ c ∧ ∃ F, w.rowIs b 3 c F ∧ ∀ i, i < n → F i = .int .i64 (f i)

namespace Arr
variable {w w' : World} {b c n : Nat} {f g : Nat → Int}
theorem cap (h : Arr w b c n f) : n ≤ c := h.1
theorem cell (h : Arr w b c n f) {i : Nat} (hi : i < n) : w.cell? ⟨b, i, none⟩ = some (.int .i64 (f i)) := by
  obtain ⟨hc, F, hr, hf⟩ := h
  rw [hr.cell (by omega), hf i hi]
theorem frozen (h : Arr w b c n f) (i : Nat) : w.frozen? ⟨b, i, none⟩ = false := by
  obtain ⟨hc, F, hr, hf⟩ := h
  exact hr.frozen i
theorem lt (h : Arr w b c n f) : b < w.heap.size := by
  obtain ⟨hc, F, hr, hf⟩ := h
  exact hr.lt
theorem congr (h : Arr w b c n f) (e : ∀ i, i < n → f i = g i) : Arr w b c n g := by
  obtain ⟨hc, F, hr, hf⟩ := h
  exact ⟨hc, F, hr, fun i hi => by rw [hf i hi, e i hi]⟩
theorem set (h : Arr w b c n f) (i : Nat) (x : Int) : Arr (w.setCell ⟨b, i, none⟩ (.int .i64 x)) b c n (fun j => if j = i then x else f j) := by
  obtain ⟨hc, F, hr, hf⟩ := h
  refine ⟨hc, _, hr.set i _, fun j hj => ?_⟩
  by_cases e : j = i
  · simp [e]
  · simp [e, hf j hj]
theorem swap (h : Arr w b c n f) (i j : Nat) (x y : Int) (hx : f j = x) (hy : f i = y) : Arr ((w.setCell ⟨b, i, none⟩ (.int .i64 x)).setCell ⟨b, j, none⟩ (.int .i64 y)) b c n (swapF f i j) := by
  refine ((h.set i x).set j y).congr (fun k _ => ?_)
  unfold swapF
  rw [hx, hy]
theorem below (h : Arr w b c n f) (hb : Below w.heap.size w w') : Arr w' b c n f := by
  have hlt := h.lt
  obtain ⟨hc, F, hr, hf⟩ := h
  exact ⟨hc, F, hr.of_block (hb.block _ hlt), hf⟩
theorem belowAt {B : Nat} (h : Arr w b c n f) (hb : Below B w w') (hB : b < B) : Arr w' b c n f := by
  obtain ⟨hc, F, hr, hf⟩ := h
  exact ⟨hc, F, hr.of_block (hb.block _ hB), hf⟩
theorem drewN (h : Arr w b c n f) (k : Nat) : Arr (w.drewN k) b c n f := h
theorem drew (h : Arr w b c n f) : Arr w.drew b c n f := h
theorem alloc (h : Arr w b c n f) (o : Obj) : Arr (w.alloc o) b c n f := by
  obtain ⟨hc, F, hr, hf⟩ := h
  exact ⟨hc, F, hr.alloc o, hf⟩
theorem setOther (h : Arr w b c n f) {a : Addr} (ha : b ≠ a.block) (v : Value) : Arr (w.setCell a v) b c n f := by
  obtain ⟨hc, F, hr, hf⟩ := h
  exact ⟨hc, F, hr.setOther ha v, hf⟩
theorem lst (h : Arr w b c n f) : Lst w (some ⟨b, 0, none⟩) n c ((List.range n).map f) :=
  ⟨by simp, h.cap, .inr ⟨b, 0, rfl, h.lt, fun i hi => by rw [Nat.zero_add, h.cell hi, getD_range f hi]⟩⟩
theorem row (h : w.rowIs b 3 n (rowTo f n)) : Arr w b n n f := ⟨Nat.le_refl _, _, h, fun i hi => by unfold rowTo; rw [if_pos hi]⟩
end Arr

/-- A list that was made by append, with one number at least, is such a block. -/
theorem OwnI.arr {base : Nat} {w : World} {v : Value} {n : Nat} {f : Nat → Int} (h : OwnI base w v ((List.range n).map f)) (h1 : 1 ≤ n) :
    ∃ b c, v = .slice (some ⟨b, 0, none⟩) n c ∧ base ≤ b ∧ Arr w b c n f := by
  obtain ⟨hl, h2⟩ := h
  rcases h2 with ⟨_, hn⟩ | ⟨g, cap, cur, rfl, hg, hh, hle, _, hsz, hcur⟩
  · simp at hn; omega
  · simp only [List.length_map, List.length_range, Nat.mul_one] at hle hcur hsz ⊢
    refine ⟨g, cap, rfl, hg, hle, fun i => cur[i]?.getD default, ⟨cur, hh, hsz, fun i hi => ?_⟩, fun i hi => ?_⟩
    · show cur[i]? = some (cur[i]?.getD default)
      rw [Array.getElem?_eq_getElem (by omega)]; rfl
    · have h3 : (((List.range n).map f).map (Value.int .i64))[i]? = some (.int .i64 (f i)) := by simp [hi]
      rw [← hcur, List.getElem?_take_of_lt hi, Array.getElem?_toList] at h3
      show cur[i]?.getD default = _
      rw [h3]; rfl

end Go.Proofs.Ytfkalnehomgccaa.Fx

/- An append of one integer to a list that the program itself makes, and what it leaves of other blocks; no function of the program is spoken of. -/
namespace Go.Proofs.Ytfkalnehomgccaa.Fx
open Go.RowKit

section
variable {w' : World} {ops : Array Oper} {o : Oper} {a : Act} {Q : Exit → Act → World → Prop}

theorem run_append_at (ty : TypeId) (base : Nat) (v : Value) (xs : List Int) (z : Int) (g : Nat) (hown : OwnI base w' v xs) (hc : w'.cell? ⟨g, 0, none⟩ = some (.int .i64 z)) (hn : (xs.length + 1) * 8 ≤ 140737488355328) (hbase : base ≤ w'.heap.size) :
    ∃ v' w1, (Builtin.append_ #[22, 22] ty #[v, .slice (some ⟨g, 0, none⟩) 1 1]).run Try.prog w' = .ok v' w1 ∧ OwnI base w1 v' (xs ++ [z]) ∧ w'.grownBy w1 v.ownBlock ∧ (v'.ownBlock = v.ownBlock ∨ v'.ownBlock = some w'.heap.size) := by
  obtain ⟨i0, hi, hz0, hz1, hz2⟩ := info_parts info3
  obtain ⟨v', w1, hrun, h1, h2, _, h3⟩ := run_append_own_at (P := Try.prog) w' base 22 ty 3 i0 (.int .i64 0) 1 8 Try.underlying22 hi hz0 hz1 hz2 rfl (by decide) v xs.length _ hown ⟨g, 0, none⟩ 1 1 [.int .i64 z] rfl
    (by intro j u hj
        match j, hj with
        | 0, hj => simp at hj; subst hj; simpa [Addr.add] using hc)
    (by intro u hu; simp at hu; subst hu; rfl) (by unfold maxLen; omega) hn hbase
  exact ⟨v', w1, hrun, by unfold OwnI; rw [List.length_append, List.map_append]; exact h1, h2, h3⟩

theorem wpList_append_at {rest : List Oper} (hgd : o.guard = none) (s x : Operand) (ho : o.op = .call { callee := .builtin .append, args := #[s, x], argTypes := #[22, 22] })
    (base : Nat) (v : Value) (xs : List Int) (z : Int) (g : Nat) (hs : a.eval s = v) (hx : a.eval x = .slice (some ⟨g, 0, none⟩) 1 1) (hown : OwnI base w' v xs) (hc : w'.cell? ⟨g, 0, none⟩ = some (.int .i64 z)) (hn : (xs.length + 1) * 8 ≤ 140737488355328) (hbase : base ≤ w'.heap.size)
    (h : ∀ v' w1, OwnI base w1 v' (xs ++ [z]) → w'.grownBy w1 v.ownBlock → (v'.ownBlock = v.ownBlock ∨ v'.ownBlock = some w'.heap.size) → wpList Try.prog ops Q rest (a.put o.dst v') w1) : wpList Try.prog ops Q (o :: rest) a w' := by
  obtain ⟨v', w1, hrun, h1, h2, h3⟩ := run_append_at o.type base v xs z g hown hc hn hbase
  refine wpList_plain hgd fun K hK => ?_
  unfold Oper.wp
  simp [execOp, ho, resolve, invoke, builtin, hs, hx, hrun, Result.andThen]
  exact hK _ _ (h v' w1 h1 h2 h3)

theorem step_append_at {K : Act → World → Prop} {E : Prop} (hgd : o.guard = none) (s x : Operand) (ho : o.op = .call { callee := .builtin .append, args := #[s, x], argTypes := #[22, 22] })
    (base : Nat) (v : Value) (xs : List Int) (z : Int) (g : Nat) (hs : a.eval s = v) (hx : a.eval x = .slice (some ⟨g, 0, none⟩) 1 1) (hown : OwnI base w' v xs) (hc : w'.cell? ⟨g, 0, none⟩ = some (.int .i64 z)) (hn : (xs.length + 1) * 8 ≤ 140737488355328) (hbase : base ≤ w'.heap.size)
    (h : ∀ v' w1, OwnI base w1 v' (xs ++ [z]) → w'.grownBy w1 v.ownBlock → (v'.ownBlock = v.ownBlock ∨ v'.ownBlock = some w'.heap.size) → K (a.put o.dst v') w1) :
    if Region.wanted o (yielded ops a.tmps) = true then Oper.wp Try.prog o a w' K Q else E := by
  obtain ⟨v', w1, hrun, h1, h2, h3⟩ := run_append_at o.type base v xs z g hown hc hn hbase
  have hw : Region.wanted o (yielded ops a.tmps) = true := by simp [Region.wanted, hgd]
  rw [if_pos hw]
  unfold Oper.wp
  simp [execOp, ho, resolve, invoke, builtin, hs, hx, hrun, Result.andThen]
  exact h v' w1 h1 h2 h3
end

/-- Of two own slices: they don't lie in one block. -/
def Apart (x y : Value) : Prop := y.ownBlock = none ∨ y.ownBlock ≠ x.ownBlock
theorem Apart.symm {x y : Value} (h : Apart x y) : Apart y x := by
  unfold Apart at *
  rcases h with h | h
  · rw [h]
    cases e : x.ownBlock with
    | none => exact .inl rfl
    | some b => exact .inr (by simp)
  · exact .inr (fun e => h e.symm)
theorem OwnI.blk {base : Nat} {w : World} {y : Value} {xs : List Int} (h : OwnI base w y xs) : y.ownBlock = none ∨ ∃ g, y.ownBlock = some g ∧ base ≤ g ∧ g < w.heap.size := by
  rcases h.2 with ⟨rfl, _⟩ | ⟨g, cap, cur, rfl, hg, hh, _⟩
  · exact .inl rfl
  · exact .inr ⟨g, rfl, hg, (Array.getElem?_eq_some_iff.1 hh).1⟩
theorem OwnI.kept {base : Nat} {w w1 : World} {y : Value} {xs : List Int} {row : Option Nat} (h : OwnI base w y xs) (hg : w.grownBy w1 row) (hne : y.ownBlock = none ∨ y.ownBlock ≠ row) : OwnI base w1 y xs := World.ownsRow.kept h hg hne
theorem grown_trans {w w1 w2 : World} {row : Option Nat} {b : Nat} (h1 : w.grownBy w1 (some b)) (h2 : w1.grownBy w2 row) (hr : ∀ k, row = some k → w.heap.size ≤ k ∨ k = b) : w.grownBy w2 (some b) :=
  ⟨h2.os.trans h1.os, h2.tape.trans h1.tape, h2.output.trans h1.output, Nat.le_trans h1.size h2.size, fun k hk hne => by
    refine (h2.block k (Nat.lt_of_lt_of_le hk h1.size) (fun e => ?_)).trans (h1.block k hk hne)
    rcases hr k e.symm with h | h
    · omega
    · exact hne (by rw [h])⟩
theorem grown_below {w w1 w2 : World} {b : Nat} (h1 : w.grownBy w1 (some b)) (h2 : Below w1.heap.size w1 w2) : w.grownBy w2 (some b) :=
  ⟨h2.os.trans h1.os, h2.tape.trans h1.tape, h2.output.trans h1.output, Nat.le_trans h1.size h2.size, fun k hk hne => (h2.block k (Nat.lt_of_lt_of_le hk h1.size)).trans (h1.block k hk hne)⟩
theorem OwnI.at {base : Nat} {w : World} {a : Option Addr} {n c : Nat} {L : List Int} (h : OwnI base w (.slice a n c) L) (hl : L.length = n) (hn : 0 < n) : ∃ g, a = some ⟨g, 0, none⟩ ∧ base ≤ g ∧ Lst w (some ⟨g, 0, none⟩) n c L := by
  obtain ⟨a', c', e, hL⟩ := h.lst' hl
  simp only [Value.slice.injEq] at e
  obtain ⟨rfl, _, rfl⟩ := e
  rcases h.2 with ⟨hv, _⟩ | ⟨g, cap, cur, hv, hg, _⟩
  · simp only [Value.slice.injEq] at hv
    omega
  · simp only [Value.slice.injEq] at hv
    obtain ⟨rfl, _, _⟩ := hv
    exact ⟨g, rfl, hg, hL⟩
theorem grown1 {w w1 : World} {b : Nat} (h : w.grownBy w1 (some b)) (i : Nat) (v : Value) : w.grownBy (w1.setCell ⟨b, i, none⟩ v) (some b) :=
  ⟨h.os, h.tape, h.output, by simpa using h.size, fun k hk hne => (Go.Deep.blk_setCell_other _ _ _ _ (by simpa using hne)).trans (h.block k hk hne)⟩
theorem Lst.grown {w w' : World} {g off n c b : Nat} {xs : List Int} (h : Lst w (some ⟨g, off, none⟩) n c xs) (hg : w.grownBy w' (some b)) (hne : g ≠ b) : Lst w' (some ⟨g, off, none⟩) n c xs := by
  refine ⟨h.1, h.2.1, ?_⟩
  rcases h.2.2 with h0 | ⟨b', off', e, hs, hc⟩
  · exact .inl h0
  · simp only [Option.some.injEq, Addr.mk.injEq, and_true] at e
    obtain ⟨rfl, rfl⟩ := e
    exact .inr ⟨g, off, rfl, Nat.lt_of_lt_of_le hs hg.size, fun i hi => hg.cell (hc i hi) (by simpa using hne)⟩

theorem low_alloc (w : World) (o : Obj) : Below w.heap.size w (w.alloc o) := (Below.refl _ _).alloc (Nat.le_refl _) o
end Go.Proofs.Ytfkalnehomgccaa.Fx

/- One append of an integer to a list that the program itself makes, beside blocks of its own that stay as they are. -/
namespace Go.Proofs.Ytfkalnehomgccaa.Fx
open Go.RowKit

section
variable {w' W0 : World} {ops : Array Oper} {o : Oper} {a : Act} {Q : Exit → Act → World → Prop}

theorem run_append_far (ty : TypeId) (base : Nat) (v : Value) (xs : List Int) (z : Int) (g : Nat) (hown : OwnI base w' v xs) (hc : w'.cell? ⟨g, 0, none⟩ = some (.int .i64 z)) (hn : (xs.length + 1) * 8 ≤ 140737488355328) (hbase : base ≤ w'.heap.size) (hB : Below base W0 w') :
    ∃ v' w1, (Builtin.append_ #[22, 22] ty #[v, .slice (some ⟨g, 0, none⟩) 1 1]).run Try.prog w' = .ok v' w1 ∧ OwnI base w1 v' (xs ++ [z]) ∧ Below base W0 w1 ∧ w'.grownBy w1 v.ownBlock ∧ (v'.ownBlock = v.ownBlock ∨ v'.ownBlock = some w'.heap.size) := by
  obtain ⟨i0, hi, hz0, hz1, hz2⟩ := info_parts info3
  obtain ⟨v', w1, hrun, h1, h2, _, h3⟩ := run_append_own_at (P := Try.prog) w' base 22 ty 3 i0 (.int .i64 0) 1 8 Try.underlying22 hi hz0 hz1 hz2 rfl (by decide) v xs.length _ hown ⟨g, 0, none⟩ 1 1 [.int .i64 z] rfl
    (by intro j u hj
        match j, hj with
        | 0, hj => simp at hj; subst hj; simpa [Addr.add] using hc)
    (by intro u hu; simp at hu; subst hu; rfl) (by unfold maxLen; omega) hn hbase
  refine ⟨v', w1, hrun, by unfold OwnI; rw [List.length_append, List.map_append]; exact h1, hB.grown h2 hbase ?_, h2, h3⟩
  intro k hk
  rcases hown.2 with ⟨rfl, _⟩ | ⟨g', cap, cur, rfl, hg, _⟩
  · simp [Value.ownBlock] at hk
  · simp [Value.ownBlock] at hk; omega

theorem wpList_append_far {rest : List Oper} (hgd : o.guard = none) (s x : Operand) (ho : o.op = .call { callee := .builtin .append, args := #[s, x], argTypes := #[22, 22] })
    (base : Nat) (v : Value) (xs : List Int) (z : Int) (g : Nat) (W0 : World) (hs : a.eval s = v) (hx : a.eval x = .slice (some ⟨g, 0, none⟩) 1 1) (hown : OwnI base w' v xs) (hc : w'.cell? ⟨g, 0, none⟩ = some (.int .i64 z)) (hn : (xs.length + 1) * 8 ≤ 140737488355328) (hbase : base ≤ w'.heap.size) (hB : Below base W0 w')
    (h : ∀ v' w1, OwnI base w1 v' (xs ++ [z]) → Below base W0 w1 → w'.grownBy w1 v.ownBlock → (v'.ownBlock = v.ownBlock ∨ v'.ownBlock = some w'.heap.size) → wpList Try.prog ops Q rest (a.put o.dst v') w1) : wpList Try.prog ops Q (o :: rest) a w' := by
  obtain ⟨v', w1, hrun, h1, h2, h3, h4⟩ := run_append_far o.type base v xs z g hown hc hn hbase hB
  refine wpList_plain hgd fun K hK => ?_
  unfold Oper.wp
  simp [execOp, ho, resolve, invoke, builtin, hs, hx, hrun, Result.andThen]
  exact hK _ _ (h v' w1 h1 h2 h3 h4)
end

theorem OwnI.new {base : Nat} {w : World} {y : Value} {xs : List Int} (h : OwnI base w y xs) {b : Nat} (hb : w.heap.size ≤ b) : some b ≠ y.ownBlock := by
  rcases h.blk with e | ⟨g, e, _, hg⟩
  · rw [e]; simp
  · rw [e]; simp; omega
theorem Arr.grown {w w1 : World} {b c n : Nat} {f : Nat → Int} {row : Option Nat} (h : Arr w b c n f) (hg : w.grownBy w1 row) (hne : some b ≠ row) : Arr w1 b c n f := by
  have hlt := h.lt
  obtain ⟨hc, F, hr, hf⟩ := h
  exact ⟨hc, F, hr.of_block (hg.block b hlt hne), hf⟩

/-- The order that was made last, and of which epoch; it lies apart from the list that is made. -/
def LastIs (seed : Int) (n : Nat) (out last v : Value) (w : World) : Prop :=
  ∃ L : Int, last = .int .i64 L ∧ ∀ d : Nat, L = (d : Int) → ∃ b c, v = .slice (some ⟨b, 0, none⟩) n c ∧ some b ≠ out.ownBlock ∧ Arr w b c n (shufF seed d n)
theorem LastIs.none (seed : Int) (n : Nat) (out v : Value) (w : World) : LastIs seed n out (.int .i64 (-1)) v w := ⟨-1, rfl, fun d h => by omega⟩
theorem LastIs.one {seed : Int} {n b c d : Nat} {out : Value} {w : World} (hne : some b ≠ out.ownBlock) (h : Arr w b c n (shufF seed d n)) : LastIs seed n out (.int .i64 (d : Int)) (.slice (some ⟨b, 0, Option.none⟩) n c) w :=
  ⟨d, rfl, fun d' e => by
    obtain rfl : d' = d := by omega
    exact ⟨b, c, rfl, hne, h⟩⟩
/-- Behind an append to the list beside it. -/
theorem LastIs.push {seed : Int} {n b c d : Nat} {out out1 : Value} {w w1 : World} (hne : some b ≠ out.ownBlock) (h : Arr w b c n (shufF seed d n)) (hg : w.grownBy w1 out.ownBlock) (h3 : out1.ownBlock = out.ownBlock ∨ out1.ownBlock = some w.heap.size) :
    LastIs seed n out1 (.int .i64 (d : Int)) (.slice (some ⟨b, 0, Option.none⟩) n c) w1 := by
  refine LastIs.one ?_ (h.grown hg hne)
  rcases h3 with e | e
  · rw [e]; exact hne
  · rw [e]
    have := h.lt
    simp
    omega

end Go.Proofs.Ytfkalnehomgccaa.Fx

/- An append of a whole list of integers to one that the program itself makes; and what slices.Clone returns. -/
namespace Go.Proofs.Ytfkalnehomgccaa.Fx
open Go.RowKit

section
variable {w' W0 : World} {ops : Array Oper} {o : Oper} {a : Act} {Q : Exit → Act → World → Prop}

theorem run_append_all (ty : TypeId) (base : Nat) (v : Value) (xs zs : List Int) (b off m c : Nat) (hown : OwnI base w' v xs) (hz : Lst w' (some ⟨b, off, none⟩) m c zs) (hn : (xs.length + m) * 8 ≤ 140737488355328) (hbase : base ≤ w'.heap.size) (hB : Below base W0 w') :
    ∃ v' w1, (Builtin.append_ #[22, 22] ty #[v, .slice (some ⟨b, off, none⟩) m c]).run Try.prog w' = .ok v' w1 ∧ OwnI base w1 v' (xs ++ zs) ∧ Below base W0 w1 := by
  obtain ⟨i0, hi, hz0, hz1, hz2⟩ := info_parts info3
  have hzl := hz.len
  obtain ⟨v', w1, hrun, h1, h2, _, _⟩ := run_append_own_at (P := Try.prog) w' base 22 ty 3 i0 (.int .i64 0) 1 8 Try.underlying22 hi hz0 hz1 hz2 rfl (by decide) v xs.length _ hown ⟨b, off, none⟩ m c (zs.map (Value.int .i64)) (by simp [hzl])
    (by intro j u hj
        have hjm : j < m := by
          have := (List.getElem?_eq_some_iff.1 hj).1
          simpa [hzl] using this
        obtain ⟨b1, o1, e, _, hc⟩ := hz.at (by omega)
        simp only [Option.some.injEq, Addr.mk.injEq, and_true] at e
        obtain ⟨rfl, rfl⟩ := e
        rw [getD_map_int zs j (by omega)] at hj
        rw [Go.WideShapes.add_plain, hc j hjm]
        exact hj)
    (by intro u hu; obtain ⟨x, _, rfl⟩ := List.mem_map.1 hu; rfl) (by unfold maxLen; omega) hn hbase
  refine ⟨v', w1, hrun, by unfold OwnI; rw [List.length_append, List.map_append, hzl]; exact h1, hB.grown h2 hbase ?_⟩
  intro k hk
  rcases hown.2 with ⟨rfl, _⟩ | ⟨g', cap, cur, rfl, hg, _⟩
  · simp [Value.ownBlock] at hk
  · simp [Value.ownBlock] at hk; omega

theorem wpList_append_all {rest : List Oper} (hgd : o.guard = none) (s x : Operand) (ho : o.op = .call { callee := .builtin .append, args := #[s, x], argTypes := #[22, 22] })
    (base : Nat) (v : Value) (xs zs : List Int) (b off m c : Nat) (W0 : World) (hs : a.eval s = v) (hx : a.eval x = .slice (some ⟨b, off, none⟩) m c) (hown : OwnI base w' v xs) (hz : Lst w' (some ⟨b, off, none⟩) m c zs) (hn : (xs.length + m) * 8 ≤ 140737488355328) (hbase : base ≤ w'.heap.size) (hB : Below base W0 w')
    (h : ∀ v' w1, OwnI base w1 v' (xs ++ zs) → Below base W0 w1 → wpList Try.prog ops Q rest (a.put o.dst v') w1) : wpList Try.prog ops Q (o :: rest) a w' := by
  obtain ⟨v', w1, hrun, h1, h2⟩ := run_append_all o.type base v xs zs b off m c hown hz hn hbase hB
  refine wpList_plain hgd fun K hK => ?_
  unfold Oper.wp
  simp [execOp, ho, resolve, invoke, builtin, hs, hx, hrun, Result.andThen]
  exact hK _ _ (h v' w1 h1 h2)
end

theorem OwnI.empty (w : World) : OwnI w.heap.size (w.alloc (.cells #[] 3)) (.slice (some ⟨w.heap.size, 0, none⟩) 0 0) [] :=
  ⟨rfl, .inr ⟨w.heap.size, 0, #[], rfl, Nat.le_refl _, Go.Deep.blk_alloc_new _ _, Nat.le_refl _, Nat.zero_le _, rfl, rfl⟩⟩

set_option maxRecDepth 100000 in
theorem clone_calls (b off n c : Nat) (f : Nat → Int) (w : World) (h : Lst w (some ⟨b, off, none⟩) n c ((List.range n).map f)) (h1 : 1 ≤ n) (h2 : n ≤ 16) :
    Calls Try.prog 5 #[.slice (some ⟨b, off, none⟩) n c] w fun e w' => ∃ b' c', e = .returned (.slice (some ⟨b', 0, none⟩) n c') ∧ w.heap.size ≤ b' ∧ Arr w' b' c' n f ∧ Below w.heap.size w w' := by
  have hb := (Below.refl w.heap.size w).alloc (Nat.le_refl _) (.cells #[] 3)
  have hl := h.below hb (Nat.le_refl _)
  have q22 : ∀ (w : World) (a : Option Addr) (n c n' c' : Nat), (binOp .eql 22 (.slice a n c) (.slice none n' c')).run Try.prog w = .ok (.bool a.isNone) w := fun w a n c n' c' => Lib.run_eql_slice_nil w _ _ a n c n' c' Try.underlying22
  go_enter Try.func5, Try.ntmps5
  go_wp2_with (at_builtin; refine wpList_append_all (by rfl) _ _ (by rfl) w.heap.size _ [] ((List.range n).map f) b off n c w (by rfl) (by rfl) (by exact OwnI.empty w) (by exact hl) (by simp; omega) (by simp) (by exact hb) ?_; intro v1 w1 hown1 hbel1)
  obtain ⟨b', c', rfl, hb', hA⟩ := OwnI.arr hown1 h1
  go_wp2
  go_ret
  exact ⟨_, _, rfl, hb', hA, hbel1⟩

end Go.Proofs.Ytfkalnehomgccaa.Fx

/- An append of a whole list of integers, which may be empty, to one that the program itself makes. -/
namespace Go.Proofs.Ytfkalnehomgccaa.Fx
open Go.RowKit

section
variable {w' W0 : World} {ops : Array Oper} {o : Oper} {a : Act} {Q : Exit → Act → World → Prop}
theorem run_append_zero (w' : World) (ty : TypeId) (base src : Option Addr) (l c d : Nat) (hle : l ≤ c) : (Builtin.append_ #[22, 22] ty #[.slice base l c, .slice src 0 d]).run Try.prog w' = .ok (.slice base l c) w' := by
  obtain ⟨i0, hi, _⟩ := info_parts info3
  cases base <;> cases src <;> simp [Builtin.append_, run_underlying Try.underlying22, sizeOf, typeInfo, hi, Builtin.lenOf, Builtin.firstCells, hle, storeCells, loadCells, loadCellsFrom]
theorem run_append_any (ty : TypeId) (base : Nat) (v : Value) (xs zs : List Int) (src : Option Addr) (m c : Nat) (hown : OwnI base w' v xs) (hz : Lst w' src m c zs) (hn : (xs.length + m) * 8 ≤ 140737488355328) (hbase : base ≤ w'.heap.size) (hB : Below base W0 w') :
    ∃ v' w1, (Builtin.append_ #[22, 22] ty #[v, .slice src m c]).run Try.prog w' = .ok v' w1 ∧ OwnI base w1 v' (xs ++ zs) ∧ Below base W0 w1 := by
  by_cases h0 : m = 0
  · subst h0
    have hz0 : zs = [] := List.length_eq_zero_iff.1 hz.len
    subst hz0
    obtain ⟨av, cv, hv, lv⟩ := hown.lst
    refine ⟨v, w', ?_, by rw [List.append_nil]; exact hown, hB⟩
    rw [hv]
    exact run_append_zero w' ty av src xs.length cv c lv.cap
  · obtain ⟨b, off, rfl, _, _⟩ := hz.at (by omega)
    exact run_append_all ty base v xs zs b off m c hown hz hn hbase hB

theorem step_append_any {K : Act → World → Prop} {E : Prop} (hgd : o.guard = none) (s x : Operand) (ho : o.op = .call { callee := .builtin .append, args := #[s, x], argTypes := #[22, 22] })
    (base : Nat) (v : Value) (xs zs : List Int) (src : Option Addr) (m c : Nat) (W0 : World) (hs : a.eval s = v) (hx : a.eval x = .slice src m c) (hown : OwnI base w' v xs) (hz : Lst w' src m c zs) (hn : (xs.length + m) * 8 ≤ 140737488355328) (hbase : base ≤ w'.heap.size) (hB : Below base W0 w')
    (h : ∀ v' w1, OwnI base w1 v' (xs ++ zs) → Below base W0 w1 → K (a.put o.dst v') w1) :
    if Region.wanted o (yielded ops a.tmps) = true then Oper.wp Try.prog o a w' K Q else E := by
  obtain ⟨v', w1, hrun, h1, h2⟩ := run_append_any o.type base v xs zs src m c hown hz hn hbase hB
  have hw : Region.wanted o (yielded ops a.tmps) = true := by simp [Region.wanted, hgd]
  rw [if_pos hw]
  unfold Oper.wp
  simp [execOp, ho, resolve, invoke, builtin, hs, hx, hrun, Result.andThen]
  exact h v' w1 h1 h2
theorem wpList_append_any {rest : List Oper} (hgd : o.guard = none) (s x : Operand) (ho : o.op = .call { callee := .builtin .append, args := #[s, x], argTypes := #[22, 22] })
    (base : Nat) (v : Value) (xs zs : List Int) (src : Option Addr) (m c : Nat) (W0 : World) (hs : a.eval s = v) (hx : a.eval x = .slice src m c) (hown : OwnI base w' v xs) (hz : Lst w' src m c zs) (hn : (xs.length + m) * 8 ≤ 140737488355328) (hbase : base ≤ w'.heap.size) (hB : Below base W0 w')
    (h : ∀ v' w1, OwnI base w1 v' (xs ++ zs) → Below base W0 w1 → wpList Try.prog ops Q rest (a.put o.dst v') w1) : wpList Try.prog ops Q (o :: rest) a w' := by
  obtain ⟨v', w1, hrun, h1, h2⟩ := run_append_any o.type base v xs zs src m c hown hz hn hbase hB
  refine wpList_plain hgd fun K hK => ?_
  unfold Oper.wp
  simp [execOp, ho, resolve, invoke, builtin, hs, hx, hrun, Result.andThen]
  exact hK _ _ (h v' w1 h1 h2)
end
end Go.Proofs.Ytfkalnehomgccaa.Fx

/- What slices.Grow (of nil) and slices.Concat return, of lists that may be empty. -/
namespace Go.Proofs.Ytfkalnehomgccaa.Fx
open Go.RowKit

theorem grow_any (n : Nat) (w : World) (h1 : n ≤ 1000) :
    Calls Try.prog 35 #[.slice none 0 0, .int .i64 n] w fun e w' => ∃ v, e = .returned v ∧ OwnI w.heap.size w' v [] ∧ Below w.heap.size w w' := by
  by_cases h0 : 0 < n
  · exact grow_calls n w h0 h1
  · have hz : ¬ (n : Int) > 0 := by omega
    have hz2 : ¬ (n : Int) < 0 := by omega
    have hz3 : ¬ 0 < n := h0
    go_enter Try.func35, Try.ntmps35
    go_wp2
    go_ret
    exact ⟨_, rfl, OwnI.nil _ _, Below.refl _ _⟩

set_option maxHeartbeats 1600000 in
theorem concat_any (n : Nat) (A : Nat → Option Addr) (L C : Nat → Nat) (X : Nat → List Int) (b : Nat) (w : World) (hb : b < w.heap.size) (hn0 : 0 < n) (hn : n ≤ 1000) (hc : ∀ i, i < n → w.cell? ⟨b, i, none⟩ = some (.slice (A i) (L i) (C i)))
    (hl : ∀ i, i < n → Lst w (A i) (L i) (C i) (X i)) (hs : lenTo L n ≤ 1000) :
    Calls Try.prog 23 #[.slice (some ⟨b, 0, none⟩) n n] w fun e w' => ∃ v, e = .returned v ∧ OwnI w.heap.size w' v (catTo X n) ∧ Below w.heap.size w w' := by
  have HC : Hid (∀ i, i < n → w.cell? ⟨b, i, none⟩ = some (.slice (A i) (L i) (C i))) := hc
  have HL : Hid (∀ i, i < n → Lst w (A i) (L i) (C i) (X i)) := hl
  clear hc hl
  go_enter Try.func23, Try.ntmps23
  go_wp2
  go_loopw [3, 11] (fun s i wr => ∃ k : Nat, k ≤ n ∧ i = .int .i64 k ∧ s = .int .i64 (lenTo L k) ∧ wr = w) (fun _ i _ => n - (intOf i).toNat)
  case atStart => exact ⟨0, Nat.zero_le _, rfl, rfl, rfl⟩
  case round =>
    obtain ⟨k, hk, rfl, rfl, hw⟩ := hrel
    replace hw := hw.symm
    subst hw
    by_cases hlt : k < n
    · have c := HC.out k hlt
      have b1 := lenTo_le L (k := k + 1) (n := n) (by omega)
      have b2 : lenTo L (k + 1) = lenTo L k + L k := rfl
      obtain ⟨l, hl⟩ : ∃ l, Hid (L k = l) := ⟨_, rfl⟩
      obtain ⟨T, hT⟩ : ∃ T, Hid (lenTo L k = T) := ⟨_, rfl⟩
      rw [hl.out] at c b2
      rw [hT.out] at b2
      have b3 : T + l ≤ 1000 := by omega
      rw [hT.out]
      clear b1 b2
      go_wp2
      go_roundw
      case rel => exact ⟨k + 1, by omega, by go_num, by rw [lenTo, hT.out, hl.out]; go_num, by trivial⟩
      case measure => simp [intOf]; omega
    · obtain rfl : k = n := by omega
      obtain ⟨T, hT⟩ : ∃ T, Hid (lenTo L k = T) := ⟨_, rfl⟩
      have HS : Hid (lenTo L k ≤ 1000) := hs
      rw [hT.out] at hs ⊢
      go_wp2_with fail
      refine (grow_any T _ hs).mono ?_
      rintro e w1 ⟨v0, rfl, hown, hw1⟩
      go_wp2
      go_loopw [6, 27] (fun v i wr => ∃ j : Nat, j ≤ k ∧ i = .int .i64 j ∧ OwnI w.heap.size wr v (catTo X j) ∧ Below w.heap.size w wr) (fun _ i _ => k - (intOf i).toNat)
      case atStart => exact ⟨0, Nat.zero_le _, rfl, hown, hw1⟩
      case round =>
        obtain ⟨j, hj, rfl, hown, hbel⟩ := hrel
        have hsz := hbel.size
        by_cases hlt2 : j < k
        · have c := (hbel.cell (p := ⟨b, j, none⟩) (by exact hb)).trans (HC.out j hlt2)
          have hx := (HL.out j hlt2).below hbel (Nat.le_refl _)
          have hlen : (catTo X j).length + L j ≤ 1000 := by
            rw [catTo_len X L j (fun i hi => (HL.out i (by omega)).len)]
            have b1 := lenTo_le L (k := j + 1) (n := k) (by omega)
            have b2 : lenTo L (j + 1) = lenTo L j + L j := rfl
            have := HS.out
            omega
          obtain ⟨l, hl⟩ : ∃ l, Hid (L j = l) := ⟨_, rfl⟩
          rw [hl.out] at c hx hlen
          go_wp2_with (at_builtin; refine wpList_append_any (by rfl) _ _ (by rfl) w.heap.size _ (catTo X j) (X j) (A j) l (C j) w (by rfl) (by rfl) (by exact hown) (by exact hx) (by omega) (by exact hsz) (by exact hbel) ?_; intro v1 w3 hown1 hbel1)
          go_roundw
          case rel => exact ⟨j + 1, by omega, by go_num, hown1, hbel1⟩
          case measure => simp [intOf]; omega
        · obtain rfl : j = k := by omega
          go_wp2
          go_ret
          exact ⟨_, rfl, hown, hbel⟩

def two {α : Type} (x0 x1 : α) (i : Nat) : α := if i = 0 then x0 else x1
theorem lt_two {i : Nat} (h : i < 2) : i = 0 ∨ i = 1 := by omega

theorem concat2 (a0 a1 : Option Addr) (l0 l1 c0 c1 : Nat) (x0 x1 : List Int) (g : Nat) (w : World) (hg : g = w.heap.size) (h0 : Lst w a0 l0 c0 x0) (h1 : Lst w a1 l1 c1 x1) (hs : l0 + l1 ≤ 1000) :
    Calls Try.prog 23 #[.slice (some ⟨g, 0, none⟩) 2 2] (w.alloc (.cells #[.slice a0 l0 c0, .slice a1 l1 c1] 22)) fun e w' => ∃ a c, e = .returned (.slice a (l0 + l1) c) ∧ Lst w' a (l0 + l1) c (x0 ++ x1) ∧ Below w.heap.size w w' := by
  subst hg
  have hal := (Below.refl w.heap.size w).alloc (Nat.le_refl _) (.cells #[.slice a0 l0 c0, .slice a1 l1 c1] 22)
  have hr := World.rowIs_alloc w #[.slice a0 l0 c0, .slice a1 l1 c1] 22 (fun i => .slice (two a0 a1 i) (two l0 l1 i) (two c0 c1 i)) (by
    intro i hi
    rcases lt_two hi with rfl | rfl <;> rfl)
  refine (concat_any 2 (two a0 a1) (two l0 l1) (two c0 c1) (two x0 x1) w.heap.size _ (by simp) (by omega) (by omega) (fun i hi => hr.cell hi) ?_ ?_).mono ?_
  · intro i hi
    rcases lt_two hi with rfl | rfl
    · exact h0.below hal (Nat.le_refl _)
    · exact h1.below hal (Nat.le_refl _)
  · show 0 + l0 + l1 ≤ 1000
    omega
  · rintro e w' ⟨v, rfl, hown, hb⟩
    have e1 : catTo (two x0 x1) 2 = x0 ++ x1 := by
      show ([] ++ x0) ++ x1 = _
      simp
    rw [e1] at hown
    have e2 : (x0 ++ x1).length = l0 + l1 := by rw [List.length_append, h0.len, h1.len]
    obtain ⟨a, c, rfl, hl⟩ := hown.lst
    rw [e2] at hl ⊢
    exact ⟨a, c, rfl, hl, hal.trans (hb.mono hal.size)⟩
end Go.Proofs.Ytfkalnehomgccaa.Fx

/- What slices.Clone returns of whatever list of integers, nil and the empty one too. -/
namespace Go.Proofs.Ytfkalnehomgccaa.Fx
open Go.RowKit

set_option maxRecDepth 100000 in
theorem cloneI_any (a : Option Addr) (n c : Nat) (xs : List Int) (w : World) (h : Lst w a n c xs) (hn : n ≤ 1048576) :
    Calls Try.prog 5 #[.slice a n c] w fun e w' => ∃ v, e = .returned v ∧ OwnI w.heap.size w' v xs ∧ Below w.heap.size w w' := by
  have q22 : ∀ (w : World) (a : Option Addr) (n c n' c' : Nat), (binOp .eql 22 (.slice a n c) (.slice none n' c')).run Try.prog w = .ok (.bool a.isNone) w := fun w a n c n' c' => Lib.run_eql_slice_nil w _ _ a n c n' c' Try.underlying22
  have hlen := h.len
  cases a with
  | none =>
    have h0 : xs = [] := by
      rcases h.2.2 with h0 | ⟨b, off, e, _⟩
      · exact List.length_eq_zero_iff.1 (by omega)
      · cases e
    subst h0
    clear h
    go_enter Try.func5, Try.ntmps5
    go_wp2_with fail
    go_ret
    exact ⟨_, rfl, OwnI.nil _ _, Below.refl _ _⟩
  | some ad =>
    have hb := (Below.refl w.heap.size w).alloc (Nat.le_refl _) (.cells #[] 3)
    have hl := h.below hb (Nat.le_refl _)
    clear h
    go_enter Try.func5, Try.ntmps5
    go_wp2_with (at_builtin; refine wpList_append_any (by rfl) _ _ (by rfl) w.heap.size _ [] xs (some ad) n c w (by rfl) (by rfl) (by exact OwnI.empty w) (by exact hl) (by simp; omega) (by simp) (by exact hb) ?_; intro v1 w1 hown1 hbel1)
    have hown2 : OwnI w.heap.size w1 v1 xs := by simpa using hown1
    clear hown1
    go_ret
    exact ⟨_, rfl, hown2, hbel1⟩
end Go.Proofs.Ytfkalnehomgccaa.Fx

/- What spot.Chunk returns, whatever is handed in: what it tells lies in blocks of its own. -/
namespace Go.Proofs.Ytfkalnehomgccaa.Fx
open Go.RowKit

theorem OwnI.mono {base base' : Nat} {w : World} {v : Value} {xs : List Int} (h : OwnI base w v xs) (hb : base' ≤ base) : OwnI base' w v xs :=
  ⟨h.1, h.2.imp id fun ⟨g, cap, cur, h1, h2, h3⟩ => ⟨g, cap, cur, h1, Nat.le_trans hb h2, h3⟩⟩

set_option maxRecDepth 100000 in
set_option maxHeartbeats 800000 in
theorem chunk_own (a1 : Option Addr) (n1 k1 : Nat) (ws : List Int) (a2 : Option Addr) (n2 k2 : Nat) (ms : List Int) (i : Int) (w : World) (l1 : Lst w a1 n1 k1 ws) (l2 : Lst w a2 n2 k2 ms) (hz : n1 + n2 ≤ 4611686018427387904) :
    Calls Try.prog 8 #[.agg #[.slice a1 n1 k1, .slice a2 n2 k2], .int .i64 i] w fun e w' => ∃ v b2 m2 d2, e = .returned (.tuple #[v, .slice b2 m2 d2, .int .i64 (errP i (n1 + n2))]) ∧ m2 ≤ 50 ∧ OwnI w.heap.size w' v (ckP (ws ++ ms) (n1 + n2) i) ∧ LstW w' b2 m2 d2 (wayL (ws ++ ms) (n1 + n2) i) ∧ Below w.heap.size w w' := by
  have hal := low_alloc w (.cells #[.slice a1 n1 k1, .slice a2 n2 k2] 24)
  obtain ⟨c0, c1⟩ := two_cells w (.slice a1 n1 k1) (.slice a2 n2 k2) 24
  have l1' := l1.below hal (Nat.le_refl _)
  have l2' := l2.below hal (Nat.le_refl _)
  have hlen : (ws ++ ms).length = n1 + n2 := by rw [List.length_append, l1.len, l2.len]
  by_cases h : 200 < n1 + n2
  · have hE : errP i (n1 + n2) = 2 := by unfold errP errL; rw [if_pos (.inr h), if_neg (by omega), if_pos h]
    have hC : ckP (ws ++ ms) (n1 + n2) i = [] := by unfold ckP; rw [hE, if_neg (by decide)]
    have hW : wayL (ws ++ ms) (n1 + n2) i = [] := by unfold wayL; rw [if_neg (fun g => g.1 (.inr h))]
    rw [hE, hC, hW]
    have h1 : (n1 : Int) + (n2 : Int) > 200 := by omega
    clear l1 l2 l1' l2' hE hC hW hlen
    go_enter Try.func8, Try.ntmps8
    go_wp2_with fail
    go_ret3
    exact ⟨_, none, 0, 0, rfl, by omega, OwnI.nil _ _, LstW.nil _ _ _, hal⟩
  · have h1 : ¬ (n1 : Int) + (n2 : Int) > 200 := by omega
    have hsz := hal.size
    obtain ⟨W, HW⟩ : ∃ q, Hid (q = w.alloc (.cells #[.slice a1 n1 k1, .slice a2 n2 k2] 24)) := ⟨_, rfl⟩
    rw [← HW.out] at hal c0 c1 l1' l2' hsz
    have CC : Hid (Calls Try.prog 23 #[.slice (some ⟨W.heap.size, 0, none⟩) 2 2] (W.alloc (.cells #[.slice a1 n1 k1, .slice a2 n2 k2] 22)) fun e w' => ∃ a c, e = .returned (.slice a (n1 + n2) c) ∧ Lst w' a (n1 + n2) c (ws ++ ms) ∧ Below W.heap.size W w') := concat2 a1 a2 n1 n2 k1 k2 ws ms _ _ rfl l1' l2' (by omega)
    clear l1 l2 l1' l2'
    generalize ws ++ ms = L at *
    by_cases hE : errP i (n1 + n2) = 0
    rotate_left
    · have hne : (errP i (n1 + n2) != 0) = true := by rw [bne_iff_ne]; exact hE
      have hC : ckP L (n1 + n2) i = [] := by unfold ckP; rw [if_neg hE]
      have hW : wayL L (n1 + n2) i = [] := by
        unfold wayL
        rw [if_neg]
        intro g
        apply hE
        unfold errP
        rw [if_neg g.1, if_pos g.2]
      have HPA : Hid (∀ a c q, Lst q a (n1 + n2) c L → Calls Try.prog 24 #[.slice a (n1 + n2 : Nat) c, .int .i64 i] q fun e w' => ∃ a' N c', e = .returned (.tuple #[.slice a' N c', .int .i64 (errP i (n1 + n2))]) ∧ Below q.heap.size q w') := fun a c q hl => by
        refine (Path_calls a (n1 + n2) c L i q hl).mono ?_
        rintro e w' ⟨a', N, c', he, _, _, hb⟩
        exact ⟨a', N, c', he, hb⟩
      rw [hC, hW]
      clear hC hW hE
      generalize errP i (n1 + n2) = E at *
      go_enter Try.func8, Try.ntmps8
      go_upto_region 1 with fail
      rw [← HW.out]
      clear HW
      go_wp2_with fail
      refine CC.out.mono ?_
      rintro e w1 ⟨a, c, rfl, hl, hw1⟩
      have PA := HPA.out a c w1 hl
      have hbw1 := hal.trans (hw1.mono hal.size)
      clear c0 c1 CC HPA
      go_wp2_with fail
      refine PA.mono ?_
      rintro e w2 ⟨a', m, c', rfl, hw2⟩
      go_wp2_with fail
      go_ret3
      exact ⟨_, none, 0, 0, rfl, by omega, OwnI.nil _ _, LstW.nil _ _ _, hbw1.trans (hw2.mono hbw1.size)⟩
    · obtain ⟨g1, g2, g3, g4⟩ : 1 ≤ n1 + n2 ∧ n1 + n2 ≤ 200 ∧ 0 ≤ i ∧ i < ((n1 + n2 + 3) / 4 : Nat) := by
        unfold errP at hE
        by_cases x1 : n1 + n2 = 0 ∨ 200 < n1 + n2
        · rw [if_pos x1] at hE
          unfold errL at hE
          rcases x1 with x1 | x1
          · rw [if_pos x1] at hE; cases hE
          · rw [if_neg (by omega), if_pos x1] at hE; cases hE
        · rw [if_neg x1] at hE
          by_cases x2 : 0 ≤ i ∧ i < ((n1 + n2 + 3) / 4 : Nat)
          · exact ⟨by omega, by omega, x2.1, x2.2⟩
          · rw [if_neg x2] at hE; cases hE
      have hC : ckP L (n1 + n2) i = partL L (n1 + n2) i.toNat := by unfold ckP; rw [if_pos hE]
      have HPA : Hid (∀ a c q, Lst q a (n1 + n2) c L → Calls Try.prog 24 #[.slice a (n1 + n2 : Nat) c, .int .i64 i] q fun e w' => ∃ a' N c', e = .returned (.tuple #[.slice a' N c', .int .i64 0]) ∧ N ≤ 50 ∧ LstW w' a' N c' (wayL L (n1 + n2) i) ∧ Below q.heap.size q w') := fun a c q hl => by
        have h := Path_calls a (n1 + n2) c L i q hl
        rw [hE] at h
        exact h
      rw [hE, hC]
      clear hC hE
      obtain ⟨k, hk⟩ := Int.eq_ofNat_of_zero_le g3
      subst hk
      have hT : (k : Int).toNat = k := rfl
      rw [hT]
      clear hT
      obtain ⟨hi, hhi⟩ : ∃ hi, hiN (n1 + n2) k = hi := ⟨_, rfl⟩
      have hh : k * 4 < hi ∧ hi ≤ n1 + n2 ∧ hi ≤ k * 4 + 4 := by unfold hiN at hhi; omega
      have HSB : Hid (∀ b off c q, Lst q (some ⟨b, off, none⟩) (n1 + n2) c L → Lst q (some ⟨b, off + k * 4, none⟩) (hi - k * 4) (c - k * 4) (partL L (n1 + n2) k)) := fun b off c q hl => by
        have h := hl.sub (by omega) (k * 4) hi (Nat.le_of_lt hh.1) hh.2.1
        unfold partL
        rw [hhi]
        exact h
      have SZ := fun q => size_calls ((n1 + n2 : Nat) : Int) k ⟨by omega, by omega⟩ ⟨by omega, by omega⟩ q
      have hmin : min 4 (((n1 + n2 : Nat) : Int) - 4 * (k : Int)) = ((hi - k * 4 : Nat) : Int) := by unfold hiN at hhi; omega
      rw [hmin] at SZ
      have HSZ : Hid (∀ q, Calls Try.prog 25 #[.int .i64 (n1 + n2 : Nat), .int .i64 k] q fun e w' => e = .returned (.int .i64 ((hi - k * 4 : Nat) : Int)) ∧ w' = q) := SZ
      generalize partL L (n1 + n2) k = PL at *
      generalize wayL L (n1 + n2) (k : Int) = WL at *
      obtain ⟨d, hd⟩ : ∃ d, hi - k * 4 = d := ⟨_, rfl⟩
      rw [hd] at HSB HSZ
      have hkd : k * 4 + d = hi := by omega
      have hk50 : (k : Int) ≤ 50 := by omega
      have hd4 : d ≤ 4 := by omega
      have x1 : (k : Int) * 4 ≤ (k : Int) * 4 + (d : Int) := by omega
      obtain ⟨N, HN⟩ : ∃ q, Hid (n1 + n2 = q) := ⟨_, rfl⟩
      rw [HN.out] at CC HPA HSB HSZ hh
      have hkN : k * 4 + d ≤ N := by omega
      have hN1 : 1 ≤ N := by have := HN.out; omega
      clear SZ hmin hhi HN hd
      go_enter Try.func8, Try.ntmps8
      go_upto_region 1 with fail
      rw [← HW.out]
      clear HW
      go_wp2_with fail
      refine CC.out.mono ?_
      rintro e w1 ⟨a, c, rfl, hl, hw1⟩
      have PA := HPA.out a c w1 hl
      have hbw1 := hal.trans (hw1.mono hal.size)
      clear c0 c1 CC HPA
      go_wp2_with fail
      refine PA.mono ?_
      rintro e w2 ⟨a', m, c', rfl, hm, lp, hw2⟩
      obtain ⟨b, off, rfl, _⟩ := hl.at (by omega)
      have hNc := hl.cap
      have SZ1 := HSZ.out w2
      have hsub := (HSB.out b off c w1 hl).below hw2 (Nat.le_refl _)
      have CL := cloneI_any _ _ _ _ w2 hsub (by omega)
      have y1 : (k : Int) * 4 + (d : Int) ≤ (c : Int) := by omega
      have y2 : (0 : Int) ≤ (k : Int) * 4 := by omega
      have hdd : k * 4 + d - k * 4 = d := by omega
      have hck : ¬ c = k * 4 := by omega
      have hck2 : ¬ c - k * 4 = 0 := by omega
      clear HSB HSZ hsub PA hkd hh
      go_wp2_with fail
      refine SZ1.mono ?_
      rintro e w3 ⟨rfl, hw3⟩
      replace hw3 := hw3.symm
      subst hw3
      go_wp2_with fail
      refine CL.mono ?_
      rintro e w4 ⟨v, rfl, hv, hw4⟩
      have hbw2 := hbw1.trans (hw2.mono hbw1.size)
      have hv2 : OwnI w.heap.size w4 v PL := hv.mono hbw2.size
      go_wp2_with fail
      go_ret3
      exact ⟨v, a', m, c', rfl, hm, hv2, lp.below hw4 (Nat.le_refl _), hbw2.trans (hw4.mono hbw2.size)⟩

theorem chunk_says : ChunkSays := by
  intro a1 n1 k1 ws a2 n2 k2 ms i w l1 l2 hz
  refine (chunk_own a1 n1 k1 ws a2 n2 k2 ms i w l1 l2 (by omega)).mono ?_
  rintro e w' ⟨v, b2, m2, d2, rfl, hm, hv, lp, hb⟩
  obtain ⟨b1, d1, rfl, l⟩ := hv.lst
  refine ⟨b1, _, d1, b2, m2, d2, rfl, ?_, by omega, l, lp, hb⟩
  unfold ckP
  split
  · unfold partL
    rw [List.length_take, hiN]
    omega
  · simp
end Go.Proofs.Ytfkalnehomgccaa.Fx

/- What spot.Opens returns, whatever is handed in. -/
namespace Go.Proofs.Ytfkalnehomgccaa.Fx
open Go.RowKit

set_option maxRecDepth 100000 in
set_option maxHeartbeats 800000 in
theorem opens_says : OpensSays := by
  intro root n i a m c xs b p d ps w hrt hn hi lx lp hok hm hp
  have HCL : Hid (∀ x q, okW x → Below w.heap.size w q → Calls Try.prog 26 #[.int .i64 i, .int .i64 n, .int .u64 x, .slice b p d] q fun e w' => e = .returned (.tuple #[.int .u64 (upL i n x ps p), .int .i64 (errC i n p)]) ∧ Below q.heap.size q w') := fun x q hx hq => Climb_calls i n x b p d ps q hx (lp.below hq (Nat.le_refl _)) hok
  have C0 := HCL.out 0 w ⟨by omega, by omega⟩ (Below.refl _ _)
  by_cases hE : errC i n p = 0
  rotate_left
  · have hO : opE n i m p = errC i n p := by unfold opE; rw [if_neg hE]
    have hB : opB root n i m xs p ps = false := by unfold opB; rw [hO, if_neg hE]
    rw [hO, hB]
    have hne : (errC i n p != 0) = true := by rw [bne_iff_ne]; exact hE
    generalize errC i n p = E at *
    clear hE hO hB lx lp HCL
    go_enter Try.func15, Try.ntmps15
    go_wp2_with fail
    refine C0.mono ?_
    rintro e w1 ⟨rfl, hw1⟩
    go_wp2_with fail
    go_ret2
    exact ⟨rfl, hw1⟩
  · obtain ⟨⟨g1, g2, g3, g4⟩, g5⟩ : okC i n ∧ p = dpC i n := by
      unfold errC at hE
      split at hE
      · rename_i h1
        split at hE
        · rename_i h2; exact ⟨h1, h2⟩
        · cases hE
      · cases hE
    have SZ := fun q => size_calls n i ⟨by omega, by omega⟩ ⟨by omega, by omega⟩ q
    obtain ⟨K, HK⟩ : ∃ t, Hid (min 4 (n - 4 * i) = t) := ⟨_, rfl⟩
    have hK : 1 ≤ K ∧ K ≤ 4 := by rw [← HK.out]; omega
    rw [HK.out] at SZ
    have HSZ : Hid (∀ q, Calls Try.prog 25 #[.int .i64 n, .int .i64 i] q fun e w' => e = .returned (.int .i64 K) ∧ w' = q) := SZ
    by_cases hm4 : (m : Int) = K
    rotate_left
    · have hO : opE n i m p = 5 := by unfold opE; rw [if_pos hE, HK.out, if_neg hm4]
      have hB : opB root n i m xs p ps = false := by unfold opB; rw [hO, if_neg (by decide)]
      rw [hO, hB]
      rw [hE] at C0
      have hne : ((m : Int) != K) = true := by rw [bne_iff_ne]; exact hm4
      generalize upL i n 0 ps p = U0 at *
      clear lx lp HCL SZ hE hm4 hO hB HK hrt hok hm hp g5
      go_enter Try.func15, Try.ntmps15
      go_wp2_with fail
      refine C0.mono ?_
      rintro e w1 ⟨rfl, hw1⟩
      have SZ1 := HSZ.out w1
      go_wp2_with fail
      refine SZ1.mono ?_
      rintro e w2 ⟨rfl, hw2⟩
      subst hw2
      go_wp2_with fail
      go_ret2
      exact ⟨rfl, hw1⟩
    · have hO : opE n i m p = 0 := by unfold opE; rw [if_pos hE, HK.out, if_pos hm4]
      have hlf : leavesL xs m = [ofP 4 (numL xs m)] := by
        have hlx := lx.len
        unfold leavesL leavesP
        rw [if_neg (by omega), show (m + 3) / 4 = 1 by omega, show List.range 1 = [0] from rfl, List.map_cons, List.map_nil]
        unfold leafG hiN
        rw [Nat.zero_mul, List.drop_zero, show min (0 + 4) m - 0 = m by omega, List.take_of_length_le (by omega)]
      have hxo := ofP_ok 4 (numL xs m)
      have hB : opB root n i m xs p ps = decide (upL i n (ofP 4 (numL xs m)) ps p = root % 2305843009213693951) := by unfold opB; rw [if_pos hO]
      have huo : okW (upL i n (ofP 4 (numL xs m)) ps p) ∧ upL i n (ofP 4 (numL xs m)) ps p % 2305843009213693951 = upL i n (ofP 4 (numL xs m)) ps p := by
        unfold upL
        split
        · have h := ofP_ok 3 [n, upP i.toNat ((n.toNat + 3) / 4) (ofP 4 (numL xs m)) ps]
          exact ⟨⟨h.1, by have := h.2; omega⟩, Int.emod_eq_of_lt h.1 h.2⟩
        · exact ⟨⟨by omega, by omega⟩, by omega⟩
      have SB := fun q => sameByP_calls (upL i n (ofP 4 (numL xs m)) ps p) root huo.1 hrt q
      rw [huo.2] at SB
      have HSB : Hid (∀ q, Calls Try.prog 28 #[.int .u64 (upL i n (ofP 4 (numL xs m)) ps p), .int .u64 root] q fun e w' => e = .returned (.bool (decide (upL i n (ofP 4 (numL xs m)) ps p = root % 2305843009213693951))) ∧ w' = q) := SB
      have HLV : Hid (∀ q, Below w.heap.size w q → Calls Try.prog 27 #[.slice a m c] q fun e w' => ∃ g, e = .returned (.tuple #[.slice (some g) 1 1, .int .i64 0]) ∧ w'.cell? g = some (.int .u64 (ofP 4 (numL xs m))) ∧ Below q.heap.size q w') := fun q hq => by
        refine (Leaves_calls a m c xs q (lx.below hq (Nat.le_refl _))).mono ?_
        rintro e w' ⟨a', N, rfl, _, lw, hb⟩
        rw [hlf] at lw
        have hN := lw.len
        simp only [List.length_cons, List.length_nil] at hN
        subst hN
        obtain ⟨b1, o1, e1, _, hc⟩ := lw.at (by omega)
        have hc0 := hc 0 (by omega)
        subst e1
        refine ⟨⟨b1, o1, none⟩, ?_, by simpa using hc0, hb⟩
        unfold errL
        rw [if_neg (by omega), if_neg (by omega)]
      have HC2 : Hid (∀ q, Below w.heap.size w q → Calls Try.prog 26 #[.int .i64 i, .int .i64 n, .int .u64 (ofP 4 (numL xs m)), .slice b p d] q fun e w' => e = .returned (.tuple #[.int .u64 (upL i n (ofP 4 (numL xs m)) ps p), .int .i64 (errC i n p)]) ∧ Below q.heap.size q w') := fun q hq => HCL.out _ q ⟨hxo.1, by have := hxo.2; omega⟩ hq
      rw [hO, hB]
      rw [hE] at C0 HC2
      clear lx lp HCL SZ hE hO hB SB huo hlf hxo hrt hok hp
      generalize upL i n (ofP 4 (numL xs m)) ps p = U at *
      generalize upL i n 0 ps p = U0 at *
      generalize ofP 4 (numL xs m) = LF at *
      generalize decide (U = root % 2305843009213693951) = Q at *
      have hne : ((m : Int) != K) = false := by rw [hm4]; simp
      clear HK hm4 hm g5
      go_enter Try.func15, Try.ntmps15
      go_wp2_with fail
      refine C0.mono ?_
      rintro e w1 ⟨rfl, hw1⟩
      have SZ1 := HSZ.out w1
      go_wp2_with fail
      refine SZ1.mono ?_
      rintro e w2 ⟨rfl, hw2⟩
      subst hw2
      have LV := HLV.out _ hw1
      go_wp2_with fail
      refine LV.mono ?_
      rintro e w3 ⟨g, rfl, hc, hw3⟩
      have hb3 := hw1.trans (hw3.mono hw1.size)
      have C2 := HC2.out _ hb3
      go_wp2_with fail
      refine C2.mono ?_
      rintro e w4 ⟨rfl, hw4⟩
      have SB1 := HSB.out w4
      go_wp2_with fail
      refine SB1.mono ?_
      rintro e w5 ⟨rfl, hw5⟩
      subst hw5
      go_wp2_with fail
      go_ret2
      exact ⟨rfl, hb3.trans (hw4.mono hb3.size)⟩
end Go.Proofs.Ytfkalnehomgccaa.Fx
