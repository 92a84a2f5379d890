/- What journal.chain returns, of a record that may be chained, and what journal.Chain returns, whatever is handed in. -/
import Derived.Test.YthmiojmlaclgaaaGreatDoorJ06
import Derived.Test.YthmiojmlaclgaaaGreatDoorJ05
import Derived.Test.YthmiojmlaclgaaaGreatDoorJ03
import Derived.Test.YthmiojmlaclgaaaGreatDoorJ01
import Derived.Lib.AppendZeros
import Derived.Lib.SliceRun
namespace Go.Proofs.YthmiojmlaclgaaaGreatDoor.Fx
open Go.RowKit

set_option maxRecDepth 100000 in
set_option maxHeartbeats 3200000 in
theorem jchain_calls (before : Int) (hbf : okW before) (x : Rcm) (bs : List Int) (w : World) (l : Lst w x.a x.n x.k bs) (hs : 0 ≤ x.s ∧ x.s ≤ 9223372036854775807) (hr : 0 ≤ x.r ∧ x.r ≤ 9223372036854775807) (hroot : okW x.root) (h8 : x.n ≤ 8) (hbs : ∀ j, j < x.n → 0 ≤ bs.getD j 0 ∧ bs.getD j 0 ≤ 9223372036854775807) :
    Calls Tryz.prog 169 #[.int .u64 before, x.val] w fun e w' => e = .returned (.int .u64 (chainP before x.s x.r x.root bs)) ∧ Below w.heap.size w w' := by
  have hal := low_alloc w (.cells x.cells 111)
  have l' := l.below hal (Nat.le_refl _)
  have hlen := l.len
  have row := fn5_alloc w (.int .i64 x.s) (.slice x.a x.n x.k) (.int .i64 x.r) (.int .u64 x.root) (.int .u64 x.chain) 111
  obtain ⟨s, a, n, k, r, root, chain⟩ := x
  simp only [Rcm.val, Rcm.cells] at *
  obtain ⟨s0, s1⟩ := hs
  obtain ⟨r0, r1⟩ := hr
  have HBS : Hid (∀ j, j < n → 0 ≤ bs.getD j 0 ∧ bs.getD j 0 ≤ 9223372036854775807) := hbs
  have HOK : Hid (okL (chainL before s r root bs)) := by
    show okL _
    unfold chainL
    refine okL_app ?_ (fun i hi => ⟨(hbs i (by omega)).1, by have := (hbs i (by omega)).2; omega⟩)
    intro i hi
    have h5 : i < 5 := by simpa using hi
    rcases lt5 h5 with rfl | rfl | rfl | rfl | rfl
    · exact hbf
    · exact ⟨s0, by simp; omega⟩
    · exact ⟨r0, by simp; omega⟩
    · exact hroot
    · exact ⟨by simp, by simp; omega⟩
  obtain ⟨W, HW⟩ : ∃ q, Hid (q = w.alloc (.cells #[.int .i64 s, .slice a n k, .int .i64 r, .int .u64 root, .int .u64 chain] 111)) := ⟨_, rfl⟩
  have HWS : Hid (w.heap.size + 1 = W.heap.size) := by show _ = _; rw [HW.out]; simp
  rw [← HW.out] at hal l' row
  obtain ⟨c0, c1, c2, c3, c4⟩ := fn5_box row
  have own0 := OwnW.lit W [before, s, r, root, (n : Int)] (by simp)
  have hl0 := low_alloc W (.cells #[.int .u64 before, .int .u64 s, .int .u64 r, .int .u64 root, .int .u64 (n : Int)] 48)
  have KC : Hid (∀ q, Below W.heap.size W q → q.cell? ⟨w.heap.size, 1, none⟩ = some (.slice a n k)) := fun q hq => (fn5_box (row.of_block (hq.block _ row.lt))).c1
  have hlt0 := row.lt
  have d1 := KC.out _ hl0
  clear hbs l hbf hroot
  go_enter Tryz.func169, Tryz.ntmps169
  go_wp2_with fail
  rw [← HW.out]
  clear HW
  go_loopw [5, 27] (fun v i wr => ∃ j : Nat, j ≤ n ∧ i = .int .i64 j ∧ OwnW W.heap.size wr v ([before, s, r, root, (n : Int)] ++ bs.take j) ∧ Below W.heap.size W wr) (fun _ i _ => n - (intOf i).toNat)
  case atStart => exact ⟨0, Nat.zero_le _, rfl, by rw [HWS.out]; simpa using own0, hl0⟩
  case round =>
    clear own0 hl0 c0 c1 c2 c3 c4 d1
    obtain ⟨j, hj, rfl, hown, hbel⟩ := hrel
    have hsz := hbel.size
    by_cases hlt : j < n
    · obtain ⟨b1, o1, y, rfl, _, c5, HX⟩ := l'.at1b hbel (Nat.le_refl _) hlt
      have hy := HBS.out j hlt
      rw [HX.out] at hy
      obtain ⟨y0, y1⟩ := hy
      have hl2 : ([before, s, r, root, (n : Int)] ++ bs.take j).length = 5 + j := by simp; omega
      have al1 := hown.below (low_alloc wr (.cells #[.int .u64 y] 48))
      have bl1 := hbel.alloc hbel.size (.cells #[.int .u64 y] 48)
      have cn := cell_new wr (.int .u64 y) 48
      have HH : Hid (wr.heap.size + 1 = (wr.alloc (.cells #[.int .u64 y] 48)).heap.size) := by show _ = _; simp
      go_wp2_with (at_builtin; refine wpList_append_word (by rfl) _ _ (by rfl) W.heap.size _ ([before, s, r, root, (n : Int)] ++ bs.take j) y wr.heap.size W (by rfl) (by rfl) (by exact al1) (by exact cn) (by rw [hl2]; omega) (by exact bl1.size) (by exact bl1) ?_; intro v1 w2 hown1 hbel1)
      go_roundw
      case rel => exact ⟨j + 1, by omega, by go_num, hown1.congr (by rw [List.append_assoc, take_snocI (by omega) HX.out]), hbel1⟩
      case measure => simp [intOf]; omega
    · obtain rfl : j = n := by omega
      obtain ⟨av, cv, rfl, lw⟩ := hown.lst' (n := 5 + j) (by simp; omega)
      have hl3 : [before, s, r, root, (j : Int)] ++ bs.take j = chainL before s r root bs := by unfold chainL; rw [List.take_of_length_le (by omega), hlen]
      rw [hl3] at lw
      have HO := dOf_calls 6 ⟨by omega, by omega⟩ _ _ _ _ _ lw HOK.out
      rw [show ofA 6 (chainL before s r root bs) (5 + j) = chainP before s r root bs from if_neg (by omega), show bigI (5 + j) = 0 from if_neg (by omega)] at HO
      go_wp2_with fail
      refine HO.mono ?_
      rintro e w3 ⟨rfl, hw3⟩
      go_wp2_with fail
      go_ret
      exact ⟨rfl, hal.trans ((hbel.trans (hw3.mono hbel.size)).mono hal.size)⟩

end Go.Proofs.YthmiojmlaclgaaaGreatDoor.Fx

/- What slices.Grow (of nil), slices.Concat (of four lists) and pupil.Flat return. -/
namespace Go.Proofs.YthmiojmlaclgaaaGreatDoor.Fx
open Go.RowKit

set_option maxRecDepth 100000 in
set_option maxHeartbeats 800000 in
theorem grow_calls (n : Nat) (w : World) (h0 : 0 < n) (h1 : n ≤ 1000) :
    Calls Tryz.prog 235 #[.slice none 0 0, .int .i64 n] w fun e w' => ∃ v, e = .returned v ∧ OwnI w.heap.size w' v [] ∧ Below w.heap.size w w' := by
  obtain ⟨i0, hi, hz0, hz1, hz2⟩ := info_parts info3
  have happ := fun ty => Lib.run_append_nil_zeros (P := Tryz.prog) w 66 3 ty 3 i0 (.int .i64 0) .i64 .i64 Tryz.underlying66 Tryz.underlying3 hi hz0 n h0 (by omega) (by omega) (by rw [hz2]; omega)
  have hge := grownCap_ge w n 0 3
  have hle := grownCap_le_maxLen w n 0 3 (by unfold maxLen; omega)
  generalize grownCap w n 0 3 = G at happ hge hle
  have hG63 : G ≤ 9223372036854775807 := by unfold maxLen at hle; omega
  have hsz : (Builtin.zeroCells (Value.int .i64 0).cells n ++ Builtin.zeroCells (Value.int .i64 0).cells (G - n)).size = G * 1 := by
    simp [size_zeroCells, Value.cells]; omega
  generalize Builtin.zeroCells (Value.int .i64 0).cells n ++ Builtin.zeroCells (Value.int .i64 0).cells (G - n) = cs at happ hsz
  have hpos : (n : Int) > 0 := by omega
  go_enter Tryz.func235, Tryz.ntmps235
  go_wp2_with (at_builtin; refine Lib.wpList_append_run _ rfl _ _ _ _ rfl _ _ rfl rfl _ _ (happ _) ?_)
  go_ret
  refine ⟨_, rfl, ⟨rfl, .inr ⟨w.heap.size, G, cs, rfl, Nat.le_refl _, ?_, Nat.zero_le _, hle, hsz, rfl⟩⟩, ?_⟩
  · exact heap_alloc_new w.drew _
  · exact ((Below.refl _ _).drew).alloc (Nat.le_refl _) _

/-! An append of as many integers as a list has. -/
section
variable {w' W0 : World} {ops : Array Oper} {o : Oper} {a : Act} {Q : Exit → Act → World → Prop}

theorem run_append_ints (ty : TypeId) (base : Nat) (v : Value) (xs ys : List Int) (src : Option Addr) (m c : Nat) (hm : 0 < m) (hown : OwnI base w' v xs) (hsrc : Lst w' src m c ys)
    (hn : (xs.length + m) * 8 ≤ 140737488355328) (hbase : base ≤ w'.heap.size) (hB : Below base W0 w') :
    ∃ v' w1, (Builtin.append_ #[66, 66] ty #[v, .slice src m c]).run Tryz.prog w' = .ok v' w1 ∧ OwnI base w1 v' (xs ++ ys) ∧ Below base W0 w1 := by
  obtain ⟨i0, hi, hz0, hz1, hz2⟩ := info_parts info3
  have hl := hsrc.len
  obtain ⟨b, off, rfl, _, hc⟩ := hsrc.at hm
  obtain ⟨v', w1, hrun, h1, h2, _⟩ := run_append_own (P := Tryz.prog) w' base 66 ty 3 i0 (.int .i64 0) 1 8 Tryz.underlying66 hi hz0 hz1 hz2 rfl (by decide) v xs.length _ hown ⟨b, off, none⟩ m c (ys.map (Value.int .i64)) (by simp [hl])
    (by intro j u hj
        have hj' : j < ys.length := by
          have := (List.getElem?_eq_some_iff.1 hj).1
          simpa using this
        rw [getD_map_int ys j hj'] at hj
        rw [Go.WideShapes.add_plain, hc j (by omega)]
        exact hj)
    (by intro u hu
        obtain ⟨z, _, rfl⟩ := List.mem_map.1 hu
        rfl) (by unfold maxLen; omega) hn hbase
  refine ⟨v', w1, hrun, by unfold OwnI; rw [List.length_append, List.map_append, hl]; exact h1, hB.grown h2 hbase ?_⟩
  intro k hk
  rcases hown.2 with ⟨rfl, _⟩ | ⟨g', cap, cur, rfl, hg, _⟩
  · simp [Value.ownBlock] at hk
  · simp [Value.ownBlock] at hk; omega

theorem wpList_append_ints {rest : List Oper} (hgd : o.guard = none) (s x : Operand) (ho : o.op = .call { callee := .builtin .append, args := #[s, x], argTypes := #[66, 66] })
    (base : Nat) (v : Value) (xs ys : List Int) (src : Option Addr) (m c : Nat) (W0 : World) (hm : 0 < m) (hs : a.eval s = v) (hx : a.eval x = .slice src m c) (hown : OwnI base w' v xs) (hsrc : Lst w' src m c ys)
    (hn : (xs.length + m) * 8 ≤ 140737488355328) (hbase : base ≤ w'.heap.size) (hB : Below base W0 w')
    (h : ∀ v' w1, OwnI base w1 v' (xs ++ ys) → Below base W0 w1 → wpList Tryz.prog ops Q rest (a.put o.dst v') w1) : wpList Tryz.prog ops Q (o :: rest) a w' := by
  obtain ⟨v', w1, hrun, h1, h2⟩ := run_append_ints o.type base v xs ys src m c hm hown hsrc hn hbase hB
  refine wpList_plain hgd fun K hK => ?_
  unfold Oper.wp
  simp [execOp, ho, resolve, invoke, builtin, hs, hx, hrun, Result.andThen]
  exact hK _ _ (h v' w1 h1 h2)
end

def lenTo (L : Nat → Nat) : Nat → Nat
  | 0 => 0
  | k + 1 => lenTo L k + L k
def catTo (X : Nat → List Int) : Nat → List Int
  | 0 => []
  | k + 1 => catTo X k ++ X k
theorem lenTo_le (L : Nat → Nat) {k n : Nat} (h : k ≤ n) : lenTo L k ≤ lenTo L n := by
  induction n with
  | zero => obtain rfl : k = 0 := by omega
            exact Nat.le_refl _
  | succ n ih =>
    by_cases e : k = n + 1
    · subst e; exact Nat.le_refl _
    · have := ih (by omega)
      rw [lenTo]; omega
theorem catTo_len (X : Nat → List Int) (L : Nat → Nat) (n : Nat) (h : ∀ i, i < n → (X i).length = L i) : (catTo X n).length = lenTo L n := by
  induction n with
  | zero => rfl
  | succ n ih => rw [catTo, lenTo, List.length_append, ih (fun i hi => h i (by omega)), h n (by omega)]

set_option maxHeartbeats 1600000 in
theorem concat_calls (n : Nat) (A : Nat → Option Addr) (L C : Nat → Nat) (X : Nat → List Int) (b : Nat) (w : World) (hb : b < w.heap.size) (hn0 : 0 < n) (hn : n ≤ 1000) (hc : ∀ i, i < n → w.cell? ⟨b, i, none⟩ = some (.slice (A i) (L i) (C i)))
    (hl : ∀ i, i < n → Lst w (A i) (L i) (C i) (X i)) (hp : ∀ i, i < n → 0 < L i) (hs : lenTo L n ≤ 1000) :
    Calls Tryz.prog 221 #[.slice (some ⟨b, 0, none⟩) n n] w fun e w' => ∃ v, e = .returned v ∧ OwnI w.heap.size w' v (catTo X n) ∧ Below w.heap.size w w' := by
  have HC : Hid (∀ i, i < n → w.cell? ⟨b, i, none⟩ = some (.slice (A i) (L i) (C i))) := hc
  have HL : Hid (∀ i, i < n → Lst w (A i) (L i) (C i) (X i)) := hl
  have HP : Hid (∀ i, i < n → 0 < L i) := hp
  clear hc hl hp
  go_enter Tryz.func221, Tryz.ntmps221
  go_wp2
  go_loopw [3, 11] (fun s i wr => ∃ k : Nat, k ≤ n ∧ i = .int .i64 k ∧ s = .int .i64 (lenTo L k) ∧ wr = w) (fun _ i _ => n - (intOf i).toNat)
  case atStart => exact ⟨0, Nat.zero_le _, rfl, rfl, rfl⟩
  case round =>
    obtain ⟨k, hk, rfl, rfl, hw⟩ := hrel
    replace hw := hw.symm
    subst hw
    by_cases hlt : k < n
    · have c := HC.out k hlt
      have b1 := lenTo_le L (k := k + 1) (n := n) (by omega)
      have b2 : lenTo L (k + 1) = lenTo L k + L k := rfl
      obtain ⟨l, hl⟩ : ∃ l, Hid (L k = l) := ⟨_, rfl⟩
      obtain ⟨T, hT⟩ : ∃ T, Hid (lenTo L k = T) := ⟨_, rfl⟩
      rw [hl.out] at c b2
      rw [hT.out] at b2
      have b3 : T + l ≤ 1000 := by omega
      rw [hT.out]
      clear b1 b2
      go_wp2
      go_roundw
      case rel => exact ⟨k + 1, by omega, by go_num, by rw [lenTo, hT.out, hl.out]; go_num, by trivial⟩
      case measure => simp [intOf]; omega
    · obtain rfl : k = n := by omega
      have hpos : 0 < lenTo L k := by
        have b1 := lenTo_le L (k := 1) (n := k) (by omega)
        have b2 : lenTo L 1 = 0 + L 0 := rfl
        have := HP.out 0 hn0
        omega
      obtain ⟨T, hT⟩ : ∃ T, Hid (lenTo L k = T) := ⟨_, rfl⟩
      have HS : Hid (lenTo L k ≤ 1000) := hs
      rw [hT.out] at hs hpos ⊢
      go_wp2_with fail
      refine (grow_calls T _ hpos hs).mono ?_
      rintro e w1 ⟨v0, rfl, hown, hw1⟩
      go_wp2
      go_loopw [6, 27] (fun v i wr => ∃ j : Nat, j ≤ k ∧ i = .int .i64 j ∧ OwnI w.heap.size wr v (catTo X j) ∧ Below w.heap.size w wr) (fun _ i _ => k - (intOf i).toNat)
      case atStart => exact ⟨0, Nat.zero_le _, rfl, hown, hw1⟩
      case round =>
        obtain ⟨j, hj, rfl, hown, hbel⟩ := hrel
        have hsz := hbel.size
        by_cases hlt2 : j < k
        · have c := (hbel.cell (p := ⟨b, j, none⟩) (by exact hb)).trans (HC.out j hlt2)
          have hx := (HL.out j hlt2).below hbel (Nat.le_refl _)
          have hp := HP.out j hlt2
          have hlen : (catTo X j).length + L j ≤ 1000 := by
            rw [catTo_len X L j (fun i hi => (HL.out i (by omega)).len)]
            have b1 := lenTo_le L (k := j + 1) (n := k) (by omega)
            have b2 : lenTo L (j + 1) = lenTo L j + L j := rfl
            have := HS.out
            omega
          obtain ⟨l, hl⟩ : ∃ l, Hid (L j = l) := ⟨_, rfl⟩
          rw [hl.out] at c hx hp hlen
          go_wp2_with (at_builtin; refine wpList_append_ints (by rfl) _ _ (by rfl) w.heap.size _ (catTo X j) (X j) (A j) l (C j) w hp (by rfl) (by rfl) (by exact hown) (by exact hx) (by omega) (by exact hsz) (by exact hbel) ?_; intro v1 w3 hown1 hbel1)
          go_roundw
          case rel => exact ⟨j + 1, by omega, by go_num, hown1, hbel1⟩
          case measure => simp [intOf]; omega
        · obtain rfl : j = k := by omega
          go_wp2
          go_ret
          exact ⟨_, rfl, hown, hbel⟩

def four {α : Type} (x0 x1 x2 x3 : α) (i : Nat) : α := if i = 0 then x0 else if i = 1 then x1 else if i = 2 then x2 else x3
theorem lt_four {i : Nat} (h : i < 4) : i = 0 ∨ i = 1 ∨ i = 2 ∨ i = 3 := by omega

theorem concat4 (a0 a1 a2 a3 : Option Addr) (l0 l1 l2 l3 c0 c1 c2 c3 : Nat) (x0 x1 x2 x3 : List Int) (g : Nat) (w : World) (hg : g = w.heap.size) (h0 : Lst w a0 l0 c0 x0) (h1 : Lst w a1 l1 c1 x1) (h2 : Lst w a2 l2 c2 x2) (h3 : Lst w a3 l3 c3 x3)
    (p0 : 0 < l0) (p1 : 0 < l1) (p2 : 0 < l2) (p3 : 0 < l3) (hs : l0 + l1 + l2 + l3 ≤ 1000) :
    Calls Tryz.prog 221 #[.slice (some ⟨g, 0, none⟩) 4 4] (w.alloc (.cells #[.slice a0 l0 c0, .slice a1 l1 c1, .slice a2 l2 c2, .slice a3 l3 c3] 66)) fun e w' => ∃ a n c, e = .returned (.slice a n c) ∧ n = l0 + l1 + l2 + l3 ∧ Lst w' a n c (x0 ++ (x1 ++ (x2 ++ x3))) ∧ Below w.heap.size w w' := by
  subst hg
  have hal := (Below.refl w.heap.size w).alloc (Nat.le_refl _) (.cells #[.slice a0 l0 c0, .slice a1 l1 c1, .slice a2 l2 c2, .slice a3 l3 c3] 66)
  have hr := World.rowIs_alloc w #[.slice a0 l0 c0, .slice a1 l1 c1, .slice a2 l2 c2, .slice a3 l3 c3] 66 (fun i => .slice (four a0 a1 a2 a3 i) (four l0 l1 l2 l3 i) (four c0 c1 c2 c3 i)) (by
    intro i hi
    rcases lt_four hi with rfl | rfl | rfl | rfl <;> rfl)
  refine (concat_calls 4 (four a0 a1 a2 a3) (four l0 l1 l2 l3) (four c0 c1 c2 c3) (four x0 x1 x2 x3) w.heap.size _ (by simp) (by omega) (by omega) (fun i hi => hr.cell hi) ?_ ?_ ?_).mono ?_
  · intro i hi
    rcases lt_four hi with rfl | rfl | rfl | rfl
    · exact h0.below hal (Nat.le_refl _)
    · exact h1.below hal (Nat.le_refl _)
    · exact h2.below hal (Nat.le_refl _)
    · exact h3.below hal (Nat.le_refl _)
  · intro i hi
    rcases lt_four hi with rfl | rfl | rfl | rfl
    · exact p0
    · exact p1
    · exact p2
    · exact p3
  · show 0 + l0 + l1 + l2 + l3 ≤ 1000
    omega
  · rintro e w' ⟨v, rfl, hown, hb⟩
    obtain ⟨a, c, rfl, hl⟩ := hown.lst
    have e1 : catTo (four x0 x1 x2 x3) 4 = x0 ++ (x1 ++ (x2 ++ x3)) := by
      show (([] ++ x0) ++ x1 ++ x2) ++ x3 = _
      simp [List.append_assoc]
    rw [e1] at hl ⊢
    exact ⟨a, _, c, rfl, by simp [h0.len, h1.len, h2.len, h3.len]; omega, hl, hal.trans (hb.mono hal.size)⟩

set_option maxHeartbeats 1600000 in
theorem pflat_calls (p : Pup) (d : PD) (w : World) (h : InPup w p d) :
    Calls Tryz.prog 188 #[p.val] w fun e w' => ∃ a n c, e = .returned (.tuple #[.slice a n c, .int .i64 (pchk p d)]) ∧ n ≤ 40 ∧ Lst w' a n c (flatL p d) ∧ Below w.heap.size w w' := by
  have hal := (Below.refl w.heap.size w).alloc (Nat.le_refl _) (.cells p.cells 102)
  have h1 := h.below hal (Nat.le_refl _)
  have hck := pcheck_calls p d _ h1
  unfold flatL
  rcases pchk_cases p d with h0 | ⟨h0, t0, _⟩
  · rw [if_pos h0]
    have G : Hid (pchk p d = 0) := h0
    obtain ⟨I, H, O, a1, k1, a2, k2, d1, e1, d2, e2, rfl, i1, i2, j1, j2, o1, o2, hr⟩ := pchk_zero h0
    clear h0 hr h
    obtain ⟨X1, X2, B1, B2⟩ := d
    obtain ⟨hx1, hx2, hb1, hb2⟩ := h1
    simp only [Pup.val, Pup.cells, rpup] at *
    have s1 := prod_sideN j2 i2
    have s2 := prod_sideN o2 j2
    have s3 : 0 < H * I := Nat.mul_pos (by omega) (by omega)
    have s4 : 0 < O * H := Nat.mul_pos (by omega) (by omega)
    go_enter Tryz.func188, Tryz.ntmps188
    go_wp2_with fail
    refine hck.mono ?_
    rintro e w1 ⟨rfl, hw1⟩
    rw [G.out]
    obtain ⟨f0, f1, f2, f3, f4, f5, f6, f7⟩ := box8 hw1 (by simp)
    have hbw := hal.trans (hw1.mono hal.size)
    have hx1 := hx1.below hw1 (Nat.le_refl _)
    have hx2 := hx2.below hw1 (Nat.le_refl _)
    have hb1 := hb1.below hw1 (Nat.le_refl _)
    have hb2 := hb2.below hw1 (Nat.le_refl _)
    clear hal hck hw1
    go_wp2_with fail
    refine (concat4 a1 d1 a2 d2 _ _ _ _ _ _ _ _ X1 B1 X2 B2 _ _ rfl hx1 hb1 hx2 hb2 s3 (by omega) s4 (by omega) (by omega)).mono ?_
    rintro e w2 ⟨a, n, c, rfl, hn, hl, hw2⟩
    have hn40 : n ≤ 40 := by omega
    clear hn
    go_wp2
    go_ret2
    exact ⟨a, n, c, by rw [G.out]; rfl, hn40, hl, hbw.trans (hw2.mono hbw.size)⟩
  · rw [if_neg h0]
    obtain ⟨r1, c1, a1, n1, k1, r2, c2, a2, n2, k2, d1, m1, e1, d2, m2, e2⟩ := p
    simp only [Pup.val, Pup.cells] at *
    clear h h1
    go_enter Tryz.func188, Tryz.ntmps188
    go_wp2_with fail
    refine hck.mono ?_
    rintro e w1 ⟨rfl, hw1⟩
    go_wp2
    go_ret2
    exact ⟨_, _, _, rfl, Nat.zero_le _, Lst.nil _ _ _, hal.trans (hw1.mono hal.size)⟩
end Go.Proofs.YthmiojmlaclgaaaGreatDoor.Fx

/- One append of an integer to a list that the program itself makes, beside blocks of its own that stay as they are. -/
namespace Go.Proofs.YthmiojmlaclgaaaGreatDoor.Fx
open Go.RowKit

section
variable {w' W0 : World} {ops : Array Oper} {o : Oper} {a : Act} {Q : Exit → Act → World → Prop}

end

theorem Arr.grown {w w1 : World} {b c n : Nat} {f : Nat → Int} {row : Option Nat} (h : Arr w b c n f) (hg : w.grownBy w1 row) (hne : some b ≠ row) : Arr w1 b c n f := by
  have hlt := h.lt
  obtain ⟨hc, F, hr, hf⟩ := h
  exact ⟨hc, F, hr.of_block (hg.block b hlt hne), hf⟩

/-- The order that was made last, and of which epoch; it lies apart from the list that is made. -/
def LastIs (seed : Int) (n : Nat) (out last v : Value) (w : World) : Prop :=
  ∃ L : Int, last = .int .i64 L ∧ ∀ d : Nat, L = (d : Int) → ∃ b c, v = .slice (some ⟨b, 0, none⟩) n c ∧ some b ≠ out.ownBlock ∧ Arr w b c n (shufF seed d n)
theorem LastIs.none (seed : Int) (n : Nat) (out v : Value) (w : World) : LastIs seed n out (.int .i64 (-1)) v w := ⟨-1, rfl, fun d h => by omega⟩
theorem LastIs.one {seed : Int} {n b c d : Nat} {out : Value} {w : World} (hne : some b ≠ out.ownBlock) (h : Arr w b c n (shufF seed d n)) : LastIs seed n out (.int .i64 (d : Int)) (.slice (some ⟨b, 0, Option.none⟩) n c) w :=
  ⟨d, rfl, fun d' e => by
    obtain rfl : d' = d := by omega
    exact ⟨b, c, rfl, hne, h⟩⟩
/-- Behind an append to the list beside it. -/
theorem LastIs.push {seed : Int} {n b c d : Nat} {out out1 : Value} {w w1 : World} (hne : some b ≠ out.ownBlock) (h : Arr w b c n (shufF seed d n)) (hg : w.grownBy w1 out.ownBlock) (h3 : out1.ownBlock = out.ownBlock ∨ out1.ownBlock = some w.heap.size) :
    LastIs seed n out1 (.int .i64 (d : Int)) (.slice (some ⟨b, 0, Option.none⟩) n c) w1 := by
  refine LastIs.one ?_ (h.grown hg hne)
  rcases h3 with e | e
  · rw [e]; exact hne
  · rw [e]
    have := h.lt
    simp
    omega

end Go.Proofs.YthmiojmlaclgaaaGreatDoor.Fx

/- An append of a whole list of integers to one that the program itself makes; and what slices.Clone returns. -/
namespace Go.Proofs.YthmiojmlaclgaaaGreatDoor.Fx
open Go.RowKit

section
variable {w' W0 : World} {ops : Array Oper} {o : Oper} {a : Act} {Q : Exit → Act → World → Prop}

theorem run_append_all (ty : TypeId) (base : Nat) (v : Value) (xs zs : List Int) (b off m c : Nat) (hown : OwnI base w' v xs) (hz : Lst w' (some ⟨b, off, none⟩) m c zs) (hn : (xs.length + m) * 8 ≤ 140737488355328) (hbase : base ≤ w'.heap.size) (hB : Below base W0 w') :
    ∃ v' w1, (Builtin.append_ #[66, 66] ty #[v, .slice (some ⟨b, off, none⟩) m c]).run Tryz.prog w' = .ok v' w1 ∧ OwnI base w1 v' (xs ++ zs) ∧ Below base W0 w1 := by
  obtain ⟨i0, hi, hz0, hz1, hz2⟩ := info_parts info3
  have hzl := hz.len
  obtain ⟨v', w1, hrun, h1, h2, _, _⟩ := run_append_own_at (P := Tryz.prog) w' base 66 ty 3 i0 (.int .i64 0) 1 8 Tryz.underlying66 hi hz0 hz1 hz2 rfl (by decide) v xs.length _ hown ⟨b, off, none⟩ m c (zs.map (Value.int .i64)) (by simp [hzl])
    (by intro j u hj
        have hjm : j < m := by
          have := (List.getElem?_eq_some_iff.1 hj).1
          simpa [hzl] using this
        obtain ⟨b1, o1, e, _, hc⟩ := hz.at (by omega)
        simp only [Option.some.injEq, Addr.mk.injEq, and_true] at e
        obtain ⟨rfl, rfl⟩ := e
        rw [getD_map_int zs j (by omega)] at hj
        rw [Go.WideShapes.add_plain, hc j hjm]
        exact hj)
    (by intro u hu; obtain ⟨x, _, rfl⟩ := List.mem_map.1 hu; rfl) (by unfold maxLen; omega) hn hbase
  refine ⟨v', w1, hrun, by unfold OwnI; rw [List.length_append, List.map_append, hzl]; exact h1, hB.grown h2 hbase ?_⟩
  intro k hk
  rcases hown.2 with ⟨rfl, _⟩ | ⟨g', cap, cur, rfl, hg, _⟩
  · simp [Value.ownBlock] at hk
  · simp [Value.ownBlock] at hk; omega

theorem wpList_append_all {rest : List Oper} (hgd : o.guard = none) (s x : Operand) (ho : o.op = .call { callee := .builtin .append, args := #[s, x], argTypes := #[66, 66] })
    (base : Nat) (v : Value) (xs zs : List Int) (b off m c : Nat) (W0 : World) (hs : a.eval s = v) (hx : a.eval x = .slice (some ⟨b, off, none⟩) m c) (hown : OwnI base w' v xs) (hz : Lst w' (some ⟨b, off, none⟩) m c zs) (hn : (xs.length + m) * 8 ≤ 140737488355328) (hbase : base ≤ w'.heap.size) (hB : Below base W0 w')
    (h : ∀ v' w1, OwnI base w1 v' (xs ++ zs) → Below base W0 w1 → wpList Tryz.prog ops Q rest (a.put o.dst v') w1) : wpList Tryz.prog ops Q (o :: rest) a w' := by
  obtain ⟨v', w1, hrun, h1, h2⟩ := run_append_all o.type base v xs zs b off m c hown hz hn hbase hB
  refine wpList_plain hgd fun K hK => ?_
  unfold Oper.wp
  simp [execOp, ho, resolve, invoke, builtin, hs, hx, hrun, Result.andThen]
  exact hK _ _ (h v' w1 h1 h2)
end

theorem OwnI.empty (w : World) : OwnI w.heap.size (w.alloc (.cells #[] 3)) (.slice (some ⟨w.heap.size, 0, none⟩) 0 0) [] :=
  ⟨rfl, .inr ⟨w.heap.size, 0, #[], rfl, Nat.le_refl _, Go.Deep.blk_alloc_new _ _, Nat.le_refl _, Nat.zero_le _, rfl, rfl⟩⟩

end Go.Proofs.YthmiojmlaclgaaaGreatDoor.Fx

/- An append of a whole list of integers, which may be empty, to one that the program itself makes. -/
namespace Go.Proofs.YthmiojmlaclgaaaGreatDoor.Fx
open Go.RowKit

section
variable {w' W0 : World} {ops : Array Oper} {o : Oper} {a : Act} {Q : Exit → Act → World → Prop}
theorem run_append_zero (w' : World) (ty : TypeId) (base src : Option Addr) (l c d : Nat) (hle : l ≤ c) : (Builtin.append_ #[66, 66] ty #[.slice base l c, .slice src 0 d]).run Tryz.prog w' = .ok (.slice base l c) w' := by
  obtain ⟨i0, hi, _⟩ := info_parts info3
  cases base <;> cases src <;> simp [Builtin.append_, run_underlying Tryz.underlying66, sizeOf, typeInfo, hi, Builtin.lenOf, Builtin.firstCells, hle, storeCells, loadCells, loadCellsFrom]
theorem run_append_any (ty : TypeId) (base : Nat) (v : Value) (xs zs : List Int) (src : Option Addr) (m c : Nat) (hown : OwnI base w' v xs) (hz : Lst w' src m c zs) (hn : (xs.length + m) * 8 ≤ 140737488355328) (hbase : base ≤ w'.heap.size) (hB : Below base W0 w') :
    ∃ v' w1, (Builtin.append_ #[66, 66] ty #[v, .slice src m c]).run Tryz.prog w' = .ok v' w1 ∧ OwnI base w1 v' (xs ++ zs) ∧ Below base W0 w1 := by
  by_cases h0 : m = 0
  · subst h0
    have hz0 : zs = [] := List.length_eq_zero_iff.1 hz.len
    subst hz0
    obtain ⟨av, cv, hv, lv⟩ := hown.lst
    refine ⟨v, w', ?_, by rw [List.append_nil]; exact hown, hB⟩
    rw [hv]
    exact run_append_zero w' ty av src xs.length cv c lv.cap
  · obtain ⟨b, off, rfl, _, _⟩ := hz.at (by omega)
    exact run_append_all ty base v xs zs b off m c hown hz hn hbase hB

theorem wpList_append_any {rest : List Oper} (hgd : o.guard = none) (s x : Operand) (ho : o.op = .call { callee := .builtin .append, args := #[s, x], argTypes := #[66, 66] })
    (base : Nat) (v : Value) (xs zs : List Int) (src : Option Addr) (m c : Nat) (W0 : World) (hs : a.eval s = v) (hx : a.eval x = .slice src m c) (hown : OwnI base w' v xs) (hz : Lst w' src m c zs) (hn : (xs.length + m) * 8 ≤ 140737488355328) (hbase : base ≤ w'.heap.size) (hB : Below base W0 w')
    (h : ∀ v' w1, OwnI base w1 v' (xs ++ zs) → Below base W0 w1 → wpList Tryz.prog ops Q rest (a.put o.dst v') w1) : wpList Tryz.prog ops Q (o :: rest) a w' := by
  obtain ⟨v', w1, hrun, h1, h2⟩ := run_append_any o.type base v xs zs src m c hown hz hn hbase hB
  refine wpList_plain hgd fun K hK => ?_
  unfold Oper.wp
  simp [execOp, ho, resolve, invoke, builtin, hs, hx, hrun, Result.andThen]
  exact hK _ _ (h v' w1 h1 h2)
end
end Go.Proofs.YthmiojmlaclgaaaGreatDoor.Fx

/- What slices.Grow (of nil) and slices.Concat return, of lists that may be empty. -/
namespace Go.Proofs.YthmiojmlaclgaaaGreatDoor.Fx
open Go.RowKit

theorem grow_any (n : Nat) (w : World) (h1 : n ≤ 1000) :
    Calls Tryz.prog 235 #[.slice none 0 0, .int .i64 n] w fun e w' => ∃ v, e = .returned v ∧ OwnI w.heap.size w' v [] ∧ Below w.heap.size w w' := by
  by_cases h0 : 0 < n
  · exact grow_calls n w h0 h1
  · have hz : ¬ (n : Int) > 0 := by omega
    have hz2 : ¬ (n : Int) < 0 := by omega
    have hz3 : ¬ 0 < n := h0
    go_enter Tryz.func235, Tryz.ntmps235
    go_wp2
    go_ret
    exact ⟨_, rfl, OwnI.nil _ _, Below.refl _ _⟩

set_option maxHeartbeats 1600000 in
theorem concat_any (n : Nat) (A : Nat → Option Addr) (L C : Nat → Nat) (X : Nat → List Int) (b : Nat) (w : World) (hb : b < w.heap.size) (hn0 : 0 < n) (hn : n ≤ 1000) (hc : ∀ i, i < n → w.cell? ⟨b, i, none⟩ = some (.slice (A i) (L i) (C i)))
    (hl : ∀ i, i < n → Lst w (A i) (L i) (C i) (X i)) (hs : lenTo L n ≤ 1000) :
    Calls Tryz.prog 221 #[.slice (some ⟨b, 0, none⟩) n n] w fun e w' => ∃ v, e = .returned v ∧ OwnI w.heap.size w' v (catTo X n) ∧ Below w.heap.size w w' := by
  have HC : Hid (∀ i, i < n → w.cell? ⟨b, i, none⟩ = some (.slice (A i) (L i) (C i))) := hc
  have HL : Hid (∀ i, i < n → Lst w (A i) (L i) (C i) (X i)) := hl
  clear hc hl
  go_enter Tryz.func221, Tryz.ntmps221
  go_wp2
  go_loopw [3, 11] (fun s i wr => ∃ k : Nat, k ≤ n ∧ i = .int .i64 k ∧ s = .int .i64 (lenTo L k) ∧ wr = w) (fun _ i _ => n - (intOf i).toNat)
  case atStart => exact ⟨0, Nat.zero_le _, rfl, rfl, rfl⟩
  case round =>
    obtain ⟨k, hk, rfl, rfl, hw⟩ := hrel
    replace hw := hw.symm
    subst hw
    by_cases hlt : k < n
    · have c := HC.out k hlt
      have b1 := lenTo_le L (k := k + 1) (n := n) (by omega)
      have b2 : lenTo L (k + 1) = lenTo L k + L k := rfl
      obtain ⟨l, hl⟩ : ∃ l, Hid (L k = l) := ⟨_, rfl⟩
      obtain ⟨T, hT⟩ : ∃ T, Hid (lenTo L k = T) := ⟨_, rfl⟩
      rw [hl.out] at c b2
      rw [hT.out] at b2
      have b3 : T + l ≤ 1000 := by omega
      rw [hT.out]
      clear b1 b2
      go_wp2
      go_roundw
      case rel => exact ⟨k + 1, by omega, by go_num, by rw [lenTo, hT.out, hl.out]; go_num, by trivial⟩
      case measure => simp [intOf]; omega
    · obtain rfl : k = n := by omega
      obtain ⟨T, hT⟩ : ∃ T, Hid (lenTo L k = T) := ⟨_, rfl⟩
      have HS : Hid (lenTo L k ≤ 1000) := hs
      rw [hT.out] at hs ⊢
      go_wp2_with fail
      refine (grow_any T _ hs).mono ?_
      rintro e w1 ⟨v0, rfl, hown, hw1⟩
      go_wp2
      go_loopw [6, 27] (fun v i wr => ∃ j : Nat, j ≤ k ∧ i = .int .i64 j ∧ OwnI w.heap.size wr v (catTo X j) ∧ Below w.heap.size w wr) (fun _ i _ => k - (intOf i).toNat)
      case atStart => exact ⟨0, Nat.zero_le _, rfl, hown, hw1⟩
      case round =>
        obtain ⟨j, hj, rfl, hown, hbel⟩ := hrel
        have hsz := hbel.size
        by_cases hlt2 : j < k
        · have c := (hbel.cell (p := ⟨b, j, none⟩) (by exact hb)).trans (HC.out j hlt2)
          have hx := (HL.out j hlt2).below hbel (Nat.le_refl _)
          have hlen : (catTo X j).length + L j ≤ 1000 := by
            rw [catTo_len X L j (fun i hi => (HL.out i (by omega)).len)]
            have b1 := lenTo_le L (k := j + 1) (n := k) (by omega)
            have b2 : lenTo L (j + 1) = lenTo L j + L j := rfl
            have := HS.out
            omega
          obtain ⟨l, hl⟩ : ∃ l, Hid (L j = l) := ⟨_, rfl⟩
          rw [hl.out] at c hx hlen
          go_wp2_with (at_builtin; refine wpList_append_any (by rfl) _ _ (by rfl) w.heap.size _ (catTo X j) (X j) (A j) l (C j) w (by rfl) (by rfl) (by exact hown) (by exact hx) (by omega) (by exact hsz) (by exact hbel) ?_; intro v1 w3 hown1 hbel1)
          go_roundw
          case rel => exact ⟨j + 1, by omega, by go_num, hown1, hbel1⟩
          case measure => simp [intOf]; omega
        · obtain rfl : j = k := by omega
          go_wp2
          go_ret
          exact ⟨_, rfl, hown, hbel⟩

def two {α : Type} (x0 x1 : α) (i : Nat) : α := if i = 0 then x0 else x1
theorem lt_two {i : Nat} (h : i < 2) : i = 0 ∨ i = 1 := by omega

theorem concat2 (a0 a1 : Option Addr) (l0 l1 c0 c1 : Nat) (x0 x1 : List Int) (g : Nat) (w : World) (hg : g = w.heap.size) (h0 : Lst w a0 l0 c0 x0) (h1 : Lst w a1 l1 c1 x1) (hs : l0 + l1 ≤ 1000) :
    Calls Tryz.prog 221 #[.slice (some ⟨g, 0, none⟩) 2 2] (w.alloc (.cells #[.slice a0 l0 c0, .slice a1 l1 c1] 66)) fun e w' => ∃ a c, e = .returned (.slice a (l0 + l1) c) ∧ Lst w' a (l0 + l1) c (x0 ++ x1) ∧ Below w.heap.size w w' := by
  subst hg
  have hal := (Below.refl w.heap.size w).alloc (Nat.le_refl _) (.cells #[.slice a0 l0 c0, .slice a1 l1 c1] 66)
  have hr := World.rowIs_alloc w #[.slice a0 l0 c0, .slice a1 l1 c1] 66 (fun i => .slice (two a0 a1 i) (two l0 l1 i) (two c0 c1 i)) (by
    intro i hi
    rcases lt_two hi with rfl | rfl <;> rfl)
  refine (concat_any 2 (two a0 a1) (two l0 l1) (two c0 c1) (two x0 x1) w.heap.size _ (by simp) (by omega) (by omega) (fun i hi => hr.cell hi) ?_ ?_).mono ?_
  · intro i hi
    rcases lt_two hi with rfl | rfl
    · exact h0.below hal (Nat.le_refl _)
    · exact h1.below hal (Nat.le_refl _)
  · show 0 + l0 + l1 ≤ 1000
    omega
  · rintro e w' ⟨v, rfl, hown, hb⟩
    have e1 : catTo (two x0 x1) 2 = x0 ++ x1 := by
      show ([] ++ x0) ++ x1 = _
      simp
    rw [e1] at hown
    have e2 : (x0 ++ x1).length = l0 + l1 := by rw [List.length_append, h0.len, h1.len]
    obtain ⟨a, c, rfl, hl⟩ := hown.lst
    rw [e2] at hl ⊢
    exact ⟨a, c, rfl, hl, hal.trans (hb.mono hal.size)⟩
end Go.Proofs.YthmiojmlaclgaaaGreatDoor.Fx
