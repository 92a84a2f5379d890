/- What slices.Grow (of nil), slices.Concat (of four lists) and pupil.Flat return. -/
import Derived.Test.YtfcnnolpcnacoaaGreatDoorJ08
import Derived.Test.YtfcnnolpcnacoaaGreatDoorJ04
import Derived.Lib.AppendZeros
import Derived.Test.YtfcnnolpcnacoaaGreatDoorJ18
import Derived.Test.YtfcnnolpcnacoaaGreatDoorJ21
import Derived.Deep.RegionHeld3
namespace Go.Proofs.YtfcnnolpcnacoaaGreatDoor.Fx
open Go.RowKit

set_option maxRecDepth 100000 in
set_option maxHeartbeats 800000 in
theorem grow_calls (n : Nat) (w : World) (h0 : 0 < n) (h1 : n ≤ 1000) :
    Calls Tryz.prog 83 #[.slice none 0 0, .int .i64 n] w fun e w' => ∃ v, e = .returned v ∧ OwnI w.heap.size w' v [] ∧ Below w.heap.size w w' := by
  obtain ⟨i0, hi, hz0, hz1, hz2⟩ := info_parts info3
  have happ := fun ty => Lib.run_append_nil_zeros (P := Tryz.prog) w 26 3 ty 3 i0 (.int .i64 0) .i64 .i64 Tryz.underlying26 Tryz.underlying3 hi hz0 n h0 (by omega) (by omega) (by rw [hz2]; omega)
  have hge := grownCap_ge w n 0 3
  have hle := grownCap_le_maxLen w n 0 3 (by unfold maxLen; omega)
  generalize grownCap w n 0 3 = G at happ hge hle
  have hG63 : G ≤ 9223372036854775807 := by unfold maxLen at hle; omega
  have hsz : (Builtin.zeroCells (Value.int .i64 0).cells n ++ Builtin.zeroCells (Value.int .i64 0).cells (G - n)).size = G * 1 := by
    simp [size_zeroCells, Value.cells]; omega
  generalize Builtin.zeroCells (Value.int .i64 0).cells n ++ Builtin.zeroCells (Value.int .i64 0).cells (G - n) = cs at happ hsz
  have hpos : (n : Int) > 0 := by omega
  go_enter Tryz.func83, Tryz.ntmps83
  go_wp2_with (at_builtin; refine Lib.wpList_append_run _ rfl _ _ _ _ rfl _ _ rfl rfl _ _ (happ _) ?_)
  go_ret
  refine ⟨_, rfl, ⟨rfl, .inr ⟨w.heap.size, G, cs, rfl, Nat.le_refl _, ?_, Nat.zero_le _, hle, hsz, rfl⟩⟩, ?_⟩
  · exact heap_alloc_new w.drew _
  · exact ((Below.refl _ _).drew).alloc (Nat.le_refl _) _

/-! An append of as many integers as a list has. -/
section
variable {w' W0 : World} {ops : Array Oper} {o : Oper} {a : Act} {Q : Exit → Act → World → Prop}

theorem run_append_ints (ty : TypeId) (base : Nat) (v : Value) (xs ys : List Int) (src : Option Addr) (m c : Nat) (hm : 0 < m) (hown : OwnI base w' v xs) (hsrc : Lst w' src m c ys)
    (hn : (xs.length + m) * 8 ≤ 140737488355328) (hbase : base ≤ w'.heap.size) (hB : Below base W0 w') :
    ∃ v' w1, (Builtin.append_ #[26, 26] ty #[v, .slice src m c]).run Tryz.prog w' = .ok v' w1 ∧ OwnI base w1 v' (xs ++ ys) ∧ Below base W0 w1 := by
  obtain ⟨i0, hi, hz0, hz1, hz2⟩ := info_parts info3
  have hl := hsrc.len
  obtain ⟨b, off, rfl, _, hc⟩ := hsrc.at hm
  obtain ⟨v', w1, hrun, h1, h2, _⟩ := run_append_own (P := Tryz.prog) w' base 26 ty 3 i0 (.int .i64 0) 1 8 Tryz.underlying26 hi hz0 hz1 hz2 rfl (by decide) v xs.length _ hown ⟨b, off, none⟩ m c (ys.map (Value.int .i64)) (by simp [hl])
    (by intro j u hj
        have hj' : j < ys.length := by
          have := (List.getElem?_eq_some_iff.1 hj).1
          simpa using this
        rw [getD_map_int ys j hj'] at hj
        rw [Go.WideShapes.add_plain, hc j (by omega)]
        exact hj)
    (by intro u hu
        obtain ⟨z, _, rfl⟩ := List.mem_map.1 hu
        rfl) (by unfold maxLen; omega) hn hbase
  refine ⟨v', w1, hrun, by unfold OwnI; rw [List.length_append, List.map_append, hl]; exact h1, hB.grown h2 hbase ?_⟩
  intro k hk
  rcases hown.2 with ⟨rfl, _⟩ | ⟨g', cap, cur, rfl, hg, _⟩
  · simp [Value.ownBlock] at hk
  · simp [Value.ownBlock] at hk; omega

theorem wpList_append_ints {rest : List Oper} (hgd : o.guard = none) (s x : Operand) (ho : o.op = .call { callee := .builtin .append, args := #[s, x], argTypes := #[26, 26] })
    (base : Nat) (v : Value) (xs ys : List Int) (src : Option Addr) (m c : Nat) (W0 : World) (hm : 0 < m) (hs : a.eval s = v) (hx : a.eval x = .slice src m c) (hown : OwnI base w' v xs) (hsrc : Lst w' src m c ys)
    (hn : (xs.length + m) * 8 ≤ 140737488355328) (hbase : base ≤ w'.heap.size) (hB : Below base W0 w')
    (h : ∀ v' w1, OwnI base w1 v' (xs ++ ys) → Below base W0 w1 → wpList Tryz.prog ops Q rest (a.put o.dst v') w1) : wpList Tryz.prog ops Q (o :: rest) a w' := by
  obtain ⟨v', w1, hrun, h1, h2⟩ := run_append_ints o.type base v xs ys src m c hm hown hsrc hn hbase hB
  refine wpList_plain hgd fun K hK => ?_
  unfold Oper.wp
  simp [execOp, ho, resolve, invoke, builtin, hs, hx, hrun, Result.andThen]
  exact hK _ _ (h v' w1 h1 h2)
end

def lenTo (L : Nat → Nat) : Nat → Nat
  | 0 => 0
  | k + 1 => lenTo L k + L k
def catTo (X : Nat → List Int) : Nat → List Int
  | 0 => []
  | k + 1 => catTo X k ++ X k
theorem lenTo_le (L : Nat → Nat) {k n : Nat} (h : k ≤ n) : lenTo L k ≤ lenTo L n := by
  induction n with
  | zero => obtain rfl : k = 0 := by omega
            exact Nat.le_refl _
  | succ n ih =>
    by_cases e : k = n + 1
    · subst e; exact Nat.le_refl _
    · have := ih (by omega)
      rw [lenTo]; omega
theorem catTo_len (X : Nat → List Int) (L : Nat → Nat) (n : Nat) (h : ∀ i, i < n → (X i).length = L i) : (catTo X n).length = lenTo L n := by
  induction n with
  | zero => rfl
  | succ n ih => rw [catTo, lenTo, List.length_append, ih (fun i hi => h i (by omega)), h n (by omega)]

set_option maxHeartbeats 1600000 in
theorem concat_calls (n : Nat) (A : Nat → Option Addr) (L C : Nat → Nat) (X : Nat → List Int) (b : Nat) (w : World) (hb : b < w.heap.size) (hn0 : 0 < n) (hn : n ≤ 1000) (hc : ∀ i, i < n → w.cell? ⟨b, i, none⟩ = some (.slice (A i) (L i) (C i)))
    (hl : ∀ i, i < n → Lst w (A i) (L i) (C i) (X i)) (hp : ∀ i, i < n → 0 < L i) (hs : lenTo L n ≤ 1000) :
    Calls Tryz.prog 62 #[.slice (some ⟨b, 0, none⟩) n n] w fun e w' => ∃ v, e = .returned v ∧ OwnI w.heap.size w' v (catTo X n) ∧ Below w.heap.size w w' := by
  have HC : Hid (∀ i, i < n → w.cell? ⟨b, i, none⟩ = some (.slice (A i) (L i) (C i))) := hc
  have HL : Hid (∀ i, i < n → Lst w (A i) (L i) (C i) (X i)) := hl
  have HP : Hid (∀ i, i < n → 0 < L i) := hp
  clear hc hl hp
  go_enter Tryz.func62, Tryz.ntmps62
  go_wp2
  go_loopw [3, 11] (fun s i wr => ∃ k : Nat, k ≤ n ∧ i = .int .i64 k ∧ s = .int .i64 (lenTo L k) ∧ wr = w) (fun _ i _ => n - (intOf i).toNat)
  case atStart => exact ⟨0, Nat.zero_le _, rfl, rfl, rfl⟩
  case round =>
    obtain ⟨k, hk, rfl, rfl, hw⟩ := hrel
    replace hw := hw.symm
    subst hw
    by_cases hlt : k < n
    · have c := HC.out k hlt
      have b1 := lenTo_le L (k := k + 1) (n := n) (by omega)
      have b2 : lenTo L (k + 1) = lenTo L k + L k := rfl
      obtain ⟨l, hl⟩ : ∃ l, Hid (L k = l) := ⟨_, rfl⟩
      obtain ⟨T, hT⟩ : ∃ T, Hid (lenTo L k = T) := ⟨_, rfl⟩
      rw [hl.out] at c b2
      rw [hT.out] at b2
      have b3 : T + l ≤ 1000 := by omega
      rw [hT.out]
      clear b1 b2
      go_wp2
      go_roundw
      case rel => exact ⟨k + 1, by omega, by go_num, by rw [lenTo, hT.out, hl.out]; go_num, by trivial⟩
      case measure => simp [intOf]; omega
    · obtain rfl : k = n := by omega
      have hpos : 0 < lenTo L k := by
        have b1 := lenTo_le L (k := 1) (n := k) (by omega)
        have b2 : lenTo L 1 = 0 + L 0 := rfl
        have := HP.out 0 hn0
        omega
      obtain ⟨T, hT⟩ : ∃ T, Hid (lenTo L k = T) := ⟨_, rfl⟩
      have HS : Hid (lenTo L k ≤ 1000) := hs
      rw [hT.out] at hs hpos ⊢
      go_wp2_with fail
      refine (grow_calls T _ hpos hs).mono ?_
      rintro e w1 ⟨v0, rfl, hown, hw1⟩
      go_wp2
      go_loopw [6, 27] (fun v i wr => ∃ j : Nat, j ≤ k ∧ i = .int .i64 j ∧ OwnI w.heap.size wr v (catTo X j) ∧ Below w.heap.size w wr) (fun _ i _ => k - (intOf i).toNat)
      case atStart => exact ⟨0, Nat.zero_le _, rfl, hown, hw1⟩
      case round =>
        obtain ⟨j, hj, rfl, hown, hbel⟩ := hrel
        have hsz := hbel.size
        by_cases hlt2 : j < k
        · have c := (hbel.cell (p := ⟨b, j, none⟩) (by exact hb)).trans (HC.out j hlt2)
          have hx := (HL.out j hlt2).below hbel (Nat.le_refl _)
          have hp := HP.out j hlt2
          have hlen : (catTo X j).length + L j ≤ 1000 := by
            rw [catTo_len X L j (fun i hi => (HL.out i (by omega)).len)]
            have b1 := lenTo_le L (k := j + 1) (n := k) (by omega)
            have b2 : lenTo L (j + 1) = lenTo L j + L j := rfl
            have := HS.out
            omega
          obtain ⟨l, hl⟩ : ∃ l, Hid (L j = l) := ⟨_, rfl⟩
          rw [hl.out] at c hx hp hlen
          go_wp2_with (at_builtin; refine wpList_append_ints (by rfl) _ _ (by rfl) w.heap.size _ (catTo X j) (X j) (A j) l (C j) w hp (by rfl) (by rfl) (by exact hown) (by exact hx) (by omega) (by exact hsz) (by exact hbel) ?_; intro v1 w3 hown1 hbel1)
          go_roundw
          case rel => exact ⟨j + 1, by omega, by go_num, hown1, hbel1⟩
          case measure => simp [intOf]; omega
        · obtain rfl : j = k := by omega
          go_wp2
          go_ret
          exact ⟨_, rfl, hown, hbel⟩

def four {α : Type} (x0 x1 x2 x3 : α) (i : Nat) : α := if i = 0 then x0 else if i = 1 then x1 else if i = 2 then x2 else x3
theorem lt_four {i : Nat} (h : i < 4) : i = 0 ∨ i = 1 ∨ i = 2 ∨ i = 3 := by omega

theorem concat4 (a0 a1 a2 a3 : Option Addr) (l0 l1 l2 l3 c0 c1 c2 c3 : Nat) (x0 x1 x2 x3 : List Int) (g : Nat) (w : World) (hg : g = w.heap.size) (h0 : Lst w a0 l0 c0 x0) (h1 : Lst w a1 l1 c1 x1) (h2 : Lst w a2 l2 c2 x2) (h3 : Lst w a3 l3 c3 x3)
    (p0 : 0 < l0) (p1 : 0 < l1) (p2 : 0 < l2) (p3 : 0 < l3) (hs : l0 + l1 + l2 + l3 ≤ 1000) :
    Calls Tryz.prog 62 #[.slice (some ⟨g, 0, none⟩) 4 4] (w.alloc (.cells #[.slice a0 l0 c0, .slice a1 l1 c1, .slice a2 l2 c2, .slice a3 l3 c3] 26)) fun e w' => ∃ a n c, e = .returned (.slice a n c) ∧ n = l0 + l1 + l2 + l3 ∧ Lst w' a n c (x0 ++ (x1 ++ (x2 ++ x3))) ∧ Below w.heap.size w w' := by
  subst hg
  have hal := (Below.refl w.heap.size w).alloc (Nat.le_refl _) (.cells #[.slice a0 l0 c0, .slice a1 l1 c1, .slice a2 l2 c2, .slice a3 l3 c3] 26)
  have hr := World.rowIs_alloc w #[.slice a0 l0 c0, .slice a1 l1 c1, .slice a2 l2 c2, .slice a3 l3 c3] 26 (fun i => .slice (four a0 a1 a2 a3 i) (four l0 l1 l2 l3 i) (four c0 c1 c2 c3 i)) (by
    intro i hi
    rcases lt_four hi with rfl | rfl | rfl | rfl <;> rfl)
  refine (concat_calls 4 (four a0 a1 a2 a3) (four l0 l1 l2 l3) (four c0 c1 c2 c3) (four x0 x1 x2 x3) w.heap.size _ (by simp) (by omega) (by omega) (fun i hi => hr.cell hi) ?_ ?_ ?_).mono ?_
  · intro i hi
    rcases lt_four hi with rfl | rfl | rfl | rfl
    · exact h0.below hal (Nat.le_refl _)
    · exact h1.below hal (Nat.le_refl _)
    · exact h2.below hal (Nat.le_refl _)
    · exact h3.below hal (Nat.le_refl _)
  · intro i hi
    rcases lt_four hi with rfl | rfl | rfl | rfl
    · exact p0
    · exact p1
    · exact p2
    · exact p3
  · show 0 + l0 + l1 + l2 + l3 ≤ 1000
    omega
  · rintro e w' ⟨v, rfl, hown, hb⟩
    obtain ⟨a, c, rfl, hl⟩ := hown.lst
    have e1 : catTo (four x0 x1 x2 x3) 4 = x0 ++ (x1 ++ (x2 ++ x3)) := by
      show (([] ++ x0) ++ x1 ++ x2) ++ x3 = _
      simp [List.append_assoc]
    rw [e1] at hl ⊢
    exact ⟨a, _, c, rfl, by simp [h0.len, h1.len, h2.len, h3.len]; omega, hl, hal.trans (hb.mono hal.size)⟩

theorem flatD_len {I H O : Nat} {a1 : Option Addr} {k1 : Nat} {a2 : Option Addr} {k2 : Nat} {d1 : Option Addr} {e1 : Nat} {d2 : Option Addr} {e2 : Nat} {d : PD} {w : World} (h : InPup w (rpup I H O a1 k1 a2 k2 d1 e1 d2 e2) d) :
    d.X1.length = H * I ∧ d.B1.length = H ∧ d.X2.length = O * H ∧ d.B2.length = O := ⟨h.x1.len, h.b1.len, h.x2.len, h.b2.len⟩

set_option maxHeartbeats 1600000 in
theorem pflat_calls (p : Pup) (d : PD) (w : World) (h : InPup w p d) :
    Calls Tryz.prog 95 #[p.val] w fun e w' => ∃ a n c, e = .returned (.tuple #[.slice a n c, .int .i64 (pchk p d)]) ∧ n ≤ 40 ∧ Lst w' a n c (flatL p d) ∧ Below w.heap.size w w' := by
  have hal := (Below.refl w.heap.size w).alloc (Nat.le_refl _) (.cells p.cells 140)
  have h1 := h.below hal (Nat.le_refl _)
  have hck := pcheck_calls p d _ h1
  unfold flatL
  rcases pchk_cases p d with h0 | ⟨h0, t0, _⟩
  · rw [if_pos h0]
    have G : Hid (pchk p d = 0) := h0
    obtain ⟨I, H, O, a1, k1, a2, k2, d1, e1, d2, e2, rfl, i1, i2, j1, j2, o1, o2, hr⟩ := pchk_zero h0
    clear h0 hr h
    obtain ⟨X1, X2, B1, B2⟩ := d
    obtain ⟨hx1, hx2, hb1, hb2⟩ := h1
    simp only [Pup.val, Pup.cells, rpup] at *
    have s1 := prod_sideN j2 i2
    have s2 := prod_sideN o2 j2
    have s3 : 0 < H * I := Nat.mul_pos (by omega) (by omega)
    have s4 : 0 < O * H := Nat.mul_pos (by omega) (by omega)
    go_enter Tryz.func95, Tryz.ntmps95
    go_wp2_with fail
    refine hck.mono ?_
    rintro e w1 ⟨rfl, hw1⟩
    rw [G.out]
    obtain ⟨f0, f1, f2, f3, f4, f5, f6, f7⟩ := box8 hw1 (by simp)
    have hbw := hal.trans (hw1.mono hal.size)
    have hx1 := hx1.below hw1 (Nat.le_refl _)
    have hx2 := hx2.below hw1 (Nat.le_refl _)
    have hb1 := hb1.below hw1 (Nat.le_refl _)
    have hb2 := hb2.below hw1 (Nat.le_refl _)
    clear hal hck hw1
    go_wp2_with fail
    refine (concat4 a1 d1 a2 d2 _ _ _ _ _ _ _ _ X1 B1 X2 B2 _ _ rfl hx1 hb1 hx2 hb2 s3 (by omega) s4 (by omega) (by omega)).mono ?_
    rintro e w2 ⟨a, n, c, rfl, hn, hl, hw2⟩
    have hn40 : n ≤ 40 := by omega
    clear hn
    go_wp2
    go_ret2
    exact ⟨a, n, c, by rw [G.out]; rfl, hn40, hl, hbw.trans (hw2.mono hbw.size)⟩
  · rw [if_neg h0]
    obtain ⟨r1, c1, a1, n1, k1, r2, c2, a2, n2, k2, d1, m1, e1, d2, m2, e2⟩ := p
    simp only [Pup.val, Pup.cells] at *
    clear h h1
    go_enter Tryz.func95, Tryz.ntmps95
    go_wp2_with fail
    refine hck.mono ?_
    rintro e w1 ⟨rfl, hw1⟩
    go_wp2
    go_ret2
    exact ⟨_, _, _, rfl, Nat.zero_le _, Lst.nil _ _ _, hal.trans (hw1.mono hal.size)⟩
end Go.Proofs.YtfcnnolpcnacoaaGreatDoor.Fx

/- What train.mean returns, of right things. -/
namespace Go.Proofs.YtfcnnolpcnacoaaGreatDoor.Fx
open Go.RowKit

theorem via7 {P : Prop} {F Q : Nat → Nat → Nat → Nat → Nat → World → Prop} (h1 : (∀ g1 g2 g3 g4 GB q, F g1 g2 g3 g4 GB q → Q g1 g2 g3 g4 GB q) → P) (h2 : ∀ g1 g2 g3 g4 GB q, F g1 g2 g3 g4 GB q → Q g1 g2 g3 g4 GB q) : P := h1 h2
/-- Behind the gradient: where its struct lies. -/
structure GrAt (W : World) (I H O : Nat) (D : PD) (g1 g2 g3 g4 GB : Nat) (q : World) : Prop where
  row : q.rowIs GB 140 8 (fn8 (.int .i64 H) (.int .i64 I) (.slice (some ⟨g1, 0, none⟩) (H * I) (H * I)) (.int .i64 O) (.int .i64 H) (.slice (some ⟨g2, 0, none⟩) (O * H) (O * H)) (.slice (some ⟨g3, 0, none⟩) H H) (.slice (some ⟨g4, 0, none⟩) O O))
  pup : InPup q (rpup I H O (some ⟨g1, 0, none⟩) (H * I) (some ⟨g2, 0, none⟩) (O * H) (some ⟨g3, 0, none⟩) H (some ⟨g4, 0, none⟩) O) D
  bel : Below W.heap.size W q
theorem Lst.grownFar {w w' : World} {g off n c b : Nat} {xs : List Int} (h : Lst w (some ⟨g, off, none⟩) n c xs) (hg : w.grownBy w' (some b)) (hne : g ≠ b) : Lst w' (some ⟨g, off, none⟩) n c xs := h.grown hg hne
theorem below_grown8 {W w : World} (h : Below W.heap.size W w) {b : Nat} (hb : W.heap.size ≤ b) (v0 v1 v2 v3 v4 v5 v6 v7 : Value) :
    Below W.heap.size W ((((((((w.setCell ⟨b, 0, none⟩ v0).setCell ⟨b, 1, none⟩ v1).setCell ⟨b, 2, none⟩ v2).setCell ⟨b, 3, none⟩ v3).setCell ⟨b, 4, none⟩ v4).setCell ⟨b, 5, none⟩ v5).setCell ⟨b, 6, none⟩ v6).setCell ⟨b, 7, none⟩ v7) :=
  h.grown (grown8 w b v0 v1 v2 v3 v4 v5 v6 v7) h.size (fun k hk => by simp at hk; omega)
theorem sum_step {f : Nat → Nat → Int} {k N : Nat} {ys : List Int} (h : ∀ i, f k i = ys.getD i 0) {w : World} {g t : Nat} (hr : w.rowIs g t N (rowTo (sumG ((List.range N).map (accTo f k)) ys) N)) : w.rowIs g t N (rowTo (accTo f (k + 1)) N) := by
  refine hr.congr (fun i hi => ?_)
  unfold rowTo
  rw [if_pos hi, if_pos hi]
  unfold sumG
  rw [getD_range _ hi, ← h i]
  rfl

set_option maxRecDepth 100000 in
set_option maxHeartbeats 6400000 in
theorem tmean_calls (I H O B : Nat) (seed steps crate decay how keep clip : Int) (hc : cfgB ⟨I, H, O, seed, B, steps, crate, decay, how, keep, clip⟩ = true) (N : Nat) (hN : N = H * I + H + O * H + O) (a : Option Addr) (n cap : Nat) (X : Nat → Exm) (DI DO : Nat → List Int) (a1 : Option Addr) (k1 : Nat) (ws : List Int) (ab : Option Addr) (kb : Nat) (BL : List Int) (f : Nat → Nat → Int) (w : World)
    (hx : Exs w a n cap X DI DO) (_ : n ≤ 16) (hex : allEx ⟨I, H, O, seed, B, steps, crate, decay, how, keep, clip⟩ n X DI DO = true) (l1 : Lst w a1 N k1 ws) (hr : rightB ws = true) (lb : Lst w ab B kb BL) (hB : ∀ k, k < B → ∃ j : Nat, j < n ∧ BL.getD k 0 = (j : Int)) (hf : ∀ k i, f k i = (gradOf I H O ws DI DO (BL.getD k 0).toNat).getD i 0) :
    Calls Tryz.prog 67 #[Cfg.val ⟨I, H, O, seed, B, steps, crate, decay, how, keep, clip⟩, .slice a n cap, .slice a1 N k1, .slice ab B kb] w fun e w' => ∃ g, e = .returned (.slice (some ⟨g, 0, none⟩) N N) ∧ w.heap.size ≤ g ∧ Lst w' (some ⟨g, 0, none⟩) N N ((List.range N).map (meanG f B)) ∧ Below w.heap.size w w' := by
  obtain ⟨⟨i1, i2⟩, ⟨h1, h2⟩, ⟨p1, p2⟩, ⟨b1, b2⟩, _⟩ := cfgB_is hc
  dsimp only at i1 i2 h1 h2 p1 p2 b1 b2
  have hN4 : 4 ≤ N ∧ N ≤ 40 := by
    have := prod_sideN (show H ≤ 4 by omega) (show I ≤ 4 by omega)
    have := prod_sideN (show O ≤ 4 by omega) (show H ≤ 4 by omega)
    have : 1 ≤ H * I := Nat.mul_pos (by omega) (by omega)
    have : 1 ≤ O * H := Nat.mul_pos (by omega) (by omega)
    omega
  have hal := low_alloc w (.cells (Cfg.cells ⟨I, H, O, seed, B, steps, crate, decay, how, keep, clip⟩) 24)
  have l1' := l1.below hal (Nat.le_refl _)
  have hcr := cutD_right (l1.len.trans hN) hr
  have HCR : Hid (RightD (cutD I H O ws)) := hcr
  have HSh : Hid (Calls Tryz.prog 93 #[.int .i64 I, .int .i64 H, .int .i64 O, .slice a1 N k1] (w.alloc (.cells (Cfg.cells ⟨I, H, O, seed, B, steps, crate, decay, how, keep, clip⟩) 24)) fun e w' => ∃ a1 a2 b1 b2, e = .returned (.tuple #[(rpup I H O a1 (H * I) a2 (O * H) b1 H b2 O).val, .int .i64 0]) ∧ InPup w' (rpup I H O a1 (H * I) a2 (O * H) b1 H b2 O) (cutD I H O ws) ∧ Below (w.alloc (.cells (Cfg.cells ⟨I, H, O, seed, B, steps, crate, decay, how, keep, clip⟩) 24)).heap.size (w.alloc (.cells (Cfg.cells ⟨I, H, O, seed, B, steps, crate, decay, how, keep, clip⟩) 24)) w') := shape_good I H O a1 N k1 ws _ l1' (by omega) (by omega) (by omega) (by omega) (by omega) (by omega) hN hr
  have KB : Hid (∀ q, Below (w.alloc (.cells (Cfg.cells ⟨I, H, O, seed, B, steps, crate, decay, how, keep, clip⟩) 24)).heap.size (w.alloc (.cells (Cfg.cells ⟨I, H, O, seed, B, steps, crate, decay, how, keep, clip⟩) 24)) q → BoxC q w.heap.size ⟨I, H, O, seed, B, steps, crate, decay, how, keep, clip⟩) := fun q hq => boxC hq (by simp)
  have hmk := run_make_row' (P := Tryz.prog) 26 3 (.int .i64 0) 8 Tryz.underlying26 info3 rfl .i64 .i64 N (by omega) (by omega)
  have HN : Hid (N = H * I + H + O * H + O) := hN
  have HEX : Hid (allEx ⟨I, H, O, seed, B, steps, crate, decay, how, keep, clip⟩ n X DI DO = true) := hex
  have HF : Hid (∀ k i, f k i = (gradOf I H O ws DI DO (BL.getD k 0).toNat).getD i 0) := hf
  have HBI : Hid (∀ k, k < B → ∃ j : Nat, j < n ∧ BL.getD k 0 = (j : Int)) := hB
  clear hc hN hex hf hB hr hcr l1 l1'
  simp only [Cfg.val, Cfg.cells] at *
  go_enter Tryz.func67, Tryz.ntmps67
  go_wp2_with fail
  refine HSh.out.mono ?_
  rintro e w2 ⟨pa1, pa2, pb1, pb2, rfl, hpup, hw2⟩
  have T2 := hal.trans (hw2.mono hal.size)
  have mrow := fn8_alloc w2 (.int .i64 H) (.int .i64 I) (.slice pa1 (H * I) (H * I)) (.int .i64 O) (.int .i64 H) (.slice pa2 (O * H) (O * H)) (.slice pb1 H H) (.slice pb2 O O) 140
  have hal3 := low_alloc w2 (.cells #[.int .i64 H, .int .i64 I, .slice pa1 (H * I) (H * I), .int .i64 O, .int .i64 H, .slice pa2 (O * H) (O * H), .slice pb1 H H, .slice pb2 O O] 140)
  have T3 := T2.trans (hal3.mono T2.size)
  have hp3 := hpup.below hal3 (Nat.le_refl _)
  have KB3 : Hid (∀ q, Below (w2.alloc (.cells #[.int .i64 H, .int .i64 I, .slice pa1 (H * I) (H * I), .int .i64 O, .int .i64 H, .slice pa2 (O * H) (O * H), .slice pb1 H H, .slice pb2 O O] 140)).heap.size (w2.alloc (.cells #[.int .i64 H, .int .i64 I, .slice pa1 (H * I) (H * I), .int .i64 O, .int .i64 H, .slice pa2 (O * H) (O * H), .slice pb1 H H, .slice pb2 O O] 140)) q → BoxC q w.heap.size ⟨I, H, O, seed, B, steps, crate, decay, how, keep, clip⟩) := fun q hq => KB.out q ((hw2.trans (hal3.mono hw2.size)).trans (hq.mono (hw2.trans (hal3.mono hw2.size)).size))
  clear HSh hpup hw2 KB hal
  simp only [rpup, Pup.val, Pup.cells] at *
  go_wp2_with fail
  generalize hw3 : w2.alloc (.cells #[.int .i64 H, .int .i64 I, .slice pa1 (H * I) (H * I), .int .i64 O, .int .i64 H, .slice pa2 (O * H) (O * H), .slice pb1 H H, .slice pb2 O O] 140) = w3 at *
  have hs3 : w3.heap.size = w2.heap.size + 1 := by rw [← hw3]; simp
  clear hw3
  have hx3 : Exs w3 a n cap X DI DO := hx.below T3 (Nat.le_refl _)
  have lb3 := lb.below T3 (Nat.le_refl _)
  clear hx lb T2 hal3
  have hz3 := T3.size
  go_loopw [11, 36] (fun s v wr => ∃ k g : Nat, k ≤ B ∧ v = .int .i64 k ∧ s = .slice (some ⟨g, 0, none⟩) N N ∧ w3.heap.size ≤ g ∧ wr.rowIs g 3 N (rowTo (accTo f k) N) ∧ Below w3.heap.size w3 wr) (fun _ v _ => B - (intOf v).toNat)
  case atStart => exact ⟨0, w2.heap.size + 1, Nat.zero_le _, rfl, rfl, by omega, by have h := World.rowIs_made w3 (.int .i64 0) N 3; rw [hs3] at h; exact h.congr (fun i hi => by unfold rowTo; rw [if_pos hi]; rfl), low_alloc _ _⟩
  case round =>
    clear hmk
    obtain ⟨k, g, hk, rfl, rfl, hg, grow, hbel⟩ := hrel
    by_cases hlt : k < B
    · obtain ⟨j, hj, hBj⟩ := HBI.out k hlt
      obtain ⟨bb, ob, rfl, hbb, hcb⟩ := lb3.at (by omega)
      have e7 : w3.cell? ⟨bb, ob + k, none⟩ = some (.int .i64 j) := by have := hcb k hlt; rw [hBj] at this; exact this
      obtain ⟨xb, xo, rfl, e8, e9, hin⟩ := hx3.at hj
      have hexj := exB_is (allEx_is HEX.out hj)
      have hfk : ∀ i, f k i = (gradOf I H O ws DI DO j).getD i 0 := fun i => by rw [HF.out, hBj]; rfl
      have HFK : Hid (∀ i, f k i = (gradOf I H O ws DI DO j).getD i 0) := hfk
      obtain ⟨xx, hxx⟩ : ∃ x, X j = x := ⟨_, rfl⟩
      rw [hxx] at e8 e9 hin hexj
      obtain ⟨xa, xn, xk, ya, yn, yk⟩ := xx
      dsimp only at e8 e9 hin hexj
      obtain rfl : I = xn := by have := hexj.1; omega
      obtain rfl : O = yn := by have := hexj.2.1; omega
      have KT : Hid (∀ q, Below w3.heap.size w3 q → q.cell? ⟨w2.heap.size, 0, none⟩ = some (.int .i64 H) ∧ q.cell? ⟨w2.heap.size, 1, none⟩ = some (.int .i64 I) ∧ q.cell? ⟨w2.heap.size, 2, none⟩ = some (.slice pa1 (H * I) (H * I)) ∧ q.cell? ⟨w2.heap.size, 3, none⟩ = some (.int .i64 O) ∧ q.cell? ⟨w2.heap.size, 4, none⟩ = some (.int .i64 H) ∧ q.cell? ⟨w2.heap.size, 5, none⟩ = some (.slice pa2 (O * H) (O * H)) ∧ q.cell? ⟨w2.heap.size, 6, none⟩ = some (.slice pb1 H H) ∧ q.cell? ⟨w2.heap.size, 7, none⟩ = some (.slice pb2 O O) ∧ q.cell? ⟨xb, xo + j * 2, none⟩ = some (.slice xa I xk) ∧ q.cell? ⟨xb, xo + j * 2 + 1, none⟩ = some (.slice ya O yk)) := fun q hq => by
        obtain ⟨m0, m1, m2, m3, m4, m5, m6, m7⟩ := fn8_box (mrow.of_block (hq.block _ mrow.lt))
        exact ⟨m0, m1, m2, m3, m4, m5, m6, m7, (hq.cell (p := ⟨xb, xo + j * 2, none⟩) (cell_lt e8)).trans e8, (hq.cell (p := ⟨xb, xo + j * 2 + 1, none⟩) (cell_lt e9)).trans e9⟩
      have HG : Hid (∀ q, Below w3.heap.size w3 q → Calls Tryz.prog 94 #[.agg #[.int .i64 H, .int .i64 I, .slice pa1 (H * I) (H * I), .int .i64 O, .int .i64 H, .slice pa2 (O * H) (O * H), .slice pb1 H H, .slice pb2 O O], .agg #[.slice xa I xk, .slice ya O yk]] q fun e w' => ∃ g1 g2 g3 g4 : Nat, e = .returned (.tuple #[.agg #[.int .i64 H, .int .i64 I, .slice (some ⟨g1, 0, none⟩) (H * I) (H * I), .int .i64 O, .int .i64 H, .slice (some ⟨g2, 0, none⟩) (O * H) (O * H), .slice (some ⟨g3, 0, none⟩) H H, .slice (some ⟨g4, 0, none⟩) O O], .int .i64 0]) ∧ (q.heap.size ≤ g1 ∧ q.heap.size ≤ g2 ∧ q.heap.size ≤ g3 ∧ q.heap.size ≤ g4) ∧ InPup w' (rpup I H O (some ⟨g1, 0, none⟩) (H * I) (some ⟨g2, 0, none⟩) (O * H) (some ⟨g3, 0, none⟩) H (some ⟨g4, 0, none⟩) O) (graD (cutD I H O ws) (DI j) (DO j) I H O) ∧ Below q.heap.size q w') := fun q hq =>
        pgrad_at I H O pa1 (H * I) pa2 (O * H) pb1 H pb2 O (cutD I H O ws) xa xk (DI j) ya yk (DO j) q (hp3.below hq (Nat.le_refl _)) (hin.i.below hq (Nat.le_refl _)) (hin.o.below hq (Nat.le_refl _)) HCR.out (by omega) (by omega) (by omega) (by omega) (by omega) (by omega)
      have e7r := (hbel.cell (p := ⟨bb, ob + k, none⟩) (cell_lt e7)).trans e7
      clear hexj hxx hcb e7 e8 e9 hin hfk
      have Td : Below w3.heap.size w3 wr.drew := below_drewN hbel 1
      have S0 := KT.out _ Td
      have Ta : Below w3.heap.size w3 (wr.alloc (.cells #[.int .i64 0, .int .i64 0, .slice none 0 0, .int .i64 0, .int .i64 0, .slice none 0 0, .slice none 0 0, .slice none 0 0] 140)).drew := below_drewN (hbel.alloc hbel.size _) 1
      have Sa := KT.out _ Ta
      have rowa : (wr.alloc (.cells #[.int .i64 0, .int .i64 0, .slice none 0 0, .int .i64 0, .int .i64 0, .slice none 0 0, .slice none 0 0, .slice none 0 0] 140)).drew.rowIs wr.heap.size 140 8 (fn8 (.int .i64 0) (.int .i64 0) (.slice none 0 0) (.int .i64 0) (.int .i64 0) (.slice none 0 0) (.slice none 0 0) (.slice none 0 0)) := fn8_alloc wr (.int .i64 0) (.int .i64 0) (.slice none 0 0) (.int .i64 0) (.int .i64 0) (.slice none 0 0) (.slice none 0 0) (.slice none 0 0) 140
      have dr : Below wr.heap.size wr wr.drew := below_drewN (Below.refl _ _) 1
      have da : Below wr.heap.size wr (wr.alloc (.cells #[.int .i64 0, .int .i64 0, .slice none 0 0, .int .i64 0, .int .i64 0, .slice none 0 0, .slice none 0 0, .slice none 0 0] 140)).drew := below_drewN (low_alloc _ _) 1
      have jn : (j : Int) < (n : Int) := by omega
      have j0 : (0 : Int) ≤ (j : Int) := by omega
      have hszw := hbel.size
      go_wp2_with fail
      apply via7 (F := GrAt wr I H O (graD (cutD I H O ws) (DI j) (DO j) I H O))
      · intro key
        go_region_held3 (fun q => q.cell? ⟨w2.heap.size, 0, none⟩ = some (.int .i64 H) ∧ q.cell? ⟨w2.heap.size, 1, none⟩ = some (.int .i64 I) ∧ q.cell? ⟨w2.heap.size, 2, none⟩ = some (.slice pa1 (H * I) (H * I)) ∧ q.cell? ⟨w2.heap.size, 3, none⟩ = some (.int .i64 O) ∧ q.cell? ⟨w2.heap.size, 4, none⟩ = some (.int .i64 H) ∧ q.cell? ⟨w2.heap.size, 5, none⟩ = some (.slice pa2 (O * H) (O * H)) ∧ q.cell? ⟨w2.heap.size, 6, none⟩ = some (.slice pb1 H H) ∧ q.cell? ⟨w2.heap.size, 7, none⟩ = some (.slice pb2 O O) ∧ q.cell? ⟨xb, xo + j * 2, none⟩ = some (.slice xa I xk) ∧ q.cell? ⟨xb, xo + j * 2 + 1, none⟩ = some (.slice ya O yk)) (first | with_reducible exact S1a | with_reducible exact S1f | with_reducible exact S3 | with_reducible exact S1 | with_reducible exact Sa | with_reducible exact S0)
          (first | (go_at_call 94; (first | refine (HG.out _ Td).mono ?_ | refine (HG.out _ Ta).mono ?_); rintro e u1 ⟨g1, g2, g3, g4, rfl, hgs, hgi, hu1⟩; have V1 : Below w3.heap.size w3 u1 := (by first | exact Td.trans (hu1.mono Td.size) | exact Ta.trans (hu1.mono Ta.size)); have U1 : Below wr.heap.size wr u1 := (by first | exact dr.trans (hu1.mono dr.size) | exact da.trans (hu1.mono da.size)); have S1 := KT.out _ V1; have V1a := V1.alloc V1.size (.cells #[.int .i64 0, .int .i64 0, .slice none 0 0, .int .i64 0, .int .i64 0, .slice none 0 0, .slice none 0 0, .slice none 0 0] 140); have S1a := KT.out _ V1a; have V1f := V1.alloc V1.size (.cells #[.int .i64 H, .int .i64 I, .slice (some ⟨g1, 0, none⟩) (H * I) (H * I), .int .i64 O, .int .i64 H, .slice (some ⟨g2, 0, none⟩) (O * H) (O * H), .slice (some ⟨g3, 0, none⟩) H H, .slice (some ⟨g4, 0, none⟩) O O] 140); have S1f := KT.out _ V1f; have V3 := below_grown8 (b := wr.heap.size) V1 hszw (.int .i64 H) (.int .i64 I) (.slice (some ⟨g1, 0, none⟩) (H * I) (H * I)) (.int .i64 O) (.int .i64 H) (.slice (some ⟨g2, 0, none⟩) (O * H) (O * H)) (.slice (some ⟨g3, 0, none⟩) H H) (.slice (some ⟨g4, 0, none⟩) O O); have S3 := KT.out _ V3; (first | (have zr := rowa.of_block (hu1.block _ rowa.lt); obtain ⟨z0, z1, z2, z3, z4, z5, z6, z7⟩ := fn8_box zr; have y0 := zr.frozen 0; have y1 := zr.frozen 1; have y2 := zr.frozen 2; have y3 := zr.frozen 3; have y4 := zr.frozen 4; have y5 := zr.frozen 5; have y6 := zr.frozen 6; have y7 := zr.frozen 7) | skip)))
        · have f0 : GrAt wr I H O (graD (cutD I H O ws) (DI j) (DO j) I H O) g1 g2 g3 g4 u1.heap.size (u1.alloc (.cells #[.int .i64 H, .int .i64 I, .slice (some ⟨g1, 0, none⟩) (H * I) (H * I), .int .i64 O, .int .i64 H, .slice (some ⟨g2, 0, none⟩) (O * H) (O * H), .slice (some ⟨g3, 0, none⟩) H H, .slice (some ⟨g4, 0, none⟩) O O] 140)) := ⟨fn8_alloc u1 (.int .i64 H) (.int .i64 I) (.slice (some ⟨g1, 0, none⟩) (H * I) (H * I)) (.int .i64 O) (.int .i64 H) (.slice (some ⟨g2, 0, none⟩) (O * H) (O * H)) (.slice (some ⟨g3, 0, none⟩) H H) (.slice (some ⟨g4, 0, none⟩) O O) 140, hgi.below (low_alloc _ _) (Nat.le_refl _), U1.trans ((low_alloc _ _).mono U1.size)⟩
          generalize u1.alloc (.cells #[.int .i64 H, .int .i64 I, .slice (some ⟨g1, 0, none⟩) (H * I) (H * I), .int .i64 O, .int .i64 H, .slice (some ⟨g2, 0, none⟩) (O * H) (O * H), .slice (some ⟨g3, 0, none⟩) H H, .slice (some ⟨g4, 0, none⟩) O O] 140) = q at f0 ⊢
          generalize u1.heap.size = GB at f0 ⊢
          exact key g1 g2 g3 g4 GB q f0
        · obtain ⟨s1, s2, s3, s4⟩ := hgs
          simp at s1 s2 s3 s4
          have hgr := grown8 u1 wr.heap.size (.int .i64 H) (.int .i64 I) (.slice (some ⟨g1, 0, none⟩) (H * I) (H * I)) (.int .i64 O) (.int .i64 H) (.slice (some ⟨g2, 0, none⟩) (O * H) (O * H)) (.slice (some ⟨g3, 0, none⟩) H H) (.slice (some ⟨g4, 0, none⟩) O O)
          exact key g1 g2 g3 g4 _ _ ⟨fn8_set8 zr (.int .i64 H) (.int .i64 I) (.slice (some ⟨g1, 0, none⟩) (H * I) (H * I)) (.int .i64 O) (.int .i64 H) (.slice (some ⟨g2, 0, none⟩) (O * H) (O * H)) (.slice (some ⟨g3, 0, none⟩) H H) (.slice (some ⟨g4, 0, none⟩) O O), ⟨hgi.x1.grown hgr (by omega), hgi.x2.grown hgr (by omega), hgi.b1.grown hgr (by omega), hgi.b2.grown hgr (by omega)⟩, below_grown8 U1 (Nat.le_refl _) (.int .i64 H) (.int .i64 I) (.slice (some ⟨g1, 0, none⟩) (H * I) (H * I)) (.int .i64 O) (.int .i64 H) (.slice (some ⟨g2, 0, none⟩) (O * H) (O * H)) (.slice (some ⟨g3, 0, none⟩) H H) (.slice (some ⟨g4, 0, none⟩) O O)⟩
      · rintro g1 g2 g3 g4 GB q ⟨qrow, qpup, qbel⟩
        clear S0 Sa Td Ta rowa dr da KT HG
        obtain ⟨m0, m1, m2, m3, m4, m5, m6, m7⟩ := fn8_box qrow
        have HFl : Hid (Calls Tryz.prog 95 #[.agg #[.int .i64 H, .int .i64 I, .slice (some ⟨g1, 0, none⟩) (H * I) (H * I), .int .i64 O, .int .i64 H, .slice (some ⟨g2, 0, none⟩) (O * H) (O * H), .slice (some ⟨g3, 0, none⟩) H H, .slice (some ⟨g4, 0, none⟩) O O]] q fun e w' => ∃ a c, e = .returned (.tuple #[.slice a N c, .int .i64 0]) ∧ Lst w' a N c (gradOf I H O ws DI DO j) ∧ Below q.heap.size q w') := by
          refine (pflat_calls (rpup I H O (some ⟨g1, 0, none⟩) (H * I) (some ⟨g2, 0, none⟩) (O * H) (some ⟨g3, 0, none⟩) H (some ⟨g4, 0, none⟩) O) (graD (cutD I H O ws) (DI j) (DO j) I H O) q qpup).mono ?_
          rintro e w' ⟨a, n', c, he, _, hl, hb⟩
          have hz : pchk (rpup I H O (some ⟨g1, 0, none⟩) (H * I) (some ⟨g2, 0, none⟩) (O * H) (some ⟨g3, 0, none⟩) H (some ⟨g4, 0, none⟩) O) (graD (cutD I H O ws) (DI j) (DO j) I H O) = 0 := pchk_right (by omega) (by omega) (by omega) (by omega) (by omega) (by omega) (graD_right _ _ _ _ _ _)
          unfold flatL at hl
          rw [if_pos hz] at hl
          rw [hz] at he
          have hn' : N = n' := by
            have := hl.len
            rw [← this, HN.out, graD_len]
          subst hn'
          exact ⟨a, c, he, hl, hb⟩
        go_wp2_with fail
        refine HFl.out.mono ?_
        rintro e u2 ⟨la, lc, rfl, ll, hu2⟩
        have hb2 : Below wr.heap.size wr u2 := qbel.trans (hu2.mono qbel.size)
        have hgl := (rowTo_lst grow).below hb2 (Nat.le_refl _)
        clear HFl m0 m1 m2 m3 m4 m5 m6 m7 qrow qpup hu2
        go_wp2_with fail
        refine (vSum_at _ _ _ _ _ _ _ _ hgl ll (by omega)).mono ?_
        rintro e u3 ⟨gs, rfl, hgs, srow, hu3⟩
        have hb3 : Below w3.heap.size w3 u3 := hbel.trans ((hb2.trans (hu3.mono hb2.size)).mono hbel.size)
        have hz2 := hb2.size
        clear hgl ll
        go_wp2_with fail
        go_roundw
        case rel => exact ⟨k + 1, gs, by omega, by go_num, rfl, by omega, sum_step HFK.out srow, hb3⟩
        case measure => simp [intOf]; omega
    · obtain rfl : B = k := by omega
      have HMG : Hid (∀ i, meanG f B i = divI (accTo f B i) ((B : Int) * 65536)) := fun i => rfl
      have hbz : (B : Int) * 65536 ≠ 0 := by omega
      have KB4 : Hid (∀ q, Below w3.heap.size w3 q → q.cell? ⟨w.heap.size, 4, none⟩ = some (.int .i64 B)) := fun q hq => (KB3.out q hq).c4
      clear hx3 lb3 hp3 mrow KB3 HEX HF HBI HCR
      generalize hwr : wr = wo at *
      clear hwr
      go_wp2_with fail
      go_loopw [63] (fun v wr => ∃ i : Nat, i ≤ N ∧ v = .int .i64 i ∧ wr.rowIs g 3 N (midTo (meanG f B) (accTo f B) i) ∧ Below w3.heap.size w3 wr) (fun v _ => N - (intOf v).toNat)
      case atStart => exact ⟨0, Nat.zero_le _, rfl, midTo_start grow, hbel⟩
      case round =>
        clear grow hbel
        obtain ⟨i, hi, rfl, grow, hbel⟩ := hrel
        by_cases hil : i < N
        · have c3 := midTo_cell grow hil
          have f3 := grow.frozen i
          obtain ⟨x, hx0⟩ : ∃ x, accTo f B i = x := ⟨_, rfl⟩
          have HM : Hid (meanG f B i = divI x ((B : Int) * 65536)) := by show meanG f B i = _; rw [HMG.out, hx0]
          rw [hx0] at c3
          clear hx0
          have c4 := KB4.out _ hbel
          go_wp2_with (go_at_call 91; refine (div_calls _ _ _ hbz).mono ?_; rintro e w' ⟨rfl, nd, rfl⟩)
          go_roundw
          case rel =>
            have st := midTo_step grow
            rw [HM.out] at st
            exact ⟨i + 1, by omega, by go_num, rowIs_drewN st _, below_drewN (hbel.setCell (show w3.heap.size ≤ g from hg) _) _⟩
          case measure => simp [intOf]; omega
        · obtain rfl : i = N := by omega
          go_wp2_with fail
          go_ret
          exact ⟨g, rfl, by omega, midTo_end grow, T3.trans (hbel.mono T3.size)⟩
end Go.Proofs.YtfcnnolpcnacoaaGreatDoor.Fx
