/- What coachref.Like and SameRecords return, whatever records lie there. -/
import Derived.Test.YtfcnnolpcnacoaaGreatDoorJ26
import Derived.Test.YtfcnnolpcnacoaaGreatDoorJ11
import Derived.Test.YtfcnnolpcnacoaaGreatDoorJ04
import Derived.Test.YtfcnnolpcnacoaaGreatDoorJ02
import Derived.Deep.AppendLies
namespace Go.Proofs.YtfcnnolpcnacoaaGreatDoor.Fx
open Go.RowKit

/-- Are two records the same, but for the chain? -/
def likeB (x y : Rcm) (xs ys : List Int) : Bool := decide (x.s = y.s) && decide (x.r = y.r) && decide (x.root = y.root) && decide (xs = ys)
def recB (x y : Rcm) (xs ys : List Int) : Bool := likeB x y xs ys && decide (x.chain = y.chain)
def recsB (n m : Nat) (X Y : Nat → Rcm) (DX DY : Nat → List Int) : Bool := decide (n = m) && (List.range n).all fun i => recB (X i) (Y i) (DX i) (DY i)
theorem beq_dec (x y : Int) : (x == y) = decide (x = y) := by
  by_cases h : x = y
  · rw [decide_eq_true h]; simpa using h
  · rw [decide_eq_false h]; simpa using h

set_option maxRecDepth 100000 in
set_option maxHeartbeats 1600000 in
theorem rlike_calls (x y : Rcm) (xs ys : List Int) (w : World) (l1 : Lst w x.a x.n x.k xs) (l2 : Lst w y.a y.n y.k ys) (hn : x.n ≤ 1000000000000000000) :
    Calls Tryz.prog 26 #[x.val, y.val] w fun e w' => e = .returned (.bool (likeB x y xs ys)) ∧ Below w.heap.size w w' := by
  have hal := (low_alloc w (.cells x.cells 40)).trans ((low_alloc (w.alloc (.cells x.cells 40)) (.cells y.cells 40)).mono (low_alloc w (.cells x.cells 40)).size)
  have m1 := l1.below hal (Nat.le_refl _)
  have m2 := l2.below hal (Nat.le_refl _)
  unfold likeB
  clear l1 l2
  obtain ⟨s, a, n, k, r, root, chain⟩ := x
  obtain ⟨s', a', n', k', r', root', chain'⟩ := y
  simp only [Rcm.val, Rcm.cells] at *
  by_cases h1 : s = s'
  rotate_left
  · have qh1 : (s == s') = false := by simpa using h1
    go_enter Tryz.func26, Tryz.ntmps26
    go_wp2_with fail
    go_ret
    exact ⟨ret_bool (by simp [h1]), hal⟩
  have qh1 : (s == s') = true := by simpa using h1
  by_cases h2 : r = r'
  rotate_left
  · have qh2 : (r == r') = false := by simpa using h2
    clear h1
    go_enter Tryz.func26, Tryz.ntmps26
    go_wp2_with fail
    go_ret
    exact ⟨ret_bool (by simp [h2]), hal⟩
  have qh2 : (r == r') = true := by simpa using h2
  by_cases h3 : root = root'
  rotate_left
  · have qh3 : (root == root') = false := by simpa using h3
    clear h1 h2
    go_enter Tryz.func26, Tryz.ntmps26
    go_wp2_with fail
    go_ret
    exact ⟨ret_bool (by simp [h3]), hal⟩
  have qh3 : (root == root') = true := by simpa using h3
  have HL : Hid ((decide (s = s') && decide (r = r') && decide (root = root') && decide (xs = ys)) = decide (xs = ys)) := by show _ = _; rw [decide_eq_true h1, decide_eq_true h2, decide_eq_true h3]; simp
  clear h1 h2 h3
  go_enter Tryz.func26, Tryz.ntmps26
  go_wp2_with fail
  refine (eq_calls _ _ _ _ _ _ xs ys _ m1 m2 (by omega)).mono ?_
  rintro e w1 ⟨rfl, k5, hw5⟩
  subst hw5
  go_wp2_with fail
  go_ret
  exact ⟨ret_bool (by rw [HL.out]), below_drewN hal _⟩

set_option maxRecDepth 100000 in
set_option maxHeartbeats 1600000 in
theorem rsame1_calls (x y : Rcm) (xs ys : List Int) (w : World) (l1 : Lst w x.a x.n x.k xs) (l2 : Lst w y.a y.n y.k ys) (hn : x.n ≤ 1000000000000000000) :
    Calls Tryz.prog 25 #[x.val, y.val] w fun e w' => e = .returned (.bool (recB x y xs ys)) ∧ Below w.heap.size w w' := by
  have ha1 := low_alloc w (.cells x.cells 40)
  have hal := ha1.trans ((low_alloc (w.alloc (.cells x.cells 40)) (.cells y.cells 40)).mono ha1.size)
  have HLK : Hid (Calls Tryz.prog 26 #[x.val, y.val] ((w.alloc (.cells x.cells 40)).alloc (.cells y.cells 40)) fun e w' => e = .returned (.bool (likeB x y xs ys)) ∧ Below ((w.alloc (.cells x.cells 40)).alloc (.cells y.cells 40)).heap.size ((w.alloc (.cells x.cells 40)).alloc (.cells y.cells 40)) w') := rlike_calls x y xs ys _ (l1.below hal (Nat.le_refl _)) (l2.below hal (Nat.le_refl _)) hn
  have rx := (fn5_alloc w (.int .i64 x.s) (.slice x.a x.n x.k) (.int .i64 x.r) (.int .u64 x.root) (.int .u64 x.chain) 40).alloc (.cells y.cells 40)
  have ry := fn5_alloc (w.alloc (.cells x.cells 40)) (.int .i64 y.s) (.slice y.a y.n y.k) (.int .i64 y.r) (.int .u64 y.root) (.int .u64 y.chain) 40
  unfold recB
  clear l1 l2 ha1
  generalize likeB x y xs ys = LB at *
  obtain ⟨s, a, n, k, r, root, chain⟩ := x
  obtain ⟨s', a', n', k', r', root', chain'⟩ := y
  simp only [Rcm.val, Rcm.cells] at *
  simp at ry
  cases LB with
  | false =>
    go_enter Tryz.func25, Tryz.ntmps25
    go_wp2_with fail
    refine HLK.out.mono ?_
    rintro e w1 ⟨rfl, hw1⟩
    go_wp2_with fail
    go_ret
    exact ⟨rfl, hal.trans (hw1.mono hal.size)⟩
  | true =>
    go_enter Tryz.func25, Tryz.ntmps25
    go_wp2_with fail
    refine HLK.out.mono ?_
    rintro e w1 ⟨rfl, hw1⟩
    have x4 := (fn5_box (rx.of_block (hw1.block _ rx.lt))).c4
    have y4 := (fn5_box (ry.of_block (hw1.block _ ry.lt))).c4
    go_wp2_with fail
    go_ret
    exact ⟨ret_bool (by rw [Bool.true_and]; exact beq_dec _ _), hal.trans (hw1.mono hal.size)⟩

set_option maxRecDepth 100000 in
set_option maxHeartbeats 3200000 in
theorem eqr_calls (a b : Option Addr) (n m c1 c2 : Nat) (X Y : Nat → Rcm) (DX DY : Nat → List Int) (w : World) (hx : Recs w a n c1 X DX) (hy : Recs w b m c2 Y DY) (hn : n ≤ 1000000000000000) (hxn : ∀ j, j < n → (X j).n ≤ 1000000000000000000) :
    Calls Tryz.prog 24 #[.slice a n c1, .slice b m c2, .func (.func 25) #[] #[]] w fun e w' => e = .returned (.bool (recsB n m X Y DX DY)) ∧ Below w.heap.size w w' := by
  by_cases hnm : n = m
  · subst hnm
    have hne : ((n : Int) != (n : Int)) = false := by simp
    have HXN : Hid (∀ j, j < n → (X j).n ≤ 1000000000000000000) := hxn
    have HOK : Hid ((∀ j, j < n → recB (X j) (Y j) (DX j) (DY j) = true) → recsB n n X Y DX DY = true) := fun h => by
      unfold recsB
      rw [decide_eq_true rfl, Bool.true_and, List.all_eq_true]
      exact fun i hi => h i (List.mem_range.1 hi)
    have HBAD : Hid (∀ j, j < n → recB (X j) (Y j) (DX j) (DY j) = false → recsB n n X Y DX DY = false) := fun j hj h => by
      unfold recsB
      rw [decide_eq_true rfl, Bool.true_and, List.all_eq_false]
      exact ⟨j, List.mem_range.2 hj, by rw [h]; decide⟩
    generalize recsB n n X Y DX DY = RB at *
    clear hxn
    go_enter Tryz.func24, Tryz.ntmps24
    go_wp2_with fail
    go_loopw [17] (fun v wr => ∃ k : Nat, k ≤ n ∧ v = .int .i64 k ∧ Hid (∀ j, j < k → recB (X j) (Y j) (DX j) (DY j) = true) ∧ Below w.heap.size w wr) (fun v _ => n - (intOf v).toNat)
    case atStart => exact ⟨0, Nat.zero_le _, rfl, fun j hj => by omega, Below.refl _ _⟩
    case round =>
      obtain ⟨k, hk, rfl, hg, hbel⟩ := hrel
      have hx1 := hx.below hbel (Nat.le_refl _)
      have hy1 := hy.below hbel (Nat.le_refl _)
      by_cases hlt : k < n
      · have hlen := HXN.out k hlt
        rcases hx1.2 with h0 | ⟨xb, xo, rfl, _, hc⟩
        · omega
        rcases hy1.2 with h0 | ⟨yb, yo, rfl, _, hd⟩
        · omega
        obtain ⟨e0, e1, e2, e3, e4, lx⟩ := hc k hlt
        obtain ⟨f0, f1, f2, f3, f4, ly⟩ := hd k hlt
        have hbad := HBAD.out k hlt
        have hgood : recB (X k) (Y k) (DX k) (DY k) = true → ∀ j, j < k + 1 → recB (X j) (Y j) (DX j) (DY j) = true := fun g j hj => by
          by_cases e : j = k
          · subst e; exact g
          · exact hg.out j (by omega)
        obtain ⟨x, hxk⟩ : ∃ x, X k = x := ⟨_, rfl⟩
        obtain ⟨y, hyk⟩ : ∃ y, Y k = y := ⟨_, rfl⟩
        rw [hxk] at e0 e1 e2 e3 e4 lx hlen hbad hgood
        rw [hyk] at f0 f1 f2 f3 f4 ly hbad hgood
        have ha := low_alloc wr (.cells x.cells 40)
        have ha2 := ha.trans ((low_alloc (wr.alloc (.cells x.cells 40)) (.cells y.cells 40)).mono ha.size)
        have SM : Calls Tryz.prog 25 #[x.val, y.val] ((wr.alloc (.cells x.cells 40)).alloc (.cells y.cells 40)) fun e w' => e = .returned (.bool (recB x y (DX k) (DY k))) ∧ Below ((wr.alloc (.cells x.cells 40)).alloc (.cells y.cells 40)).heap.size ((wr.alloc (.cells x.cells 40)).alloc (.cells y.cells 40)) w' := rsame1_calls x y (DX k) (DY k) _ (lx.below ha2 (Nat.le_refl _)) (ly.below ha2 (Nat.le_refl _)) hlen
        have g0 := (ha.cell (p := ⟨yb, yo + k * 5, none⟩) (cell_lt f0)).trans f0
        have g1 := (ha.cell (p := ⟨yb, yo + k * 5 + 1, none⟩) (cell_lt f1)).trans f1
        have g2 := (ha.cell (p := ⟨yb, yo + k * 5 + 2, none⟩) (cell_lt f2)).trans f2
        have g3 := (ha.cell (p := ⟨yb, yo + k * 5 + 3, none⟩) (cell_lt f3)).trans f3
        have g4 := (ha.cell (p := ⟨yb, yo + k * 5 + 4, none⟩) (cell_lt f4)).trans f4
        have kn : (k : Int) < (n : Int) := by omega
        have HB : Hid (recB x y (DX k) (DY k) = false → RB = false) := hbad
        have HG : Hid (recB x y (DX k) (DY k) = true → ∀ j, j < k + 1 → recB (X j) (Y j) (DX j) (DY j) = true) := hgood
        clear hx hy hx1 hy1 hxk hyk lx ly hlen HXN hc hd f0 f1 f2 f3 f4 hbad hgood hg
        generalize recB x y (DX k) (DY k) = QB at *
        obtain ⟨s, ax, nx, kx, r, root, chain⟩ := x
        obtain ⟨s', ay, ny, ky, r', root', chain'⟩ := y
        simp only [Rcm.val, Rcm.cells] at *
        cases QB with
        | false =>
          go_wp2_with fail
          refine SM.mono ?_
          rintro e w1 ⟨rfl, hw1⟩
          go_wp2_with fail
          go_ret
          exact ⟨ret_bool (HB.out (by trivial)).symm, hbel.trans ((ha2.trans (hw1.mono ha2.size)).mono hbel.size)⟩
        | true =>
          go_wp2_with fail
          refine SM.mono ?_
          rintro e w1 ⟨rfl, hw1⟩
          have hb1 := hbel.trans ((ha2.trans (hw1.mono ha2.size)).mono hbel.size)
          go_wp2_with fail
          go_roundw
          case rel => exact ⟨k + 1, by omega, by go_num, HG.out (by trivial), hb1⟩
          case measure => simp [intOf]; omega
      · obtain rfl : k = n := by omega
        go_wp2_with fail
        go_ret
        exact ⟨ret_bool (HOK.out hg.out).symm, hbel⟩
  · have hne : ((n : Int) != (m : Int)) = true := by rw [bne_iff_ne]; omega
    have HR : Hid (recsB n m X Y DX DY = false) := by show recsB n m X Y DX DY = false; unfold recsB; rw [decide_eq_false hnm, Bool.false_and]
    clear hx hy hxn hnm
    go_enter Tryz.func24, Tryz.ntmps24
    go_wp2_with fail
    go_ret
    exact ⟨ret_bool HR.out.symm, Below.refl _ _⟩

theorem rsameR_calls (a b : Option Addr) (n m c1 c2 : Nat) (X Y : Nat → Rcm) (DX DY : Nat → List Int) (w : World) (hx : Recs w a n c1 X DX) (hy : Recs w b m c2 Y DY) (hn : n ≤ 1000000000000000) (hxn : ∀ j, j < n → (X j).n ≤ 1000000000000000000) :
    Calls Tryz.prog 15 #[.slice a n c1, .slice b m c2] w fun e w' => e = .returned (.bool (recsB n m X Y DX DY)) ∧ Below w.heap.size w w' := by
  have K := eqr_calls a b n m c1 c2 X Y DX DY w hx hy hn hxn
  clear hx hy hn hxn
  go_enter Tryz.func15, Tryz.ntmps15
  go_wp2_with fail
  refine K.mono ?_
  rintro e w1 ⟨rfl, hw1⟩
  go_wp2_with fail
  go_ret
  exact ⟨rfl, hw1⟩
end Go.Proofs.YtfcnnolpcnacoaaGreatDoor.Fx

/- What audit.Whole answers, in plain numbers, for every input; no function of the program is spoken of. -/
namespace Go.Proofs.YtfcnnolpcnacoaaGreatDoor.Fx
open Go.RowKit

/-- The first number below n at which f says no, or n. -/
def firstNo (f : Nat → Bool) : Nat → Nat
  | 0 => 0
  | n + 1 => if firstNo f n < n then firstNo f n else if f n = true then n + 1 else n
theorem firstNo_eq (f : Nat → Bool) : ∀ (n k : Nat), k ≤ n → (∀ j, j < k → f j = true) → (k < n → f k = false) → firstNo f n = k
  | 0, k, h1, _, _ => by unfold firstNo; omega
  | n + 1, k, h1, h2, h3 => by
    by_cases hk : k ≤ n
    · have ih := firstNo_eq f n k hk h2 (fun h => h3 (by omega))
      unfold firstNo
      rw [ih]
      by_cases e : k < n
      · rw [if_pos e]
      · obtain rfl : k = n := by omega
        rw [if_neg e, if_neg (by rw [h3 (by omega)]; decide)]
    · obtain rfl : k = n + 1 := by omega
      have ih := firstNo_eq f n n (Nat.le_refl _) (fun j hj => h2 j (by omega)) (fun h => by omega)
      unfold firstNo
      rw [ih, if_neg (by omega), if_pos (h2 n (by omega))]
theorem firstNo_le (f : Nat → Bool) : ∀ n, firstNo f n ≤ n
  | 0 => Nat.le_refl _
  | n + 1 => by
    have ih := firstNo_le f n
    unfold firstNo
    by_cases h : firstNo f n < n
    · rw [if_pos h]; omega
    · rw [if_neg h]
      by_cases h2 : f n = true
      · rw [if_pos h2]; omega
      · rw [if_neg h2]; omega
/-- Is that record just as journal.Make's? -/
def auB (c : Cfg) (n : Nat) (DI DO : Nat → List Int) (L : Nat → Rcm) (DL : Nat → List Int) (j : Nat) : Bool :=
  decide ((L j).s = (j : Int)) && decide ((L j).r = mkRV c j) && decide ((L j).root = mkRO c n DI DO j) && decide (DL j = jrBatch c n j) && decide ((L j).chain = mkCH c n DI DO (j + 1))
theorem auB_is {c : Cfg} {n : Nat} {DI DO : Nat → List Int} {m : Nat} {R : Nat → Rcm} (h : JrN m R (mkRV c) (mkRO c n DI DO) (mkCH c n DI DO)) (L : Nat → Rcm) (DL : Nat → List Int) {j : Nat} (hj : j < m) : auB c n DI DO L DL j = recB (L j) (R j) (DL j) (jrBatch c n j) := by
  obtain ⟨e1, e2, e3, e4⟩ := h j hj
  unfold auB recB likeB
  rw [e1, e2, e3, e4]
def whE (c : Cfg) (n : Nat) (X : Nat → Exm) (DI DO : Nat → List Int) (m : Nat) : Int := if courseI c n X DI DO = 0 then (if (m : Int) ≤ c.steps then 0 else 2) else courseI c n X DI DO
def whN (c : Cfg) (n : Nat) (X : Nat → Exm) (DI DO : Nat → List Int) (m : Nat) (L : Nat → Rcm) (DL : Nat → List Int) : Nat := if whE c n X DI DO m = 0 then firstNo (auB c n DI DO L DL) m else 0
end Go.Proofs.YtfcnnolpcnacoaaGreatDoor.Fx

/- A list of words that the program itself makes by append: what is known of it, and what one append more leaves. -/
namespace Go.Proofs.YtfcnnolpcnacoaaGreatDoor.Fx
open Go.RowKit

/-- The slice value v, made from block number base on, owns the words xs. -/
def OwnW (base : Nat) (w : World) (v : Value) (xs : List Int) : Prop := w.ownsRow base 22 1 v xs.length (xs.map (Value.int .u64))

theorem OwnW.nil (base : Nat) (w : World) : OwnW base w (.slice none 0 0) [] := World.ownsRow_nil _ _ _ _
theorem OwnW.drew {base : Nat} {w : World} {v : Value} {xs : List Int} (h : OwnW base w v xs) : OwnW base w.drew v xs := h
theorem OwnW.drewN {base : Nat} {w : World} {v : Value} {xs : List Int} (h : OwnW base w v xs) (n : Nat) : OwnW base (w.drewN n) v xs := h
theorem OwnW.alloc {base : Nat} {w : World} {v : Value} {xs : List Int} (h : OwnW base w v xs) (o : Obj) : OwnW base (w.alloc o) v xs := World.ownsRow.alloc h o
theorem OwnW.below {base : Nat} {w w' : World} {v : Value} {xs : List Int} (h : OwnW base w v xs) (hb : Below w.heap.size w w') : OwnW base w' v xs := by
  refine ⟨h.1, ?_⟩
  rcases h.2 with h0 | ⟨g, cap, cur, hv, hg, hh, r⟩
  · exact .inl h0
  · exact .inr ⟨g, cap, cur, hv, hg, by rw [hb.block g (Array.getElem?_eq_some_iff.1 hh).1]; exact hh, r⟩
theorem OwnW.lst {base : Nat} {w : World} {v : Value} {xs : List Int} (h : OwnW base w v xs) : ∃ a c, v = .slice a xs.length c ∧ LstW w a xs.length c xs := LstW.owned h
theorem OwnW.lst' {base : Nat} {w : World} {v : Value} {xs : List Int} {n : Nat} (h : OwnW base w v xs) (hn : xs.length = n) : ∃ a c, v = .slice a n c ∧ LstW w a n c xs := by
  subst hn; exact LstW.owned h
theorem OwnW.congr {base : Nat} {w : World} {v : Value} {xs ys : List Int} (h : OwnW base w v xs) (e : xs = ys) : OwnW base w v ys := e ▸ h
theorem range_snocW (g : Nat → Int) (k : Nat) (x : Int) (h : g k = x) : (List.range k).map g ++ [x] = (List.range (k + 1)).map g := by
  rw [List.range_succ, List.map_append, List.map_singleton, h]

section
variable {w' W0 : World} {ops : Array Oper} {o : Oper} {a : Act} {Q : Exit → Act → World → Prop}

theorem run_append_word (ty : TypeId) (base : Nat) (v : Value) (xs : List Int) (z : Int) (g : Nat) (hown : OwnW base w' v xs) (hc : w'.cell? ⟨g, 0, none⟩ = some (.int .u64 z))
    (hn : (xs.length + 1) * 8 ≤ 140737488355328) (hbase : base ≤ w'.heap.size) (hB : Below base W0 w') :
    ∃ v' w1, (Builtin.append_ #[82, 82] ty #[v, .slice (some ⟨g, 0, none⟩) 1 1]).run Tryz.prog w' = .ok v' w1 ∧ OwnW base w1 v' (xs ++ [z]) ∧ Below base W0 w1 := by
  obtain ⟨i0, hi, hz0, hz1, hz2⟩ := info_parts infoW
  obtain ⟨v', w1, hrun, h1, h2, _⟩ := run_append_own (P := Tryz.prog) w' base 82 ty 22 i0 (.int .u64 0) 1 8 Tryz.underlying82 hi hz0 hz1 hz2 rfl (by decide) v xs.length _ hown ⟨g, 0, none⟩ 1 1 [.int .u64 z] rfl
    (by intro j u hj
        match j, hj with
        | 0, hj => simp at hj; subst hj; simpa [Addr.add] using hc)
    (by intro u hu; simp at hu; subst hu; rfl) (by unfold maxLen; omega) hn hbase
  refine ⟨v', w1, hrun, by unfold OwnW; rw [List.length_append, List.map_append]; exact h1, hB.grown h2 hbase ?_⟩
  intro k hk
  rcases hown.2 with ⟨rfl, _⟩ | ⟨g', cap, cur, rfl, hg, _⟩
  · simp [Value.ownBlock] at hk
  · simp [Value.ownBlock] at hk; omega

theorem wpList_append_word {rest : List Oper} (hgd : o.guard = none) (s x : Operand) (ho : o.op = .call { callee := .builtin .append, args := #[s, x], argTypes := #[82, 82] })
    (base : Nat) (v : Value) (xs : List Int) (z : Int) (g : Nat) (W0 : World) (hs : a.eval s = v) (hx : a.eval x = .slice (some ⟨g, 0, none⟩) 1 1) (hown : OwnW base w' v xs) (hc : w'.cell? ⟨g, 0, none⟩ = some (.int .u64 z))
    (hn : (xs.length + 1) * 8 ≤ 140737488355328) (hbase : base ≤ w'.heap.size) (hB : Below base W0 w')
    (h : ∀ v' w1, OwnW base w1 v' (xs ++ [z]) → Below base W0 w1 → wpList Tryz.prog ops Q rest (a.put o.dst v') w1) : wpList Tryz.prog ops Q (o :: rest) a w' := by
  obtain ⟨v', w1, hrun, h1, h2⟩ := run_append_word o.type base v xs z g hown hc hn hbase hB
  refine wpList_plain hgd fun K hK => ?_
  unfold Oper.wp
  simp [execOp, ho, resolve, invoke, builtin, hs, hx, hrun, Result.andThen]
  exact hK _ _ (h v' w1 h1 h2)

theorem step_append_word {K : Act → World → Prop} {E : Prop} (hgd : o.guard = none) (s x : Operand) (ho : o.op = .call { callee := .builtin .append, args := #[s, x], argTypes := #[82, 82] })
    (base : Nat) (v : Value) (xs : List Int) (z : Int) (g : Nat) (W0 : World) (hs : a.eval s = v) (hx : a.eval x = .slice (some ⟨g, 0, none⟩) 1 1) (hown : OwnW base w' v xs) (hc : w'.cell? ⟨g, 0, none⟩ = some (.int .u64 z))
    (hn : (xs.length + 1) * 8 ≤ 140737488355328) (hbase : base ≤ w'.heap.size) (hB : Below base W0 w')
    (h : ∀ v' w1, OwnW base w1 v' (xs ++ [z]) → Below base W0 w1 → K (a.put o.dst v') w1) :
    if Region.wanted o (yielded ops a.tmps) = true then Oper.wp Tryz.prog o a w' K Q else E := by
  obtain ⟨v', w1, hrun, h1, h2⟩ := run_append_word o.type base v xs z g hown hc hn hbase hB
  have hw : Region.wanted o (yielded ops a.tmps) = true := by simp [Region.wanted, hgd]
  rw [if_pos hw]
  unfold Oper.wp
  simp [execOp, ho, resolve, invoke, builtin, hs, hx, hrun, Result.andThen]
  exact h v' w1 h1 h2
end
end Go.Proofs.YtfcnnolpcnacoaaGreatDoor.Fx
