/- A list of states that the program itself makes by append: what is known of it, and what one append more leaves. -/
import Derived.Test.YtfcnnolpcnacoaaGreatDoorJ11
import Derived.Test.YtfcnnolpcnacoaaGreatDoorJ25
import Derived.Test.YtfcnnolpcnacoaaGreatDoorJ00
import Derived.Test.YtfcnnolpcnacoaaGreatDoorJ02
import Derived.Test.YtfcnnolpcnacoaaGreatDoorJ12
namespace Go.Proofs.YtfcnnolpcnacoaaGreatDoor.Fx
open Go.RowKit

def stCells (X : Nat → Exm) : Nat → List Value
  | 0 => []
  | n + 1 => stCells X n ++ [.slice (X n).a (X n).n (X n).k, .slice (X n).b (X n).m (X n).t]
theorem stCells_len (X : Nat → Exm) (n : Nat) : (stCells X n).length = n * 2 := by
  induction n with
  | zero => rfl
  | succ k ih => simp [stCells, ih]; omega
theorem stCells_congr {X Y : Nat → Exm} {n : Nat} (h : ∀ i, i < n → X i = Y i) : stCells X n = stCells Y n := by
  induction n with
  | zero => rfl
  | succ k ih => simp only [stCells]; rw [ih (fun i hi => h i (by omega)), h k (by omega)]
theorem stCells_at (X : Nat → Exm) {n i : Nat} (h : i < n) : (stCells X n)[i * 2]? = some (.slice (X i).a (X i).n (X i).k) ∧ (stCells X n)[i * 2 + 1]? = some (.slice (X i).b (X i).m (X i).t) := by
  induction n with
  | zero => omega
  | succ k ih =>
    have hl := stCells_len X k
    simp only [stCells]
    by_cases e : i = k
    · subst e
      rw [List.getElem?_append_right (by omega), List.getElem?_append_right (by omega), hl]
      simp
    · have g := ih (by omega)
      rw [List.getElem?_append_left (by omega), List.getElem?_append_left (by omega)]
      exact g
theorem stCells_one {X : Nat → Exm} {n : Nat} {v : Value} (h : v ∈ stCells X n) : v.oneCell' = true := by
  induction n with
  | zero => cases h
  | succ k ih =>
    simp only [stCells, List.mem_append, List.mem_cons, List.not_mem_nil, or_false] at h
    rcases h with h | h | h
    · exact ih h
    · rw [h]; rfl
    · rw [h]; rfl
/-- The slice value v, made from block number base on, owns the states X. -/
def OwnS (base : Nat) (w : World) (v : Value) (n : Nat) (X : Nat → Exm) : Prop := w.ownsRow base 65 2 v n (stCells X n)
theorem OwnS.nil (base : Nat) (w : World) (X : Nat → Exm) : OwnS base w (.slice none 0 0) 0 X := World.ownsRow_nil _ _ _ _
theorem OwnS.below {base : Nat} {w w' : World} {v : Value} {n : Nat} {X : Nat → Exm} (h : OwnS base w v n X) (hb : Below w.heap.size w w') : OwnS base w' v n X := by
  refine ⟨h.1, ?_⟩
  rcases h.2 with h0 | ⟨g, cap, cur, hv, hg, hh, r⟩
  · exact .inl h0
  · exact .inr ⟨g, cap, cur, hv, hg, by rw [hb.block g (Array.getElem?_eq_some_iff.1 hh).1]; exact hh, r⟩
theorem OwnS.exs {base : Nat} {w : World} {v : Value} {n : Nat} {X : Nat → Exm} {DI DO : Nat → List Int} (h : OwnS base w v n X) (hin : ∀ i, i < n → InEx w (X i) (DI i) (DO i)) : ∃ a c, v = .slice a n c ∧ Exs w a n c X DI DO := by
  obtain ⟨hl, h2⟩ := h
  rcases h2 with ⟨rfl, rfl⟩ | ⟨g, cap, cur, rfl, _, hh, hle, _, hsz, hcur⟩
  · exact ⟨none, 0, rfl, Nat.le_refl _, .inl rfl⟩
  · refine ⟨_, cap, rfl, hle, .inr ⟨g, 0, rfl, (Array.getElem?_eq_some_iff.1 hh).1, fun i hi => ?_⟩⟩
    have hc : ∀ j, j < n * 2 → w.cell? ⟨g, 0 + j, none⟩ = (stCells X n)[j]? := fun j hj => by
      rw [← hcur, List.getElem?_take_of_lt hj]
      simp [World.cell?, hh]
    have g2 := stCells_at X hi
    refine ⟨(hc (i * 2) (by omega)).trans g2.1, ?_, hin i hi⟩
    have := hc (i * 2 + 1) (by omega)
    rw [← Nat.add_assoc] at this
    exact this.trans g2.2

theorem infoS : (Tryz.prog.info? 65).map (fun i => (i.zero, i.size, i.bytes)) = some (some (.agg #[.slice none 0 0, .slice none 0 0]), 2, 48) := by kernel_rfl

end Go.Proofs.YtfcnnolpcnacoaaGreatDoor.Fx

/- What train.Run returns, whatever is handed in. -/
namespace Go.Proofs.YtfcnnolpcnacoaaGreatDoor.Fx
open Go.RowKit

theorem made2 (w : World) (z : Value) (m : Nat) (t : TypeId) : (w.alloc (.cells (madeCells #[z, z] m) t)).rowIs w.heap.size t m (fun _ => z) := by
  refine ⟨_, Go.Deep.blk_alloc_new _ _, size_madeCells _ _, fun i hi => ?_⟩
  have h2 : i % 2 = 0 ∨ i % 2 = 1 := by omega
  rcases h2 with h2 | h2 <;> simp [madeCells, hi, h2]
/-- The cells of a list of states, of which the first K are X's. -/
def outF (X : Nat → Exm) (K i : Nat) : Value := if i < K * 2 then (if i % 2 = 0 then .slice (X (i / 2)).a (X (i / 2)).n (X (i / 2)).k else .slice (X (i / 2)).b (X (i / 2)).m (X (i / 2)).t) else .slice none 0 0
theorem outF_zero {w : World} {b t n : Nat} {X : Nat → Exm} (h : w.rowIs b t n (fun _ => .slice none 0 0)) : w.rowIs b t n (outF X 0) := h.congr (fun i _ => by unfold outF; rw [if_neg (by omega)])
theorem outF_at {w : World} {b t n K j : Nat} {X : Nat → Exm} (h : w.rowIs b t n (outF X K)) (hj : j < K) (hn : K * 2 ≤ n) : w.cell? ⟨b, j * 2, none⟩ = some (.slice (X j).a (X j).n (X j).k) ∧ w.cell? ⟨b, j * 2 + 1, none⟩ = some (.slice (X j).b (X j).m (X j).t) := by
  refine ⟨?_, ?_⟩
  · rw [h.cell (by omega)]
    unfold outF
    rw [if_pos (by omega), if_pos (by omega), show j * 2 / 2 = j by omega]
  · rw [h.cell (by omega)]
    unfold outF
    rw [if_pos (by omega), if_neg (by omega), show (j * 2 + 1) / 2 = j by omega]
theorem outF_new {w : World} {b t n K j : Nat} {X : Nat → Exm} (h : w.rowIs b t n (outF X K)) (hj : K * 2 ≤ j) (hn : j < n) : w.cell? ⟨b, j, none⟩ = some (.slice none 0 0) := by
  rw [h.cell hn]
  unfold outF
  rw [if_neg (by omega)]
theorem outF_push {w : World} {b t n K : Nat} {X : Nat → Exm} (h : w.rowIs b t n (outF X K)) (x : Exm) : ((w.setCell ⟨b, K * 2, none⟩ (.slice x.a x.n x.k)).setCell ⟨b, K * 2 + 1, none⟩ (.slice x.b x.m x.t)).rowIs b t n (outF (fun j => if j = K then x else X j) (K + 1)) := by
  refine ((h.set _ _).set _ _).congr (fun i hi => ?_)
  by_cases e1 : i = K * 2 + 1
  · rw [if_pos e1]
    unfold outF
    rw [if_pos (by omega), if_neg (by omega), show i / 2 = K by omega]
    simp
  · rw [if_neg e1]
    by_cases e2 : i = K * 2
    · rw [if_pos e2]
      unfold outF
      rw [if_pos (by omega), if_pos (by omega), show i / 2 = K by omega]
      simp
    · rw [if_neg e2]
      unfold outF
      by_cases e3 : i < K * 2
      · have e4 : i / 2 ≠ K := by omega
        have e5 : i < (K + 1) * 2 := by omega
        rw [if_pos e3, if_pos e5]
        simp [e4]
      · rw [if_neg e3, if_neg (by omega)]
theorem InEx.setOff {w : World} {x : Exm} {I O : List Int} (h : InEx w x I O) {p : Addr} {u : Option Addr} {y z : Nat} (hp : w.cell? p = some (.slice u y z)) (v : Value) : InEx (w.setCell p v) x I O := ⟨h.i.setOff hp v, h.o.setOff hp v⟩

/-- A state whose two lists lie in blocks of their own. -/
def St1 (w : World) (base OB N : Nat) (x : Exm) (WL ML : List Int) : Prop := ∃ g1 d1 g2 d2, x = ⟨some ⟨g1, 0, none⟩, N, d1, some ⟨g2, 0, none⟩, N, d2⟩ ∧ base ≤ g1 ∧ base ≤ g2 ∧ g1 ≠ OB ∧ g2 ≠ OB ∧ g1 ≠ g2 ∧ (d1 ≤ maxLen ∧ d2 ≤ maxLen) ∧ Arr w g1 d1 N (fun i => WL.getD i 0) ∧ Arr w g2 d2 N (fun i => ML.getD i 0)
theorem St1.below {w w' : World} {base OB N : Nat} {x : Exm} {WL ML : List Int} (h : St1 w base OB N x WL ML) (hb : Below w.heap.size w w') : St1 w' base OB N x WL ML := by
  obtain ⟨g1, d1, g2, d2, e, b1, b2, b3, b4, b5, b6, a1, a2⟩ := h
  exact ⟨g1, d1, g2, d2, e, b1, b2, b3, b4, b5, b6, a1.below hb, a2.below hb⟩
theorem St1.setO {w : World} {base OB N : Nat} {x : Exm} {WL ML : List Int} (h : St1 w base OB N x WL ML) (i : Nat) (u : Value) : St1 (w.setCell ⟨OB, i, none⟩ u) base OB N x WL ML := by
  obtain ⟨g1, d1, g2, d2, e, b1, b2, b3, b4, b5, b6, a1, a2⟩ := h
  exact ⟨g1, d1, g2, d2, e, b1, b2, b3, b4, b5, b6, a1.setOther (a := ⟨OB, i, none⟩) b3 u, a2.setOther (a := ⟨OB, i, none⟩) b4 u⟩
theorem St1.inEx {w : World} {base OB N : Nat} {x : Exm} {WL ML : List Int} (h : St1 w base OB N x WL ML) (h1 : WL.length = N) (h2 : ML.length = N) : InEx w x WL ML := by
  obtain ⟨g1, d1, g2, d2, rfl, b1, b2, b3, b4, b5, b6, a1, a2⟩ := h
  have l1 := a1.lst
  have l2 := a2.lst
  rw [getD_self h1] at l1
  rw [getD_self h2] at l2
  exact ⟨l1, l2⟩
/-- Two states lie apart. -/
def StApart (x y : Exm) : Prop := ∀ g, (x.a = some ⟨g, 0, none⟩ ∨ x.b = some ⟨g, 0, none⟩) → y.a ≠ some ⟨g, 0, none⟩ ∧ y.b ≠ some ⟨g, 0, none⟩
theorem St1.apart {w : World} {base OB N : Nat} {x : Exm} {WL ML : List Int} (h : St1 w base OB N x WL ML) {a b d1 d2 M1 M2 : Nat} (ha : w.heap.size ≤ a) (hb : w.heap.size ≤ b) : StApart x ⟨some ⟨a, 0, none⟩, M1, d1, some ⟨b, 0, none⟩, M2, d2⟩ := fun g hg => by
  obtain ⟨g1, e1, g2, e2, rfl, b1, b2, b3, b4, b5, b6, a1, a2⟩ := h
  have k1 := a1.lt
  have k2 := a2.lt
  simp only [Option.some.injEq, Addr.mk.injEq, and_true] at hg
  refine ⟨fun e => ?_, fun e => ?_⟩
  · simp only [Option.some.injEq, Addr.mk.injEq, and_true] at e
    omega
  · simp only [Option.some.injEq, Addr.mk.injEq, and_true] at e
    omega
/-- What is known of a course's states that lie in a list. -/
def StIn (w : World) (base OB N k : Nat) (X : Nat → Exm) (DW DM : Nat → List Int) : Prop := (∀ j, j ≤ k → St1 w base OB N (X j) (DW j) (DM j)) ∧ ∀ i j, i < j → j ≤ k → StApart (X i) (X j)
theorem StIn.below {w w' : World} {base OB N k : Nat} {X : Nat → Exm} {DW DM : Nat → List Int} (h : StIn w base OB N k X DW DM) (hb : Below w.heap.size w w') : StIn w' base OB N k X DW DM := ⟨fun j hj => (h.1 j hj).below hb, h.2⟩
theorem StIn.setO {w : World} {base OB N k : Nat} {X : Nat → Exm} {DW DM : Nat → List Int} (h : StIn w base OB N k X DW DM) (i : Nat) (u : Value) : StIn (w.setCell ⟨OB, i, none⟩ u) base OB N k X DW DM := ⟨fun j hj => (h.1 j hj).setO i u, h.2⟩
theorem StIn.push {w : World} {base OB N k : Nat} {X : Nat → Exm} {DW DM : Nat → List Int} (h : StIn w base OB N k X DW DM) {x : Exm} (hx : St1 w base OB N x (DW (k + 1)) (DM (k + 1))) (hap : ∀ i, i ≤ k → StApart (X i) x) : StIn w base OB N (k + 1) (fun j => if j = k + 1 then x else X j) DW DM := by
  refine ⟨fun j hj => ?_, fun i j h1 h2 => ?_⟩
  · by_cases e : j = k + 1
    · subst e; simp only [if_pos]; exact hx
    · simp only [if_neg e]; exact h.1 j (by omega)
  · have e1 : i ≠ k + 1 := by omega
    by_cases e : j = k + 1
    · subst e; simp only [if_neg e1, if_pos]; exact hap i (by omega)
    · simp only [if_neg e1, if_neg e]; exact h.2 i j h1 (by omega)
end Go.Proofs.YtfcnnolpcnacoaaGreatDoor.Fx

/- What train.Run returns, whatever is handed in. -/
namespace Go.Proofs.YtfcnnolpcnacoaaGreatDoor.Fx
open Go.RowKit

def runE (c : Cfg) (n : Nat) (X : Nat → Exm) (DI DO : Nat → List Int) (m : Int) : Int := if courseI c n X DI DO = 0 then (if inB m 0 c.steps = true then 0 else 1) else courseI c n X DI DO
def runN (c : Cfg) (n : Nat) (X : Nat → Exm) (DI DO : Nat → List Int) (m : Int) : Nat := if runE c n X DI DO m = 0 then m.toNat + 1 else 0
def stW (c : Cfg) (n : Nat) (DI DO : Nat → List Int) (j : Nat) : List Int := (stateP c n DI DO (sizeN c).toNat j).1
def stM (c : Cfg) (n : Nat) (DI DO : Nat → List Int) (j : Nat) : List Int := (stateP c n DI DO (sizeN c).toNat j).2
theorem Exs.nil (w : World) (a : Option Addr) (cap : Nat) (X : Nat → Exm) (DI DO : Nat → List Int) : Exs w a 0 cap X DI DO := ⟨Nat.zero_le _, .inl rfl⟩
def noEx (_ : Nat) : Exm := ⟨none, 0, 0, none, 0, 0⟩
end Go.Proofs.YtfcnnolpcnacoaaGreatDoor.Fx

/- The plain trees of package tree: where leaves are cut, the tree of a list, the way of one leaf, how deep it lies, and the way up; from each leaf by its way one comes to the tree. Nothing here speaks of the program. -/
namespace Go.Proofs.YtfcnnolpcnacoaaGreatDoor.Fx

theorem okL_take {xs : List Int} (h : okL xs) (k : Nat) : okL (xs.take k) := by
  intro i hi
  rw [List.length_take] at hi
  have e : (xs.take k).getD i 0 = xs.getD i 0 := by
    rw [List.getD_eq_getElem?_getD, List.getElem?_take_of_lt (by omega), ← List.getD_eq_getElem?_getD]
  rw [e]; exact h i (by omega)
theorem okL_drop {xs : List Int} (h : okL xs) (k : Nat) : okL (xs.drop k) := by
  intro i hi
  rw [List.length_drop] at hi
  have e : (xs.drop k).getD i 0 = xs.getD (k + i) 0 := by
    rw [List.getD_eq_getElem?_getD, List.getElem?_drop, ← List.getD_eq_getElem?_getD]
  rw [e]; exact h _ (by omega)
theorem okL_snoc {xs : List Int} {x : Int} (h : okL xs) (hx : okW x) : okL (xs ++ [x]) := by
  intro i hi
  rw [List.length_append] at hi
  simp at hi
  rw [List.getD_eq_getElem?_getD]
  by_cases c : i < xs.length
  · rw [List.getElem?_append_left c, ← List.getD_eq_getElem?_getD]; exact h i c
  · obtain rfl : i = xs.length := by omega
    simpa using hx
theorem okW_of_P {n : Int} (h : okP n) : okW n := ⟨h.1, by have := h.2; omega⟩

def cutN (n : Nat) : Nat := 2 ^ Nat.log2 (n - 1)
theorem cutN_lt {n : Nat} (h : 2 ≤ n) : 1 ≤ cutN n ∧ cutN n < n ∧ n ≤ cutN n + cutN n := by
  have h1 : 2 ^ Nat.log2 (n - 1) ≤ n - 1 := Nat.log2_self_le (by omega)
  have h2 : n - 1 < 2 ^ (Nat.log2 (n - 1) + 1) := Nat.lt_log2_self
  have h3 : 0 < 2 ^ Nat.log2 (n - 1) := Nat.pow_pos (by omega)
  rw [Nat.pow_succ] at h2
  unfold cutN
  omega
/-- A power of two that is less than n, and no less than half of it, is the cut. -/
theorem cutN_is {n j : Nat} (h : 2 ^ j < n) (h2 : n ≤ 2 ^ j + 2 ^ j) : cutN n = 2 ^ j := by
  unfold cutN
  have e : Nat.log2 (n - 1) = j := by
    rw [Nat.log2_eq_iff (by have : 0 < 2 ^ j := Nat.pow_pos (by omega)
                            omega)]
    rw [Nat.pow_succ]
    omega
  rw [e]

def treeF : Nat → List Int → Int
  | 0, l => l.getD 0 0
  | f + 1, l => if l.length ≤ 1 then l.getD 0 0 else ofP 3 [treeF f (l.take (cutN l.length)), treeF f (l.drop (cutN l.length))]
theorem treeF_same : ∀ (f g : Nat) (l : List Int), l.length ≤ f → l.length ≤ g → treeF f l = treeF g l
  | 0, 0, _, _, _ => rfl
  | 0, g + 1, l, h, _ => by unfold treeF; rw [if_pos (by omega)]
  | f + 1, 0, l, _, h => by unfold treeF; rw [if_pos (by omega)]
  | f + 1, g + 1, l, h1, h2 => by
    unfold treeF
    by_cases c : l.length ≤ 1
    · rw [if_pos c, if_pos c]
    · rw [if_neg c, if_neg c]
      have := cutN_lt (n := l.length) (by omega)
      rw [treeF_same f g (l.take _) (by rw [List.length_take]; omega) (by rw [List.length_take]; omega), treeF_same f g (l.drop _) (by rw [List.length_drop]; omega) (by rw [List.length_drop]; omega)]
/-- The tree of a list of leaves. -/
def treeP (l : List Int) : Int := treeF l.length l
theorem treeP_one {l : List Int} (h : l.length ≤ 1) : treeP l = l.getD 0 0 := by
  unfold treeP
  rw [treeF_same l.length (l.length + 1) l (Nat.le_refl _) (by omega)]
  unfold treeF
  rw [if_pos h]
theorem treeP_two {l : List Int} (h : 2 ≤ l.length) : treeP l = ofP 3 [treeP (l.take (cutN l.length)), treeP (l.drop (cutN l.length))] := by
  have := cutN_lt h
  have e : treeP l = treeF (l.length + 1) l := treeF_same _ _ l (Nat.le_refl _) (by omega)
  rw [e]
  rw [treeF, if_neg (by omega)]
  unfold treeP
  rw [treeF_same l.length (l.take _).length (l.take _) (by rw [List.length_take]; omega) (Nat.le_refl _), treeF_same l.length (l.drop _).length (l.drop _) (by rw [List.length_drop]; omega) (Nat.le_refl _)]
theorem treeP_ok {l : List Int} (h : okL l) (h1 : 1 ≤ l.length) : okW (treeP l) := by
  by_cases c : l.length ≤ 1
  · rw [treeP_one c]; exact h 0 (by omega)
  · rw [treeP_two (by omega)]; exact okW_of_P (ofP_ok _ _)

def wayF : Nat → List Int → Nat → List Int
  | 0, _, _ => []
  | f + 1, l, i => if l.length ≤ 1 then [] else if i < cutN l.length then wayF f (l.take (cutN l.length)) i ++ [treeP (l.drop (cutN l.length))] else wayF f (l.drop (cutN l.length)) (i - cutN l.length) ++ [treeP (l.take (cutN l.length))]
theorem wayF_same : ∀ (f g : Nat) (l : List Int) (i : Nat), l.length ≤ f → l.length ≤ g → wayF f l i = wayF g l i
  | 0, 0, _, _, _, _ => rfl
  | 0, g + 1, l, i, h, _ => by unfold wayF; rw [if_pos (by omega)]
  | f + 1, 0, l, i, _, h => by unfold wayF; rw [if_pos (by omega)]
  | f + 1, g + 1, l, i, h1, h2 => by
    unfold wayF
    by_cases c : l.length ≤ 1
    · rw [if_pos c, if_pos c]
    · rw [if_neg c, if_neg c]
      have := cutN_lt (n := l.length) (by omega)
      rw [wayF_same f g (l.take _) _ (by rw [List.length_take]; omega) (by rw [List.length_take]; omega), wayF_same f g (l.drop _) _ (by rw [List.length_drop]; omega) (by rw [List.length_drop]; omega)]
/-- The way of leaf i. -/
def wayP (l : List Int) (i : Nat) : List Int := wayF l.length l i
theorem wayP_one {l : List Int} (h : l.length ≤ 1) (i : Nat) : wayP l i = [] := by
  unfold wayP
  rw [wayF_same l.length (l.length + 1) l i (Nat.le_refl _) (by omega)]
  unfold wayF
  rw [if_pos h]
theorem wayP_left {l : List Int} (h : 2 ≤ l.length) {i : Nat} (hi : i < cutN l.length) : wayP l i = wayP (l.take (cutN l.length)) i ++ [treeP (l.drop (cutN l.length))] := by
  have := cutN_lt h
  have e : wayP l i = wayF (l.length + 1) l i := wayF_same _ _ l i (Nat.le_refl _) (by omega)
  rw [e]
  rw [wayF, if_neg (by omega), if_pos hi]
  unfold wayP
  rw [wayF_same l.length (l.take _).length (l.take _) _ (by rw [List.length_take]; omega) (Nat.le_refl _)]
theorem wayP_right {l : List Int} (h : 2 ≤ l.length) {i : Nat} (hi : ¬ i < cutN l.length) : wayP l i = wayP (l.drop (cutN l.length)) (i - cutN l.length) ++ [treeP (l.take (cutN l.length))] := by
  have := cutN_lt h
  have e : wayP l i = wayF (l.length + 1) l i := wayF_same _ _ l i (Nat.le_refl _) (by omega)
  rw [e]
  rw [wayF, if_neg (by omega), if_neg hi]
  unfold wayP
  rw [wayF_same l.length (l.drop _).length (l.drop _) _ (by rw [List.length_drop]; omega) (Nat.le_refl _)]

def deepF : Nat → Nat → Nat → Nat
  | 0, _, _ => 0
  | f + 1, i, n => if n ≤ 1 then 0 else if i < cutN n then 1 + deepF f i (cutN n) else 1 + deepF f (i - cutN n) (n - cutN n)
theorem deepF_same : ∀ (f g i n : Nat), n ≤ f → n ≤ g → deepF f i n = deepF g i n
  | 0, 0, _, _, _, _ => rfl
  | 0, g + 1, i, n, h, _ => by unfold deepF; rw [if_pos (by omega)]
  | f + 1, 0, i, n, _, h => by unfold deepF; rw [if_pos (by omega)]
  | f + 1, g + 1, i, n, h1, h2 => by
    unfold deepF
    by_cases c : n ≤ 1
    · rw [if_pos c, if_pos c]
    · rw [if_neg c, if_neg c]
      have := cutN_lt (n := n) (by omega)
      rw [deepF_same f g i (cutN n) (by omega) (by omega), deepF_same f g (i - cutN n) (n - cutN n) (by omega) (by omega)]
/-- How long the way of leaf i of n is. -/
def deepP (i n : Nat) : Nat := deepF n i n
theorem deepP_one {n : Nat} (h : n ≤ 1) (i : Nat) : deepP i n = 0 := by
  unfold deepP
  rw [deepF_same n (n + 1) i n (Nat.le_refl _) (by omega)]
  unfold deepF
  rw [if_pos h]
theorem deepP_left {i n : Nat} (h : 2 ≤ n) (hi : i < cutN n) : deepP i n = 1 + deepP i (cutN n) := by
  have := cutN_lt h
  have e : deepP i n = deepF (n + 1) i n := deepF_same _ _ i n (Nat.le_refl _) (by omega)
  rw [e]
  rw [deepF, if_neg (by omega), if_pos hi]
  unfold deepP
  rw [deepF_same n (cutN n) i (cutN n) (by omega) (Nat.le_refl _)]
theorem deepP_right {i n : Nat} (h : 2 ≤ n) (hi : ¬ i < cutN n) : deepP i n = 1 + deepP (i - cutN n) (n - cutN n) := by
  have := cutN_lt h
  have e : deepP i n = deepF (n + 1) i n := deepF_same _ _ i n (Nat.le_refl _) (by omega)
  rw [e]
  rw [deepF, if_neg (by omega), if_neg hi]
  unfold deepP
  rw [deepF_same n (n - cutN n) _ (n - cutN n) (by omega) (Nat.le_refl _)]
theorem deepF_le : ∀ (f i n : Nat), deepF f i n ≤ f
  | 0, _, _ => Nat.le_refl _
  | f + 1, i, n => by
    unfold deepF
    have h1 := deepF_le f i (cutN n)
    have h2 := deepF_le f (i - cutN n) (n - cutN n)
    by_cases c : n ≤ 1
    · rw [if_pos c]; omega
    · rw [if_neg c]
      by_cases d : i < cutN n
      · rw [if_pos d]; omega
      · rw [if_neg d]; omega
theorem deepP_le (i n : Nat) : deepP i n ≤ n := deepF_le n i n

def upF : Nat → Nat → Nat → Int → List Int → Int
  | 0, _, _, x, _ => x
  | f + 1, i, n, x, p => if n ≤ 1 then x else if i < cutN n then ofP 3 [upF f i (cutN n) x (p.take (p.length - 1)), p.getD (p.length - 1) 0] else ofP 3 [p.getD (p.length - 1) 0, upF f (i - cutN n) (n - cutN n) x (p.take (p.length - 1))]
theorem upF_same : ∀ (f g i n : Nat) (x : Int) (p : List Int), n ≤ f → n ≤ g → upF f i n x p = upF g i n x p
  | 0, 0, _, _, _, _, _, _ => rfl
  | 0, g + 1, i, n, x, p, h, _ => by unfold upF; rw [if_pos (by omega)]
  | f + 1, 0, i, n, x, p, _, h => by unfold upF; rw [if_pos (by omega)]
  | f + 1, g + 1, i, n, x, p, h1, h2 => by
    unfold upF
    by_cases c : n ≤ 1
    · rw [if_pos c, if_pos c]
    · rw [if_neg c, if_neg c]
      have := cutN_lt (n := n) (by omega)
      rw [upF_same f g i (cutN n) x _ (by omega) (by omega), upF_same f g (i - cutN n) (n - cutN n) x _ (by omega) (by omega)]
/-- The tree of n leaves, by leaf i and its way. -/
def upP (i n : Nat) (x : Int) (p : List Int) : Int := upF n i n x p
theorem upP_one {n : Nat} (h : n ≤ 1) (i : Nat) (x : Int) (p : List Int) : upP i n x p = x := by
  unfold upP
  rw [upF_same n (n + 1) i n x p (Nat.le_refl _) (by omega)]
  unfold upF
  rw [if_pos h]
theorem upP_left {i n : Nat} (h : 2 ≤ n) (hi : i < cutN n) (x : Int) (p : List Int) : upP i n x p = ofP 3 [upP i (cutN n) x (p.take (p.length - 1)), p.getD (p.length - 1) 0] := by
  have := cutN_lt h
  have e : upP i n x p = upF (n + 1) i n x p := upF_same _ _ i n x p (Nat.le_refl _) (by omega)
  rw [e]
  rw [upF, if_neg (by omega), if_pos hi]
  unfold upP
  rw [upF_same n (cutN n) i (cutN n) x _ (by omega) (Nat.le_refl _)]
theorem upP_right {i n : Nat} (h : 2 ≤ n) (hi : ¬ i < cutN n) (x : Int) (p : List Int) : upP i n x p = ofP 3 [p.getD (p.length - 1) 0, upP (i - cutN n) (n - cutN n) x (p.take (p.length - 1))] := by
  have := cutN_lt h
  have e : upP i n x p = upF (n + 1) i n x p := upF_same _ _ i n x p (Nat.le_refl _) (by omega)
  rw [e]
  rw [upF, if_neg (by omega), if_neg hi]
  unfold upP
  rw [upF_same n (n - cutN n) _ (n - cutN n) x _ (by omega) (Nat.le_refl _)]
theorem upP_ok {i n : Nat} {x : Int} {p : List Int} (hx : okW x) : okW (upP i n x p) := by
  by_cases c : n ≤ 1
  · rw [upP_one c]; exact hx
  · by_cases d : i < cutN n
    · rw [upP_left (by omega) d]; exact okW_of_P (ofP_ok _ _)
    · rw [upP_right (by omega) d]; exact okW_of_P (ofP_ok _ _)

theorem take_len {l : List Int} (h : 2 ≤ l.length) : (l.take (cutN l.length)).length = cutN l.length := by
  have := cutN_lt h
  rw [List.length_take]; omega
theorem snoc_last (p : List Int) (x : Int) : (p ++ [x]).getD ((p ++ [x]).length - 1) 0 = x ∧ (p ++ [x]).take ((p ++ [x]).length - 1) = p := by
  constructor <;> simp

/-- The way is as long as it is said to be, and of words. -/
theorem way_deep : ∀ (m : Nat) (l : List Int) (i : Nat), l.length ≤ m → okL l → (wayP l i).length = deepP i l.length ∧ okL (wayP l i)
  | 0, l, i, h, _ => by rw [wayP_one (by omega), deepP_one (by omega)]; exact ⟨rfl, fun i hi => by simp at hi⟩
  | m + 1, l, i, h, hl => by
    by_cases c : l.length ≤ 1
    · rw [wayP_one c, deepP_one c]; exact ⟨rfl, fun i hi => by simp at hi⟩
    · have h2 : 2 ≤ l.length := by omega
      have hc := cutN_lt h2
      by_cases d : i < cutN l.length
      · obtain ⟨e1, e2⟩ := way_deep m (l.take (cutN l.length)) i (by rw [take_len h2]; omega) (okL_take hl _)
        rw [wayP_left h2 d, deepP_left h2 d]
        rw [take_len h2] at e1
        exact ⟨by rw [List.length_append, e1, Nat.add_comm]; rfl, okL_snoc e2 (treeP_ok (okL_drop hl _) (by rw [List.length_drop]; omega))⟩
      · obtain ⟨e1, e2⟩ := way_deep m (l.drop (cutN l.length)) (i - cutN l.length) (by rw [List.length_drop]; omega) (okL_drop hl _)
        rw [wayP_right h2 d, deepP_right h2 d]
        rw [List.length_drop] at e1
        exact ⟨by rw [List.length_append, e1, Nat.add_comm]; rfl, okL_snoc e2 (treeP_ok (okL_take hl _) (by rw [take_len h2]; omega))⟩
/-- Merkle: from each leaf by its way one comes to the tree. -/
theorem way_up : ∀ (m : Nat) (l : List Int) (i : Nat), l.length ≤ m → i < l.length → upP i l.length (l.getD i 0) (wayP l i) = treeP l
  | 0, l, i, h, h1 => by omega
  | m + 1, l, i, h, h1 => by
    by_cases c : l.length ≤ 1
    · obtain rfl : i = 0 := by omega
      rw [upP_one c, treeP_one c]
    · have h2 : 2 ≤ l.length := by omega
      have hc := cutN_lt h2
      by_cases d : i < cutN l.length
      · have e := way_up m (l.take (cutN l.length)) i (by rw [take_len h2]; omega) (by rw [take_len h2]; omega)
        rw [take_len h2] at e
        have e3 : (l.take (cutN l.length)).getD i 0 = l.getD i 0 := by
          rw [List.getD_eq_getElem?_getD, List.getElem?_take_of_lt d, ← List.getD_eq_getElem?_getD]
        rw [e3] at e
        rw [upP_left h2 d, wayP_left h2 d, (snoc_last _ _).1, (snoc_last _ _).2, e, ← treeP_two h2]
      · have e := way_up m (l.drop (cutN l.length)) (i - cutN l.length) (by rw [List.length_drop]; omega) (by rw [List.length_drop]; omega)
        rw [List.length_drop] at e
        have e3 : (l.drop (cutN l.length)).getD (i - cutN l.length) 0 = l.getD i 0 := by
          rw [List.getD_eq_getElem?_getD, List.getElem?_drop, ← List.getD_eq_getElem?_getD]
          congr 1; omega
        rw [e3] at e
        rw [upP_right h2 d, wayP_right h2 d, (snoc_last _ _).1, (snoc_last _ _).2, e, ← treeP_two h2]

end Go.Proofs.YtfcnnolpcnacoaaGreatDoor.Fx

/- What tree.chunks, tree.leaf and tree.Leaves return: the leaves of a list of integers. -/
namespace Go.Proofs.YtfcnnolpcnacoaaGreatDoor.Fx
open Go.RowKit

theorem chunks_calls (n : Nat) (h : n ≤ 200) (w : World) : Calls Tryz.prog 115 #[.int .i64 n] w fun e w' => e = .returned (.int .i64 ((n + 3) / 4 : Nat)) ∧ w' = w := by
  have e1 : ((n : Int) + 4 - 1).tdiv 4 = (((n + 3) / 4 : Nat) : Int) := by
    rw [Int.tdiv_eq_ediv_of_nonneg (by omega)]; omega
  go_enter Tryz.func115, Tryz.ntmps115
  go_wp2
  go_ret
  exact ⟨ret_word (by omega), rfl⟩

theorem numL_ok (xs : List Int) (n : Nat) : okL (numL xs n) := by
  unfold numL
  intro i hi
  by_cases h : 200 < n
  · rw [if_pos h] at hi; simp at hi
  · rw [if_neg h] at hi ⊢
    simp at hi
    have := boundP_ok (xs.getD i 0)
    simp only [List.getD_eq_getElem?_getD, List.getElem?_map, List.getElem?_range hi, Option.map_some, Option.getD_some, numG] at this ⊢
    exact ⟨this.1, by omega⟩
theorem numL_len {xs : List Int} {n : Nat} (h : n ≤ 200) : (numL xs n).length = n := by
  unfold numL; rw [if_neg (by omega)]; simp

theorem leaf_calls (a : Option Addr) (la ca : Nat) (xs : List Int) (w : World) (ha : Lst w a la ca xs) (_hl : la ≤ 4) :
    Calls Tryz.prog 116 #[.slice a la ca] w fun e w' => e = .returned (.int .u64 (ofP 4 (numL xs la))) ∧ Below w.heap.size w w' := by
  go_enter Tryz.func116, Tryz.ntmps116
  go_wp2_with (first | (go_at_call 150; refine (dNumbers_calls _ _ _ xs _ ha).mono ?_; rintro e w1 ⟨a1, n1, rfl, hn1, h1, hw1⟩) | (go_at_call 47; refine (dOf_calls 4 ⟨by omega, by omega⟩ _ _ _ (numL xs la) _ h1 (numL_ok _ _)).mono ?_; rintro e w2 ⟨rfl, hw2⟩))
  go_ret
  exact ⟨ret_word (by unfold ofA; rw [if_neg (by omega)]), hw1.trans (hw2.mono hw1.size)⟩

/-- Leaf i of a list of n integers: of its chunk. -/
def hiN (n i : Nat) : Nat := min (i * 4 + 4) n
def leafG (xs : List Int) (n i : Nat) : Int := ofP 4 (numL ((xs.drop (i * 4)).take (hiN n i - i * 4)) (hiN n i - i * 4))
def leavesP (xs : List Int) (n : Nat) : List Int := (List.range ((n + 3) / 4)).map (leafG xs n)
theorem leavesP_len (xs : List Int) (n : Nat) : (leavesP xs n).length = (n + 3) / 4 := by unfold leavesP; simp
theorem leavesP_ok (xs : List Int) (n : Nat) : okL (leavesP xs n) := by
  intro i hi
  rw [leavesP_len] at hi
  unfold leavesP
  simp only [List.getD_eq_getElem?_getD, List.getElem?_map, List.getElem?_range hi, Option.map_some, Option.getD_some]
  exact okW_of_P (ofP_ok _ _)

set_option maxHeartbeats 1600000 in
theorem leaves_calls (a : Option Addr) (n c : Nat) (xs : List Int) (w : World) (ha : Lst w a n c xs) (h1 : 1 ≤ n) (h2 : n ≤ 200) :
    Calls Tryz.prog 80 #[.slice a n c] w fun e w' => ∃ a', e = .returned (.tuple #[.slice a' ((n + 3) / 4 : Nat) ((n + 3) / 4 : Nat), .int .i64 0]) ∧ LstW w' a' ((n + 3) / 4) ((n + 3) / 4) (leavesP xs n) ∧ Below w.heap.size w w' := by
  unfold leavesP
  have n0 : ((n : Int) == 0) = false := by rw [beq_eq_false_iff_ne]; omega
  have HC : Hid (∀ w, Calls Tryz.prog 115 #[.int .i64 n] w fun e w' => e = .returned (.int .i64 ((n + 3) / 4 : Nat)) ∧ w' = w) := chunks_calls n h2
  obtain ⟨N, hN⟩ : ∃ N, (n + 3) / 4 = N := ⟨_, rfl⟩
  rw [hN] at HC ⊢
  have hmk := run_make_row' (P := Tryz.prog) 82 22 (.int .u64 0) 8 Tryz.underlying82 infoW rfl .i64 .i64 N (by omega) (by omega)
  obtain ⟨b, off, x, rfl, hb, h0, HX⟩ := ha.at1 (k := 0) (by omega)
  have HK := ha.cap
  go_enter Tryz.func80, Tryz.ntmps80
  go_wp2_with (go_at_call 115; refine (HC.out _).mono ?_; rintro e w' ⟨rfl, hw'⟩; replace hw' := hw'.symm; subst hw')
  go_loopw [19] (fun i wr => ∃ k : Nat, k ≤ N ∧ i = .int .i64 k ∧ wr.rowIs w.heap.size 22 N (rowToW (leafG xs n) k) ∧ Below w.heap.size w wr) (fun i _ => N - (intOf i).toNat)
  case atStart => exact ⟨0, Nat.zero_le _, rfl, rowToW_made (World.rowIs_made _ _ _ _), (Below.refl _ _).alloc (Nat.le_refl _) _⟩
  case round =>
    obtain ⟨k, hk, rfl, hrow, hbel⟩ := hrel
    have ha' := ha.below hbel (Nat.le_refl _)
    clear ha hmk
    by_cases hlt : k < N
    · obtain ⟨lo, hlo⟩ : ∃ lo, k * 4 = lo := ⟨_, rfl⟩
      obtain ⟨hi, hhi⟩ : ∃ hi, hiN n k = hi := ⟨_, rfl⟩
      have hh : lo ≤ hi ∧ hi ≤ n ∧ hi ≤ lo + 4 := by unfold hiN at hhi; omega
      have hs := ha'.sub (by omega) lo hi (by omega) (by omega)
      have HG : Hid (leafG xs n k = ofP 4 (numL ((xs.drop lo).take (hi - lo)) (hi - lo))) := by show leafG xs n k = _; unfold leafG; rw [hlo, hhi]
      have HM : Hid (hi = min (lo + 4) n) := by show hi = min (lo + 4) n; rw [← hhi, ← hlo]; rfl
      have c3 := rowToW_cell hrow hlt
      have f3 := hrow.frozen k
      have e1 : (k : Int) * 4 = (lo : Int) := by omega
      clear hhi hlo
      have hlr := hrow.lt
      go_wp2_with fail
      all_goals
        first
          | rw [show ((lo : Int) + 4).toNat = hi from by have := HM.out; omega]
          | rw [show n - lo = hi - lo from by have := HM.out; omega]
        refine (leaf_calls _ _ _ _ _ hs (by omega)).mono ?_
        rintro e w1 ⟨rfl, hw1⟩
        have hrow1 := hrow.of_block (hw1.block _ hlr)
        have d3 := rowToW_cell hrow1 hlt
        have g3 := hrow1.frozen k
        clear c3 f3
        go_wp2
        go_roundw
        case rel =>
          have st := rowToW_step (g := leafG xs n) hrow1
          rw [HG.out] at st
          exact ⟨k + 1, by omega, by go_num, st, (hbel.trans (hw1.mono hbel.size)).setCell (Nat.le_refl _) _⟩
        case measure => simp [intOf]; omega
    · go_wp2
      go_ret2
      obtain rfl : k = N := by omega
      exact ⟨_, rfl, rowToW_lst hrow, hbel⟩

/-- The root of two lists, one behind the other. -/
def rootP (ws ms : List Int) (n : Nat) : Int := ofP 3 [(n : Int), treeP (leavesP (ws ++ ms) n)]
end Go.Proofs.YtfcnnolpcnacoaaGreatDoor.Fx

/- How records lie in memory; no function of the program is spoken of. -/
namespace Go.Proofs.YtfcnnolpcnacoaaGreatDoor.Fx
open Go.RowKit

/-- A record's value: its numbers, and where its batch lies. -/
structure Rcm where
  s : Int
  a : Option Addr
  n : Nat
  k : Nat
  r : Int
  root : Int
  chain : Int
def Rcm.cells (x : Rcm) : Array Value := #[.int .i64 x.s, .slice x.a x.n x.k, .int .i64 x.r, .int .u64 x.root, .int .u64 x.chain]
def Rcm.val (x : Rcm) : Value := .agg x.cells
/-- A slice of records: their values, and their batches' numbers. -/
def Recs (w : World) (a : Option Addr) (n cap : Nat) (R : Nat → Rcm) (D : Nat → List Int) : Prop :=
  n ≤ cap ∧ (n = 0 ∨ ∃ b off, a = some ⟨b, off, none⟩ ∧ b < w.heap.size ∧ ∀ i, i < n → w.cell? ⟨b, off + i * 5, none⟩ = some (.int .i64 (R i).s) ∧ w.cell? ⟨b, off + i * 5 + 1, none⟩ = some (.slice (R i).a (R i).n (R i).k) ∧ w.cell? ⟨b, off + i * 5 + 2, none⟩ = some (.int .i64 (R i).r) ∧ w.cell? ⟨b, off + i * 5 + 3, none⟩ = some (.int .u64 (R i).root) ∧ w.cell? ⟨b, off + i * 5 + 4, none⟩ = some (.int .u64 (R i).chain) ∧ Lst w (R i).a (R i).n (R i).k (D i))
theorem Recs.below {w w' : World} {a : Option Addr} {n c : Nat} {R : Nat → Rcm} {D : Nat → List Int} {B : Nat} (h : Recs w a n c R D) (hb : Below B w w') (hB : w.heap.size ≤ B) : Recs w' a n c R D := by
  refine ⟨h.1, ?_⟩
  rcases h.2 with h0 | ⟨b, off, e, hs, hc⟩
  · exact .inl h0
  · have k : ∀ o, w'.cell? ⟨b, o, none⟩ = w.cell? ⟨b, o, none⟩ := fun o => hb.cell (p := ⟨b, o, none⟩) (Nat.lt_of_lt_of_le hs hB)
    exact .inr ⟨b, off, e, Nat.lt_of_lt_of_le hs hb.size, fun i hi =>
      ⟨(k _).trans (hc i hi).1, (k _).trans (hc i hi).2.1, (k _).trans (hc i hi).2.2.1, (k _).trans (hc i hi).2.2.2.1, (k _).trans (hc i hi).2.2.2.2.1, (hc i hi).2.2.2.2.2.below hb hB⟩⟩
theorem Recs.nil (w : World) (a : Option Addr) (c : Nat) (R : Nat → Rcm) (D : Nat → List Int) : Recs w a 0 c R D := ⟨Nat.zero_le _, .inl rfl⟩
theorem Recs.at {w : World} {a : Option Addr} {n c : Nat} {R : Nat → Rcm} {D : Nat → List Int} (h : Recs w a n c R D) (hn : 0 < n) : ∃ b off, a = some ⟨b, off, none⟩ ∧ ∀ i, i < n → w.cell? ⟨b, off + i * 5, none⟩ = some (.int .i64 (R i).s) ∧ w.cell? ⟨b, off + i * 5 + 1, none⟩ = some (.slice (R i).a (R i).n (R i).k) ∧ w.cell? ⟨b, off + i * 5 + 2, none⟩ = some (.int .i64 (R i).r) ∧ w.cell? ⟨b, off + i * 5 + 3, none⟩ = some (.int .u64 (R i).root) ∧ w.cell? ⟨b, off + i * 5 + 4, none⟩ = some (.int .u64 (R i).chain) ∧ Lst w (R i).a (R i).n (R i).k (D i) := by
  rcases h.2 with h0 | ⟨b, off, e, _, hc⟩
  · omega
  · exact ⟨b, off, e, hc⟩
end Go.Proofs.YtfcnnolpcnacoaaGreatDoor.Fx

/- A journal in plain numbers: roots, heads, chains, records; and how records lie in memory; no function of the program is spoken of. -/
namespace Go.Proofs.YtfcnnolpcnacoaaGreatDoor.Fx
open Go.RowKit

/-- What a head is a digest of. -/
def headL (c : Cfg) (n : Nat) (DI DO : Nat → List Int) (N : Nat) : List Int :=
  [c.i, c.h, c.o, c.seed, c.batch, c.steps, c.rate, c.decay, c.how, c.keep, c.clip] ++ (List.range n).map (fun j => rootP (DI j) (DO j) ((DI j).length + (DO j).length)) ++ [rootP ((List.range N).map (startG c.seed)) ((List.range N).map zeroG) (N + N)]
def headP (c : Cfg) (n : Nat) (DI DO : Nat → List Int) (N : Nat) : Int := ofP 5 (headL c n DI DO N)
def chainL (before step rate root : Int) (bs : List Int) : List Int := [before, step, rate, root, (bs.length : Int)] ++ bs
def chainP (before step rate root : Int) (bs : List Int) : Int := ofP 6 (chainL before step rate root bs)
/-- May a record be chained? -/
def nonB (bs : List Int) : Bool := bs.all fun x => decide (0 ≤ x)
def chB (step rate : Int) (len : Nat) (bs : List Int) : Bool := decide (0 ≤ step) && decide (0 ≤ rate) && decide (len ≤ 8) && nonB bs
theorem nonB_true {xs : List Int} (h : ∀ j, j < xs.length → 0 ≤ xs.getD j 0) : nonB xs = true := by
  unfold nonB
  rw [List.all_eq_true]
  intro x hx
  obtain ⟨i, hi, rfl⟩ := List.getElem_of_mem hx
  have := h i hi
  rw [List.getD_eq_getElem?_getD, List.getElem?_eq_getElem hi, Option.getD_some] at this
  exact decide_eq_true this
theorem nonB_get {xs : List Int} (h : nonB xs = true) (j : Nat) : 0 ≤ xs.getD j 0 := by
  unfold nonB at h
  rw [List.all_eq_true] at h
  rcases Nat.lt_or_ge j xs.length with hj | hj
  · have := of_decide_eq_true (h (xs[j]) (List.getElem_mem hj))
    rw [List.getD_eq_getElem?_getD, List.getElem?_eq_getElem hj, Option.getD_some]
    exact this
  · rw [List.getD_eq_getElem?_getD, List.getElem?_eq_none hj]
    exact Int.le_refl _
theorem nonB_false {xs : List Int} {k : Nat} (h : ¬ 0 ≤ xs.getD k 0) : nonB xs = false := by
  cases e : nonB xs with
  | false => rfl
  | true => exact absurd (nonB_get e k) h
/-- Whether the first k are not below nothing. -/
def nonTo (xs : List Int) (k : Nat) (b0 ok : Bool) : Prop := ok = true ↔ (b0 = true ∧ ∀ j, j < k → 0 ≤ xs.getD j 0)
theorem nonTo_zero (xs : List Int) (b0 : Bool) : nonTo xs 0 b0 b0 := ⟨fun h => ⟨h, fun j hj => by omega⟩, fun h => h.1⟩
theorem nonTo_step {xs : List Int} {k : Nat} {b0 ok : Bool} {x : Int} (h : nonTo xs k b0 ok) (hx : xs.getD k 0 = x) : nonTo xs (k + 1) b0 (ok && decide (0 ≤ x)) := by
  unfold nonTo
  rw [Bool.and_eq_true, decide_eq_true_eq]
  refine ⟨fun g => ⟨(h.1 g.1).1, fun j hj => ?_⟩, fun g => ⟨h.2 ⟨g.1, fun j hj => g.2 j (by omega)⟩, by rw [← hx]; exact g.2 k (by omega)⟩⟩
  by_cases e : j = k
  · subst e; rw [hx]; exact g.2
  · exact (h.1 g.1).2 j (by omega)
theorem nonTo_end {xs : List Int} {k : Nat} {b0 ok : Bool} (h : nonTo xs k b0 ok) (hk : xs.length = k) : ok = (b0 && nonB xs) := by
  cases ok with
  | true =>
    obtain ⟨g1, g2⟩ := h.1 rfl
    rw [g1, nonB_true (fun j hj => g2 j (by omega))]; rfl
  | false =>
    cases e1 : b0 with
    | false => rfl
    | true =>
      cases e2 : nonB xs with
      | false => rfl
      | true => exact absurd (h.2 ⟨e1, fun j _ => nonB_get e2 j⟩) (by decide)

/-- The records of a course. -/
def jrRoot (c : Cfg) (n : Nat) (DI DO : Nat → List Int) (N k : Nat) : Int := rootP (stateP c n DI DO N (k + 1)).1 (stateP c n DI DO N (k + 1)).2 (N + N)
def jrBatch (c : Cfg) (n k : Nat) : List Int := batchP c.seed c.batch.toNat n (k * c.batch.toNat)
def jrChain (c : Cfg) (n : Nat) (DI DO : Nat → List Int) (N : Nat) : Nat → Int
  | 0 => headP c n DI DO N
  | k + 1 => chainP (jrChain c n DI DO N k) (k : Int) (rateV c k) (jrRoot c n DI DO N k) (jrBatch c n k)

theorem okL_app {xs ys : List Int} (hx : okL xs) (hy : okL ys) : okL (xs ++ ys) := by
  intro i hi
  rw [List.length_append] at hi
  rcases Nat.lt_or_ge i xs.length with h | h
  · rw [List.getD_eq_getElem?_getD, List.getElem?_append_left h, ← List.getD_eq_getElem?_getD]; exact hx i h
  · rw [List.getD_eq_getElem?_getD, List.getElem?_append_right h, ← List.getD_eq_getElem?_getD]; exact hy _ (by omega)
theorem okL_non {xs : List Int} (h : nonB xs = true) (h2 : ∀ j, xs.getD j 0 ≤ 9223372036854775807) : okL xs := fun i _ => ⟨nonB_get h i, by have := h2 i; omega⟩
end Go.Proofs.YtfcnnolpcnacoaaGreatDoor.Fx

/- What package journal's functions answer, in plain numbers, for every input; no function of the program is spoken of. -/
namespace Go.Proofs.YtfcnnolpcnacoaaGreatDoor.Fx
open Go.RowKit

def rootE (n1 n2 : Nat) : Int := if n1 + n2 = 0 then 1 else if 200 < n1 + n2 then 2 else 0
def rootV (n1 : Nat) (ws : List Int) (n2 : Nat) (ms : List Int) : Int := if rootE n1 n2 = 0 then rootP ws ms (n1 + n2) else 0
def headV (c : Cfg) (n : Nat) (X : Nat → Exm) (DI DO : Nat → List Int) : Int := if courseI c n X DI DO = 0 then headP c n DI DO (sizeN c).toNat else 0
def chE (step rate : Int) (len : Nat) (bs : List Int) : Int := if chB step rate len bs = true then 0 else 5
def chV (before step rate root : Int) (len : Nat) (bs : List Int) : Int := if chB step rate len bs = true then chainP before step rate root bs else 0
def mkE (c : Cfg) (n : Nat) (X : Nat → Exm) (DI DO : Nat → List Int) (m : Int) : Int := if courseI c n X DI DO = 0 then (if inB m 0 c.steps = true then 0 else 1) else courseI c n X DI DO
def mkN (c : Cfg) (n : Nat) (X : Nat → Exm) (DI DO : Nat → List Int) (m : Int) : Nat := if mkE c n X DI DO m = 0 then m.toNat else 0
def mkRV (c : Cfg) (j : Nat) : Int := rateV c j
def mkRO (c : Cfg) (n : Nat) (DI DO : Nat → List Int) : Nat → Int := jrRoot c n DI DO (sizeN c).toNat
def mkCH (c : Cfg) (n : Nat) (DI DO : Nat → List Int) : Nat → Int := jrChain c n DI DO (sizeN c).toNat
theorem course_is {c : Cfg} {n : Nat} {X : Nat → Exm} {DI DO : Nat → List Int} (h : courseI c n X DI DO = 0) : cfgB c = true ∧ 1 ≤ n ∧ n ≤ 16 ∧ allEx c n X DI DO = true := by
  unfold courseI at h
  by_cases h1 : cfgB c = true
  · rw [if_pos h1] at h
    by_cases h2 : n = 0
    · rw [if_pos h2] at h; cases h
    · rw [if_neg h2] at h
      by_cases h3 : 16 < n
      · rw [if_pos h3] at h; cases h
      · rw [if_neg h3] at h
        by_cases h4 : allEx c n X DI DO = true
        · exact ⟨h1, by omega, by omega, h4⟩
        · rw [if_neg h4] at h; cases h
  · rw [if_neg h1] at h; cases h
/-- A batch's numbers, one by one. -/
def jrG (c : Cfg) (n k : Nat) : Nat → Int := batchG c.seed n (k * c.batch.toNat)
theorem jrBatch_is (c : Cfg) (n : Nat) : jrBatch c n = fun k => (List.range c.batch.toNat).map (jrG c n k) := rfl
def noRec : Nat → Rcm := fun _ => ⟨0, none, 0, 0, 0, 0, 0⟩
/-- What the first records say. -/
def JrN (k : Nat) (R : Nat → Rcm) (RV RO CH : Nat → Int) : Prop := ∀ j, j < k → (R j).s = (j : Int) ∧ (R j).r = RV j ∧ (R j).root = RO j ∧ (R j).chain = CH (j + 1)
theorem JrN.push {k : Nat} {R R2 : Nat → Rcm} {RV RO CH : Nat → Int} (h : JrN k R RV RO CH) (hR : ∀ j, j < k → R2 j = R j) (h1 : (R2 k).s = (k : Int)) (h2 : (R2 k).r = RV k) (h3 : (R2 k).root = RO k) (h4 : (R2 k).chain = CH (k + 1)) : JrN (k + 1) R2 RV RO CH := fun j hj => by
  by_cases e : j = k
  · subst e; exact ⟨h1, h2, h3, h4⟩
  · rw [hR j (by omega)]; exact h j (by omega)
end Go.Proofs.YtfcnnolpcnacoaaGreatDoor.Fx
