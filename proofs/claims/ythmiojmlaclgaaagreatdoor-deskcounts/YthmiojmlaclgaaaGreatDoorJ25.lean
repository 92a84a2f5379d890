/- What package desk's exampleOf returns. -/
import Derived.Test.YthmiojmlaclgaaaGreatDoorJ24
import Derived.Test.YthmiojmlaclgaaaGreatDoorJ17
import Derived.Test.YthmiojmlaclgaaaGreatDoorJ09
import Derived.Test.YthmiojmlaclgaaaGreatDoorJ23
namespace Go.Proofs.YthmiojmlaclgaaaGreatDoor.Fx
open Go.RowKit

theorem LstS.rest {w : World} {b off n c : Nat} {ws : List (List UInt8)} (h : LstS w (some ⟨b, off, none⟩) n c ws) {k : Nat} (hk : k ≤ n) (a : Option Addr) (ha : k < n → a = some ⟨b, off + k, none⟩) : LstS w a (n - k) (c - k) (ws.drop k) := by
  by_cases h0 : k < n
  · rw [ha h0]; exact h.post h0
  · have hl := h.len
    have hc := h.cap
    exact ⟨by rw [List.length_drop]; omega, by omega, .inl (by omega)⟩
theorem getD_take_len {ws : List (List UInt8)} {B : Nat} (h : ∀ i, (ws.getD i []).length ≤ B) (k i : Nat) : ((ws.take k).getD i []).length ≤ B := by
  by_cases hi : i < k
  · rw [List.getD_eq_getElem?_getD, List.getElem?_take_of_lt hi, ← List.getD_eq_getElem?_getD]; exact h i
  · rw [List.getD_eq_getElem?_getD, List.getElem?_eq_none (by rw [List.length_take]; omega)]; simp
theorem getD_drop_len {ws : List (List UInt8)} {B : Nat} (h : ∀ i, (ws.getD i []).length ≤ B) (k i : Nat) : ((ws.drop k).getD i []).length ≤ B := by
  rw [List.getD_eq_getElem?_getD, List.getElem?_drop, ← List.getD_eq_getElem?_getD]; exact h _

theorem Lst.setFar2 {w : World} {g off n c : Nat} {xs : List Int} (h : Lst w (some ⟨g, off, none⟩) n c xs) {b i : Nat} {v : Value} (hne : g ≠ b) : Lst (w.setCell ⟨b, i, none⟩ v) (some ⟨g, off, none⟩) n c xs := by
  refine ⟨h.1, h.2.1, ?_⟩
  rcases h.2.2 with h0 | ⟨b', off', e, hs, hc⟩
  · exact .inl h0
  · simp only [Option.some.injEq, Addr.mk.injEq, and_true] at e
    obtain ⟨rfl, rfl⟩ := e
    refine .inr ⟨g, off, rfl, by rw [World.size_setCell]; exact hs, fun j hj => ?_⟩
    rw [World.cell?_setCell_far _ _ _ _ (by exact fun e => hne e.symm)]
    exact hc j hj

set_option maxRecDepth 100000 in
set_option maxHeartbeats 3200000 in
theorem exampleOf_calls (a : Option Addr) (n c : Nat) (ws : List (List UInt8)) (w : World) (hl : LstS w a n c ws) (hn : n ≤ 70000) (hw : ∀ i, (ws.getD i []).length ≤ 70000) (hL : LD w) :
    Calls Tryz.prog 47 #[.slice a n c] w fun e w' => ExR ws w e w' ∧ Below w.heap.size w w' := by
  have HN : Hid (ws.length = n) := hl.len
  have hcap := hl.cap
  have hal := low_alloc w (.cells #[.slice none 0 0, .slice none 0 0] 78)
  have R0 := fn2_alloc w (.slice none 0 0) (.slice none 0 0) 78
  obtain ⟨W, HWW⟩ : ∃ q, Hid (q = w.alloc (.cells #[.slice none 0 0, .slice none 0 0] 78)) := ⟨_, rfl⟩
  have hsW : W.heap.size = w.heap.size + 1 := by rw [HWW.out]; simp
  rw [← HWW.out] at hal R0
  have lW := hl.below hal (Nat.le_refl _)
  have LW := hL.below hal (Nat.le_refl _)
  have IX := idxS_calls a n c ws W lW (by omega)
  rcases slash_ways ws with hm | ⟨k, hk, hkn⟩
  · rw [hm] at IX
    obtain ⟨r0, r1⟩ := fn2_cells R0
    have f0 := R0.frozen 0
    have f1 := R0.frozen 1
    have HE : Hid (exO ws = none) := by show _ = _; unfold exO; rw [if_pos (by omega)]
    go_enter Tryz.func47, Tryz.ntmps47
    go_upto_region 1 with fail
    rw [← HWW.out]
    go_wp2_with (go_at_call 38; refine IX.mono ?_; rintro e w' ⟨rfl, hwE⟩; have hwF := hwE.symm; subst hwF)
    have R3 := fn2_set R0 (.slice none 0 0) (.slice none 0 0)
    obtain ⟨e0, e1⟩ := fn2_cells R3
    exact bodyPost_ret (v := .tuple #[.agg #[.slice none 0 0, .slice none 0 0], .bool false]) (by simp [results, Tryz.results47, go_sem, e0, e1]) rfl ⟨.inr ⟨HE.out, rfl⟩, (hal.setCell (p := ⟨w.heap.size, 0, none⟩) (Nat.le_refl _) _).setCell (p := ⟨w.heap.size, 1, none⟩) (Nat.le_refl _) _⟩
  · rw [hk] at IX
    have hkn2 : k < n := by rw [HN.out] at hkn; exact hkn
    obtain ⟨b, off, rfl, hb, _⟩ := hl.at (by omega)
    have N1 := Lib.hid (numbersOf_calls (some ⟨b, off, none⟩) k c (ws.take k) W (lW.pre (by omega)) (by omega) (getD_take_len hw k) LW)
    have HN2 : Hid (∀ q aa, Below W.heap.size W q → (k + 1 < n → aa = some ⟨b, off + (k + 1), none⟩) → Calls Tryz.prog 32 #[.slice aa (n - (k + 1)) (c - (k + 1))] q fun e w' => NumsR (ws.drop (k + 1)) (n - (k + 1)) q e w' ∧ Below q.heap.size q w') := fun q aa hq ha => numbersOf_calls aa _ _ _ q ((lW.below hq (Nat.le_refl _)).rest (by omega) aa ha) (by omega) (getD_drop_len hw (k + 1)) (LW.below hq (Nat.le_refl _))
    have q1 : (0 : Int) ≤ (k : Int) := by omega
    have q2 : (k : Int) ≤ (n : Int) := by omega
    have q3 : (n : Int) ≤ (c : Int) := by omega
    have q4 : (k : Int) ≤ (c : Int) := by omega
    have q5 : (k : Int) + 1 ≤ (n : Int) := by omega
    have q6 : ¬ (k : Int) < 0 := by omega
    clear hw hkn
    have HK : Hid (slashAt ws = (k : Int)) := hk
    clear hk
    go_enter Tryz.func47, Tryz.ntmps47
    go_upto_region 1 with fail
    rw [← HWW.out]
    go_wp2_with (go_at_call 38; refine IX.mono ?_; rintro e w' ⟨rfl, hwE⟩; have hwF := hwE.symm; subst hwF)
    refine N1.out.mono ?_
    rintro e w1 ⟨h1, hw1⟩
    have hB1 := hal.trans (hw1.mono hal.size)
    have R1 := R0.of_block (hw1.block _ (by omega))
    have hs1 := hw1.size
    by_cases hck : c = k + 1
    · obtain rfl : n = k + 1 := by omega
      subst hck
      have M2 := HN2.out w1 (some ⟨b, off, none⟩) hw1 (fun h => by omega)
      rw [Nat.sub_self] at M2
      clear HN2 IX N1 hl lW
      rcases h1 with ⟨z1, hz1, rfl, l1, t1, u1⟩ | ⟨hz1, rfl⟩
      · have HZ1 : Hid (numsO (ws.take k) = some z1) := hz1
        rw [hsW] at l1 u1
        clear hz1
        go_wp2_with fail
        refine M2.mono ?_
        rintro e w2 ⟨h2, hw2⟩
        rcases h2 with ⟨z2, hz2, rfl, l2, t2, u2⟩ | ⟨hz2, rfl⟩
        · have HE : Hid (exO ws = some (z1, z2)) := exO_good HK.out HZ1.out hz2
          clear hz2
          have R2 := R1.of_block (hw2.block _ R1.lt)
          have hB2 := hB1.trans (hw2.mono hB1.size)
          obtain ⟨r0, r1⟩ := fn2_cells R2
          have f0 := R2.frozen 0
          have f1 := R2.frozen 1
          go_wp2_with fail
          have R3 := fn2_set R2 (.slice (some ⟨w.heap.size + 1, 0, none⟩) k k) (.slice (some ⟨w1.heap.size, 0, none⟩) 0 0)
          obtain ⟨e0, e1⟩ := fn2_cells R3
          refine bodyPost_ret (v := .tuple #[.agg #[.slice (some ⟨w.heap.size + 1, 0, none⟩) k k, .slice (some ⟨w1.heap.size, 0, none⟩) 0 0], .bool true]) (by simp [results, Tryz.results47, go_sem, e0, e1]) rfl ⟨.inl ⟨⟨_, k, k, _, 0, 0⟩, z1, z2, HE.out, rfl, ⟨?_, ?_⟩, ?_, ?_⟩, (hB2.setCell (p := ⟨w.heap.size, 0, none⟩) (Nat.le_refl _) _).setCell (p := ⟨w.heap.size, 1, none⟩) (Nat.le_refl _) _⟩
          · exact ((l1.below hw2 (Nat.le_refl _)).setFar2 (by omega)).setFar2 (by omega)
          · exact (l2.setFar2 (by omega)).setFar2 (by omega)
          · intro g o e; simp only [Option.some.injEq, Addr.mk.injEq, and_true] at e; have := hw2.size; obtain ⟨rfl, _⟩ := e; exact ⟨by omega, ((u1.of (hw2.block _ (by omega))).far (by omega)).far (by omega)⟩
          · intro g o e; simp only [Option.some.injEq, Addr.mk.injEq, and_true] at e; have := hw2.size; obtain ⟨rfl, _⟩ := e; exact ⟨by omega, (u2.far (by omega)).far (by omega)⟩
        · have HE : Hid (exO ws = none) := exO_bad HK.out (.inr hz2)
          clear hz2
          have R2 := R1.of_block (hw2.block _ R1.lt)
          have hB2 := hB1.trans (hw2.mono hB1.size)
          obtain ⟨r0, r1⟩ := fn2_cells R2
          have f0 := R2.frozen 0
          have f1 := R2.frozen 1
          go_wp2_with fail
          have R3 := fn2_set R2 (.slice none 0 0) (.slice none 0 0)
          obtain ⟨e0, e1⟩ := fn2_cells R3
          exact bodyPost_ret (v := .tuple #[.agg #[.slice none 0 0, .slice none 0 0], .bool false]) (by simp [results, Tryz.results47, go_sem, e0, e1]) rfl ⟨.inr ⟨HE.out, rfl⟩, (hB2.setCell (p := ⟨w.heap.size, 0, none⟩) (Nat.le_refl _) _).setCell (p := ⟨w.heap.size, 1, none⟩) (Nat.le_refl _) _⟩
      · have HZ1 : Hid (numsO (ws.take k) = none) := hz1
        clear hz1
        go_wp2_with fail
        refine M2.mono ?_
        rintro e w2 ⟨h2, hw2⟩
        rcases h2 with ⟨z2, hz2, rfl, l2, t2, u2⟩ | ⟨hz2, rfl⟩
        · have HE : Hid (exO ws = none) := exO_bad HK.out (.inl HZ1.out)
          clear hz2
          have R2 := R1.of_block (hw2.block _ R1.lt)
          have hB2 := hB1.trans (hw2.mono hB1.size)
          obtain ⟨r0, r1⟩ := fn2_cells R2
          have f0 := R2.frozen 0
          have f1 := R2.frozen 1
          go_wp2_with fail
          have R3 := fn2_set R2 (.slice none 0 0) (.slice none 0 0)
          obtain ⟨e0, e1⟩ := fn2_cells R3
          exact bodyPost_ret (v := .tuple #[.agg #[.slice none 0 0, .slice none 0 0], .bool false]) (by simp [results, Tryz.results47, go_sem, e0, e1]) rfl ⟨.inr ⟨HE.out, rfl⟩, (hB2.setCell (p := ⟨w.heap.size, 0, none⟩) (Nat.le_refl _) _).setCell (p := ⟨w.heap.size, 1, none⟩) (Nat.le_refl _) _⟩
        · have HE : Hid (exO ws = none) := exO_bad HK.out (.inl HZ1.out)
          clear hz2
          have R2 := R1.of_block (hw2.block _ R1.lt)
          have hB2 := hB1.trans (hw2.mono hB1.size)
          obtain ⟨r0, r1⟩ := fn2_cells R2
          have f0 := R2.frozen 0
          have f1 := R2.frozen 1
          go_wp2_with fail
          have R3 := fn2_set R2 (.slice none 0 0) (.slice none 0 0)
          obtain ⟨e0, e1⟩ := fn2_cells R3
          exact bodyPost_ret (v := .tuple #[.agg #[.slice none 0 0, .slice none 0 0], .bool false]) (by simp [results, Tryz.results47, go_sem, e0, e1]) rfl ⟨.inr ⟨HE.out, rfl⟩, (hB2.setCell (p := ⟨w.heap.size, 0, none⟩) (Nat.le_refl _) _).setCell (p := ⟨w.heap.size, 1, none⟩) (Nat.le_refl _) _⟩
    · have M2 := HN2.out w1 (some ⟨b, off + (k + 1), none⟩) hw1 (fun _ => rfl)
      have q7 : ¬ c = k + 1 := hck
      clear HN2 IX N1 hl lW
      rcases h1 with ⟨z1, hz1, rfl, l1, t1, u1⟩ | ⟨hz1, rfl⟩
      · have HZ1 : Hid (numsO (ws.take k) = some z1) := hz1
        rw [hsW] at l1 u1
        clear hz1
        go_wp2_with fail
        refine M2.mono ?_
        rintro e w2 ⟨h2, hw2⟩
        rcases h2 with ⟨z2, hz2, rfl, l2, t2, u2⟩ | ⟨hz2, rfl⟩
        · have HE : Hid (exO ws = some (z1, z2)) := exO_good HK.out HZ1.out hz2
          clear hz2
          have R2 := R1.of_block (hw2.block _ R1.lt)
          have hB2 := hB1.trans (hw2.mono hB1.size)
          obtain ⟨r0, r1⟩ := fn2_cells R2
          have f0 := R2.frozen 0
          have f1 := R2.frozen 1
          go_wp2_with fail
          have R3 := fn2_set R2 (.slice (some ⟨w.heap.size + 1, 0, none⟩) k k) (.slice (some ⟨w1.heap.size, 0, none⟩) (n - (k + 1)) (n - (k + 1)))
          obtain ⟨e0, e1⟩ := fn2_cells R3
          refine bodyPost_ret (v := .tuple #[.agg #[.slice (some ⟨w.heap.size + 1, 0, none⟩) k k, .slice (some ⟨w1.heap.size, 0, none⟩) (n - (k + 1)) (n - (k + 1))], .bool true]) (by simp [results, Tryz.results47, go_sem, e0, e1]) rfl ⟨.inl ⟨⟨_, k, k, _, (n - (k + 1)), (n - (k + 1))⟩, z1, z2, HE.out, rfl, ⟨?_, ?_⟩, ?_, ?_⟩, (hB2.setCell (p := ⟨w.heap.size, 0, none⟩) (Nat.le_refl _) _).setCell (p := ⟨w.heap.size, 1, none⟩) (Nat.le_refl _) _⟩
          · exact ((l1.below hw2 (Nat.le_refl _)).setFar2 (by omega)).setFar2 (by omega)
          · exact (l2.setFar2 (by omega)).setFar2 (by omega)
          · intro g o e; simp only [Option.some.injEq, Addr.mk.injEq, and_true] at e; have := hw2.size; obtain ⟨rfl, _⟩ := e; exact ⟨by omega, ((u1.of (hw2.block _ (by omega))).far (by omega)).far (by omega)⟩
          · intro g o e; simp only [Option.some.injEq, Addr.mk.injEq, and_true] at e; have := hw2.size; obtain ⟨rfl, _⟩ := e; exact ⟨by omega, (u2.far (by omega)).far (by omega)⟩
        · have HE : Hid (exO ws = none) := exO_bad HK.out (.inr hz2)
          clear hz2
          have R2 := R1.of_block (hw2.block _ R1.lt)
          have hB2 := hB1.trans (hw2.mono hB1.size)
          obtain ⟨r0, r1⟩ := fn2_cells R2
          have f0 := R2.frozen 0
          have f1 := R2.frozen 1
          go_wp2_with fail
          have R3 := fn2_set R2 (.slice none 0 0) (.slice none 0 0)
          obtain ⟨e0, e1⟩ := fn2_cells R3
          exact bodyPost_ret (v := .tuple #[.agg #[.slice none 0 0, .slice none 0 0], .bool false]) (by simp [results, Tryz.results47, go_sem, e0, e1]) rfl ⟨.inr ⟨HE.out, rfl⟩, (hB2.setCell (p := ⟨w.heap.size, 0, none⟩) (Nat.le_refl _) _).setCell (p := ⟨w.heap.size, 1, none⟩) (Nat.le_refl _) _⟩
      · have HZ1 : Hid (numsO (ws.take k) = none) := hz1
        clear hz1
        go_wp2_with fail
        refine M2.mono ?_
        rintro e w2 ⟨h2, hw2⟩
        rcases h2 with ⟨z2, hz2, rfl, l2, t2, u2⟩ | ⟨hz2, rfl⟩
        · have HE : Hid (exO ws = none) := exO_bad HK.out (.inl HZ1.out)
          clear hz2
          have R2 := R1.of_block (hw2.block _ R1.lt)
          have hB2 := hB1.trans (hw2.mono hB1.size)
          obtain ⟨r0, r1⟩ := fn2_cells R2
          have f0 := R2.frozen 0
          have f1 := R2.frozen 1
          go_wp2_with fail
          have R3 := fn2_set R2 (.slice none 0 0) (.slice none 0 0)
          obtain ⟨e0, e1⟩ := fn2_cells R3
          exact bodyPost_ret (v := .tuple #[.agg #[.slice none 0 0, .slice none 0 0], .bool false]) (by simp [results, Tryz.results47, go_sem, e0, e1]) rfl ⟨.inr ⟨HE.out, rfl⟩, (hB2.setCell (p := ⟨w.heap.size, 0, none⟩) (Nat.le_refl _) _).setCell (p := ⟨w.heap.size, 1, none⟩) (Nat.le_refl _) _⟩
        · have HE : Hid (exO ws = none) := exO_bad HK.out (.inl HZ1.out)
          clear hz2
          have R2 := R1.of_block (hw2.block _ R1.lt)
          have hB2 := hB1.trans (hw2.mono hB1.size)
          obtain ⟨r0, r1⟩ := fn2_cells R2
          have f0 := R2.frozen 0
          have f1 := R2.frozen 1
          go_wp2_with fail
          have R3 := fn2_set R2 (.slice none 0 0) (.slice none 0 0)
          obtain ⟨e0, e1⟩ := fn2_cells R3
          exact bodyPost_ret (v := .tuple #[.agg #[.slice none 0 0, .slice none 0 0], .bool false]) (by simp [results, Tryz.results47, go_sem, e0, e1]) rfl ⟨.inr ⟨HE.out, rfl⟩, (hB2.setCell (p := ⟨w.heap.size, 0, none⟩) (Nat.le_refl _) _).setCell (p := ⟨w.heap.size, 1, none⟩) (Nat.le_refl _) _⟩
end Go.Proofs.YthmiojmlaclgaaaGreatDoor.Fx

/- A desk as it lies in memory: what is known of it, and what its methods may change. -/
namespace Go.Proofs.YthmiojmlaclgaaaGreatDoor.Fx
open Go.RowKit

def dcs (c : Cfg) (v p : Value) : List Value := c.cells.toList ++ [v, p]
def dcell (c : Cfg) (v p : Value) (i : Nat) : Value := (dcs c v p).getD i undef
/-- The slice value v owns the examples X. -/
def OwnE (base : Nat) (w : World) (v : Value) (n : Nat) (X : Nat → Exm) : Prop := w.ownsRow base 78 2 v n (stCells X n)
/-- The library's tables lie below block number base. -/
def LDb (base : Nat) (w : World) : Prop := ∃ w0, LD w0 ∧ w0.heap.size ≤ base ∧ Below w0.heap.size w0 w
theorem LDb.out {base : Nat} {w : World} (h : LDb base w) : LD w := by
  obtain ⟨w0, h1, _, h3⟩ := h
  exact h1.below h3 (Nat.le_refl _)
theorem LDb.low {base : Nat} {w w' : World} (h : LDb base w) (hb : Below base w w') : LDb base w' := by
  obtain ⟨w0, h1, h2, h3⟩ := h
  exact ⟨w0, h1, h2, h3.trans (hb.mono h2)⟩
/-- The desk d in block b, its store in block s, its examples in a list of their own. -/
structure DkIn (base : Nat) (w : World) (b s : Nat) (d : Dsk) (a : Option Addr) (cap : Nat) (X : Nat → Exm) : Prop where
  row : w.rowIs b 64 13 (dcell d.c (.slice a d.n cap) (.pointer (some ⟨s, 0, none⟩)))
  st : StoAt w s d.T 4096 d.sy
  own : OwnE base w (.slice a d.n cap) d.n X
  ex : ∀ i, i < d.n → InEx w (X i) (d.DI i) (d.DO i)
  fa : ∀ i, i < d.n → ∀ g o, (X i).a = some ⟨g, o, none⟩ → base ≤ g ∧ g ≠ b ∧ g ≠ s ∧ (Value.slice a d.n cap).ownBlock ≠ some g ∧ TyI w g
  fb : ∀ i, i < d.n → ∀ g o, (X i).b = some ⟨g, o, none⟩ → base ≤ g ∧ g ≠ b ∧ g ≠ s ∧ (Value.slice a d.n cap).ownBlock ≠ some g ∧ TyI w g
  hb : base ≤ b
  hs : base ≤ s
  ok : d.ok
  ldb : LDb base w
/-- What a desk's methods leave as it was. -/
structure DkCh (base : Nat) (w w' : World) : Prop where
  low : Below base w w'
  typ : ∀ (g : Nat) (cs : Array Value) (t : TypeId) (fz : Nat × Nat), w.heap[g]? = some (Obj.cells cs t fz) → t ≠ 64 → t ≠ 88 → t ≠ 78 → w'.heap[g]? = some (Obj.cells cs t fz)
theorem DkCh.trans {base : Nat} {w w1 w2 : World} (h : DkCh base w w1) (g : DkCh base w1 w2) : DkCh base w w2 := ⟨h.low.trans g.low, fun k cs t fz hk h1 h2 h3 => g.typ k cs t fz (h.typ k cs t fz hk h1 h2 h3) h1 h2 h3⟩
theorem DkCh.ofBelow {base : Nat} {w w' : World} (h : Below w.heap.size w w') (hb : base ≤ w.heap.size) : DkCh base w w' := ⟨h.mono hb, fun k _ _ _ hk _ _ _ => (h.block k (Array.getElem?_eq_some_iff.1 hk).1).trans hk⟩
theorem DkCh.ofKeeps {base s : Nat} {w w' : World} {T : List UInt8} {room sy : Int} (h : Keeps s w w') (hs : base ≤ s) (hb : base ≤ w.heap.size) (st : StoAt w s T room sy) : DkCh base w w' := by
  refine ⟨h.below (Below.refl base w) hs hb, fun k cs t fz hk _ h2 _ => (h.block k (Array.getElem?_eq_some_iff.1 hk).1 (fun e => ?_)).trans hk⟩
  subst e
  obtain ⟨c, g1, _⟩ := st
  rw [g1] at hk
  cases hk
  exact h2 rfl

variable {base : Nat} {w w' : World} {b s : Nat} {d : Dsk} {a : Option Addr} {cap : Nat} {X : Nat → Exm}
theorem DkIn.ne (h : DkIn base w b s d a cap X) : b ≠ s := fun e => by
  obtain ⟨c, g1, _⟩ := h.row
  obtain ⟨c2, g2, _⟩ := h.st
  rw [e, g2] at g1
  cases g1
theorem DkIn.ld (h : DkIn base w b s d a cap X) : LD w := h.ldb.out
theorem DkIn.lt (h : DkIn base w b s d a cap X) : base ≤ w.heap.size := Nat.le_trans h.hb (Nat.le_of_lt h.row.lt)
theorem DkIn.cells (h : DkIn base w b s d a cap X) : BoxC w b d.c ∧ w.cell? ⟨b, 11, none⟩ = some (.slice a d.n cap) ∧ w.cell? ⟨b, 12, none⟩ = some (.pointer (some ⟨s, 0, none⟩)) :=
  ⟨⟨h.row.cell (i := 0) (by omega), h.row.cell (i := 1) (by omega), h.row.cell (i := 2) (by omega), h.row.cell (i := 3) (by omega), h.row.cell (i := 4) (by omega), h.row.cell (i := 5) (by omega), h.row.cell (i := 6) (by omega), h.row.cell (i := 7) (by omega), h.row.cell (i := 8) (by omega), h.row.cell (i := 9) (by omega), h.row.cell (i := 10) (by omega)⟩, h.row.cell (i := 11) (by omega), h.row.cell (i := 12) (by omega)⟩
theorem OwnE.ownNe {v : Value} {n : Nat} (h : OwnE base w v n X) {g : Nat} (hg : v.ownBlock = some g) : base ≤ g ∧ ∃ cs, w.heap[g]? = some (.cells cs 78 (0, 0)) := by
  rcases h.2 with ⟨rfl, _⟩ | ⟨g', cp, cur, rfl, hg', hh, _⟩
  · simp [Value.ownBlock] at hg
  · simp [Value.ownBlock] at hg; subst hg; exact ⟨hg', _, hh⟩
theorem DkIn.ownb (h : DkIn base w b s d a cap X) {g : Nat} (hg : (Value.slice a d.n cap).ownBlock = some g) : base ≤ g ∧ g ≠ b ∧ g ≠ s ∧ g < w.heap.size := by
  obtain ⟨h1, cs, h2⟩ := h.own.ownNe hg
  refine ⟨h1, fun e => ?_, fun e => ?_, (Array.getElem?_eq_some_iff.1 h2).1⟩
  · obtain ⟨c, g1, _⟩ := h.row
    rw [← e, h2] at g1
    cases g1
  · obtain ⟨c, g1, _⟩ := h.st
    rw [← e, h2] at g1
    cases g1
theorem OwnE.exs {base : Nat} {w : World} {v : Value} {n : Nat} {X : Nat → Exm} {DI DO : Nat → List Int} (h : OwnE base w v n X) (hin : ∀ i, i < n → InEx w (X i) (DI i) (DO i)) : ∃ a c, v = .slice a n c ∧ Exs w a n c X DI DO := by
  obtain ⟨hl, h2⟩ := h
  rcases h2 with ⟨rfl, rfl⟩ | ⟨g, cap, cur, rfl, _, hh, hle, _, hsz, hcur⟩
  · exact ⟨none, 0, rfl, Nat.le_refl _, .inl rfl⟩
  · refine ⟨_, cap, rfl, hle, .inr ⟨g, 0, rfl, (Array.getElem?_eq_some_iff.1 hh).1, fun i hi => ?_⟩⟩
    have hc : ∀ j, j < n * 2 → w.cell? ⟨g, 0 + j, none⟩ = (stCells X n)[j]? := fun j hj => by
      rw [← hcur, List.getElem?_take_of_lt hj]
      simp [World.cell?, hh]
    have g2 := stCells_at X hi
    refine ⟨(hc (i * 2) (by omega)).trans g2.1, ?_, hin i hi⟩
    have := hc (i * 2 + 1) (by omega)
    rw [← Nat.add_assoc] at this
    exact this.trans g2.2
theorem DkIn.exs (h : DkIn base w b s d a cap X) : Exs w a d.n cap X d.DI d.DO := by
  obtain ⟨a', c', e, hx⟩ := h.own.exs h.ex
  cases e
  exact hx
/-- Whatever left these blocks left the desk. -/
theorem DkIn.kept (h : DkIn base w b s d a cap X) (hsz : w.heap.size ≤ w'.heap.size) (hk : ∀ k, k < w.heap.size → k ≠ s → w'.heap[k]? = w.heap[k]?) {T' : List UInt8} {sy' : Nat} (st : StoAt w' s T' 4096 sy') (hok : Dsk.ok { d with T := T', sy := sy' }) (hL : LDb base w') : DkIn base w' b s { d with T := T', sy := sy' } a cap X := by
  have hne := h.ne
  have kept : ∀ (aa : Option Addr) (n c : Nat) (xs : List Int), Lst w aa n c xs → (∀ g o, aa = some ⟨g, o, none⟩ → base ≤ g ∧ g ≠ b ∧ g ≠ s ∧ (Value.slice a d.n cap).ownBlock ≠ some g ∧ TyI w g) → Lst w' aa n c xs := fun aa n c xs hl hf => by
    refine ⟨hl.1, hl.2.1, ?_⟩
    rcases hl.2.2 with h0 | ⟨g, off, e, hs', hc⟩
    · exact .inl h0
    · exact .inr ⟨g, off, e, Nat.lt_of_lt_of_le hs' hsz, fun i hi => (World.cell?_of_block (a := ⟨g, off + i, none⟩) (hk g hs' (hf g off e).2.2.1)).trans (hc i hi)⟩
  refine ⟨h.row.of_block (hk b h.row.lt hne), st, ⟨h.own.1, ?_⟩, fun i hi => ⟨kept _ _ _ _ (h.ex i hi).i (h.fa i hi), kept _ _ _ _ (h.ex i hi).o (h.fb i hi)⟩, fun i hi g o e => ⟨(h.fa i hi g o e).1, (h.fa i hi g o e).2.1, (h.fa i hi g o e).2.2.1, (h.fa i hi g o e).2.2.2.1, (h.fa i hi g o e).2.2.2.2.of (hk g (h.fa i hi g o e).2.2.2.2.lt (h.fa i hi g o e).2.2.1)⟩, fun i hi g o e => ⟨(h.fb i hi g o e).1, (h.fb i hi g o e).2.1, (h.fb i hi g o e).2.2.1, (h.fb i hi g o e).2.2.2.1, (h.fb i hi g o e).2.2.2.2.of (hk g (h.fb i hi g o e).2.2.2.2.lt (h.fb i hi g o e).2.2.1)⟩, h.hb, h.hs, hok, hL⟩
  rcases h.own.2 with h0 | ⟨g, cp, cur, hv, hg, hh, r⟩
  · exact .inl h0
  · refine .inr ⟨g, cp, cur, hv, hg, ?_, r⟩
    rw [hk g (Array.getElem?_eq_some_iff.1 hh).1 (h.ownb (by rw [hv]; rfl)).2.2.1]
    exact hh
theorem DkIn.below (h : DkIn base w b s d a cap X) (hb : Below w.heap.size w w') : DkIn base w' b s d a cap X :=
  h.kept hb.size (fun k hk _ => hb.block k hk) (h.st.below hb) h.ok (h.ldb.low (hb.mono h.lt))
theorem DkIn.keeps (h : DkIn base w b s d a cap X) (hk : Keeps s w w') {T' : List UInt8} {sy' : Nat} (st : StoAt w' s T' 4096 sy') (hok : Dsk.ok { d with T := T', sy := sy' }) : DkIn base w' b s { d with T := T', sy := sy' } a cap X :=
  h.kept hk.size (fun k hk1 hk2 => hk.block k hk1 hk2) st hok (h.ldb.low (hk.below (Below.refl base w) h.hs h.lt))

/-- What a method of a desk tells and leaves. -/
def DoR (base b s : Nat) (w : World) (o : Out) (e : Ending) (w' : World) : Prop := e = .returned (.tuple #[.string ⟨o.told.toArray⟩, .int .i64 o.e]) ∧ (∃ a cap X, DkIn base w' b s o.d a cap X) ∧ DkCh base w w'
end Go.Proofs.YthmiojmlaclgaaaGreatDoor.Fx
