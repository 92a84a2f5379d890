/- Calls of a store as they lie in memory, and how a slice of them that comes in as an argument is opened. -/
import Derived.Test.YtfcnnolpcnacoaaDoorStO
import Derived.Deep.Slices
namespace Go.Proofs.YtfcnnolpcnacoaaDoor.Fx
open Go.ChangeShapes Go.WideShapes Go.ChangeAt Go.RowKit

def fn7 (v0 v1 v2 v3 v4 v5 v6 : Value) (i : Nat) : Value := if i = 0 then v0 else if i = 1 then v1 else if i = 2 then v2 else if i = 3 then v3 else if i = 4 then v4 else if i = 5 then v5 else v6
theorem lt7 {i : Nat} (h : i < 7) : i = 0 ∨ i = 1 ∨ i = 2 ∨ i = 3 ∨ i = 4 ∨ i = 5 ∨ i = 6 := by omega
theorem fn7_alloc (w : World) (v0 v1 v2 v3 v4 v5 v6 : Value) (t : TypeId) : (w.alloc (.cells #[v0, v1, v2, v3, v4, v5, v6] t)).rowIs w.heap.size t 7 (fn7 v0 v1 v2 v3 v4 v5 v6) :=
  World.rowIs_alloc w #[v0, v1, v2, v3, v4, v5, v6] t (fn7 v0 v1 v2 v3 v4 v5 v6) (by
    intro i hi
    rcases lt7 hi with rfl | rfl | rfl | rfl | rfl | rfl | rfl <;> rfl)
structure Box7 (w : World) (b : Nat) (v0 v1 v2 v3 v4 v5 v6 : Value) : Prop where
  c0 : w.cell? ⟨b, 0, none⟩ = some v0
  c1 : w.cell? ⟨b, 1, none⟩ = some v1
  c2 : w.cell? ⟨b, 2, none⟩ = some v2
  c3 : w.cell? ⟨b, 3, none⟩ = some v3
  c4 : w.cell? ⟨b, 4, none⟩ = some v4
  c5 : w.cell? ⟨b, 5, none⟩ = some v5
  c6 : w.cell? ⟨b, 6, none⟩ = some v6
theorem fn7_box {w : World} {b t : Nat} {v0 v1 v2 v3 v4 v5 v6 : Value} (h : w.rowIs b t 7 (fn7 v0 v1 v2 v3 v4 v5 v6)) : Box7 w b v0 v1 v2 v3 v4 v5 v6 :=
  ⟨h.cell (i := 0) (by omega), h.cell (i := 1) (by omega), h.cell (i := 2) (by omega), h.cell (i := 3) (by omega), h.cell (i := 4) (by omega), h.cell (i := 5) (by omega), h.cell (i := 6) (by omega)⟩

/-- A call: its kind, its record, how many bytes are kept. -/
structure Clm where
  kind : Int
  x : Rcm
  keep : Int
/-- A slice of calls that a law is handed. -/
structure ClsIn (w : World) (a : Option Addr) (n cap : Nat) (C : Nat → Clm) (D : Nat → List Int) : Prop where
  le : n ≤ cap
  len : cap ≤ maxLen
  cells : n = 0 ∨ ∃ b off, a = some ⟨b, off, none⟩ ∧ b < w.heap.size ∧ ∀ i, i < n → w.cell? ⟨b, off + i * 7, none⟩ = some (.int .i64 (C i).kind) ∧ w.cell? ⟨b, off + i * 7 + 1, none⟩ = some (.int .i64 (C i).x.s) ∧ w.cell? ⟨b, off + i * 7 + 2, none⟩ = some (.slice (C i).x.a (C i).x.n (C i).x.k) ∧ w.cell? ⟨b, off + i * 7 + 3, none⟩ = some (.int .i64 (C i).x.r) ∧ w.cell? ⟨b, off + i * 7 + 4, none⟩ = some (.int .u64 (C i).x.root) ∧ w.cell? ⟨b, off + i * 7 + 5, none⟩ = some (.int .u64 (C i).x.chain) ∧ w.cell? ⟨b, off + i * 7 + 6, none⟩ = some (.int .i64 (C i).keep)
  each : ∀ j, j < n → RecInS w (C j).x (D j)
theorem cellsCall : Tryd.prog.cellsOf 33 = 7 := by kernel_rfl
theorem fieldRecS {H : Type} {enc : TypeId × Value → H} {W : World} {n i : Nat} {cs : List Value} {xs : List (DataW H × List MemPlace)} {off : Nat} {c0 c1 c2 c3 c4 : Value} (hi : i < xs.length)
    (h : DataW.trod enc Tryd.prog W 0 (fun _ => true) true n 31 ((cs.drop off).take (Tryd.prog.cellsOf 31)) = xs[i]?) (hc : (cs.drop off).take 5 = [c0, c1, c2, c3, c4]) :
    ∃ (e : Rcm) (bs : List Int), c0 = .int .i64 e.s ∧ c1 = .slice e.a e.n e.k ∧ c2 = .int .i64 e.r ∧ c3 = .int .u64 e.root ∧ c4 = .int .u64 e.chain ∧ RecInS W e bs := by
  rw [cellsRecS, hc, List.getElem?_eq_getElem hi] at h
  obtain ⟨ys, m, _, _, _, hlen, hfs⟩ := DataW.trod_struct Tryd.underlying31 h
  have hl : ys.length = 5 := hlen
  obtain ⟨i0, rfl, w0⟩ := fieldIntS (v := c0) Tryd.underlying3 cellsOfIntS (by omega) (hfs 0 _ rfl) rfl
  obtain ⟨a, l, c, B, rfl, g⟩ := fieldIntsS (v := c1) (by omega) (hfs 1 _ rfl) rfl
  obtain ⟨i2, rfl, w2⟩ := fieldIntS (v := c2) Tryd.underlying3 cellsOfIntS (by omega) (hfs 2 _ rfl) rfl
  obtain ⟨i3, rfl, w3⟩ := fieldIntS (v := c3) Tryd.underlying29 cellsOfWordS (by omega) (hfs 3 _ rfl) rfl
  obtain ⟨i4, rfl, w4⟩ := fieldIntS (v := c4) Tryd.underlying29 cellsOfWordS (by omega) (hfs 4 _ rfl) rfl
  refine ⟨⟨i0, a, l, c, i2, i3, i4⟩, B, rfl, rfl, rfl, rfl, rfl, g.1, wf_intS w0, wf_intS w2, wf_wordS w3, wf_wordS w4, fun j hj => wf_intS (g.2.2 _ ?_), Nat.le_trans g.1.cap g.2.1⟩
  rw [List.getD_eq_getElem?_getD, List.getElem?_eq_getElem hj, Option.getD_some]
  exact List.getElem_mem hj

set_option maxRecDepth 100000 in
theorem came_call {H : Type} {enc : TypeId × Value → H} {W : World} {fuel : Nat} {cs : List Value} {x : DataW H × List MemPlace} (hcl : cs.length = 7) (hf : DataW.trod enc Tryd.prog W 0 (fun _ => true) true fuel 33 cs = some x) :
    ∃ (e : Clm) (bs : List Int), cs = [.int .i64 e.kind, .int .i64 e.x.s, .slice e.x.a e.x.n e.x.k, .int .i64 e.x.r, .int .u64 e.x.root, .int .u64 e.x.chain, .int .i64 e.keep] ∧ RecInS W e.x bs := by
  match cs, hcl with
  | [c0, c1, c2, c3, c4, c5, c6], _ =>
    obtain ⟨xs, n, _, _, _, hlen, hfs⟩ := DataW.trod_struct Tryd.underlying33 hf
    have hl : xs.length = 3 := hlen
    obtain ⟨i0, rfl, w0⟩ := fieldIntS (v := c0) Tryd.underlying3 cellsOfIntS (by omega) (hfs 0 _ rfl) rfl
    obtain ⟨e, bs, rfl, rfl, rfl, rfl, rfl, hin⟩ := fieldRecS (c0 := c1) (c1 := c2) (c2 := c3) (c3 := c4) (c4 := c5) (by omega) (hfs 1 _ rfl) rfl
    obtain ⟨i6, rfl, w6⟩ := fieldIntS (v := c6) Tryd.underlying3 cellsOfIntS (by omega) (hfs 2 _ rfl) rfl
    exact ⟨⟨i0, e, i6⟩, bs, rfl, hin⟩

set_option maxRecDepth 100000 in
theorem openCls {H : Type} {enc : TypeId × Value → H} {W : World} {b0 : Nat} {v : Value} {d : DataW H} {p : List MemPlace} (hv : Value.okWide Tryd.prog W .any b0 22 v) (h : DataW.Trod enc Tryd.prog W 0 (fun _ => true) true 22 v d p) :
    ∃ a len cap C D, v = .slice a len cap ∧ ClsIn W a len cap C D := by
  obtain ⟨a, len, cap, rfl⟩ := okWide_slice Tryd.underlying22 hv
  obtain ⟨fuel, hf⟩ := h
  rcases Go.Deep.open_slice Tryd.underlying22 hf with ⟨hcs, _⟩ | ⟨a', len', cap', m, n, D, Pl, hcs, _, hl, hmx, hm, _, hel⟩
  · simp [Value.cells] at hcs
    obtain ⟨rfl, rfl, rfl⟩ := hcs
    exact ⟨_, _, _, fun _ => ⟨0, ⟨0, none, 0, 0, 0, 0, 0⟩, 0⟩, fun _ => [], rfl, Nat.le_refl _, by unfold maxLen; omega, .inl rfl, fun j hj => by omega⟩
  · simp [Value.cells] at hcs
    obtain ⟨rfl, rfl, rfl⟩ := hcs
    have hm' : m = cap := by simpa using hm
    subst hm'
    have each : ∀ i, i < m → ∃ (e : Clm) (bs : List Int), W.cell? (a'.add (i * 7)) = some (.int .i64 e.kind) ∧ W.cell? ((a'.add (i * 7)).add 1) = some (.int .i64 e.x.s) ∧ W.cell? ((a'.add (i * 7)).add 2) = some (.slice e.x.a e.x.n e.x.k) ∧ W.cell? ((a'.add (i * 7)).add 3) = some (.int .i64 e.x.r) ∧ W.cell? ((a'.add (i * 7)).add 4) = some (.int .u64 e.x.root) ∧ W.cell? ((a'.add (i * 7)).add 5) = some (.int .u64 e.x.chain) ∧ W.cell? ((a'.add (i * 7)).add 6) = some (.int .i64 e.keep) ∧ RecInS W e.x bs := by
      intro i hi
      obtain ⟨cs', h1, h2⟩ := hel i hi
      rw [cellsCall] at h1
      obtain ⟨e, bs, rfl, hin⟩ := came_call (World.cells?_some h1).2.1 h2
      have hc := (World.cells?_some h1).2.2
      have c0 := hc 0 (by omega)
      have c1 := hc 1 (by omega)
      have c2 := hc 2 (by omega)
      have c3 := hc 3 (by omega)
      have c4 := hc 4 (by omega)
      have c5 := hc 5 (by omega)
      have c6 := hc 6 (by omega)
      exact ⟨e, bs, by simpa [Addr.add] using c0, by simpa using c1, by simpa using c2, by simpa using c3, by simpa using c4, by simpa using c5, by simpa using c6, hin⟩
    refine ⟨_, _, _, fun i => if hi : i < m then (each i hi).choose else ⟨0, ⟨0, none, 0, 0, 0, 0, 0⟩, 0⟩, fun i => if hi : i < m then (each i hi).choose_spec.choose else [], rfl, hl, hmx, ?_, fun j hj => ?_⟩
    · by_cases h0 : len = 0
      · exact .inl h0
      · obtain ⟨b, off, spot⟩ := a'
        have hs := (each 0 (by omega)).choose_spec.choose_spec.1
        have hspot : spot = none := by simpa [Addr.add] using World.cell?_spot hs
        subst hspot
        refine .inr ⟨b, off, rfl, ?_, fun i hi => ?_⟩
        · have := cell_lt hs
          simpa [Addr.add] using this
        · have hs := (each i (by omega)).choose_spec.choose_spec
          have a0 : ∀ t, W.cell? ⟨b, off + i * 7 + t, none⟩ = W.cell? (((⟨b, off, none⟩ : Addr).add (i * 7)).add t) := fun t => by rw [add_plain, add_plain]
          have a1 : W.cell? ⟨b, off + i * 7, none⟩ = W.cell? ((⟨b, off, none⟩ : Addr).add (i * 7)) := by rw [add_plain]
          simp only [dif_pos (show i < m by omega)]
          exact ⟨a1.trans hs.1, (a0 1).trans hs.2.1, (a0 2).trans hs.2.2.1, (a0 3).trans hs.2.2.2.1, (a0 4).trans hs.2.2.2.2.1, (a0 5).trans hs.2.2.2.2.2.1, (a0 6).trans hs.2.2.2.2.2.2.1⟩
    · have hs := (each j (by omega)).choose_spec.choose_spec
      simp only [dif_pos (show j < m by omega)]
      exact hs.2.2.2.2.2.2.2
end Go.Proofs.YtfcnnolpcnacoaaDoor.Fx
