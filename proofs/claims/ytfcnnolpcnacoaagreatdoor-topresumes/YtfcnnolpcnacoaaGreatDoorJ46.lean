/- How pupils by value, and examples, are opened. -/
import Derived.Test.YtfcnnolpcnacoaaGreatDoorJ45
import Derived.Test.YtfcnnolpcnacoaaGreatDoorJ00
namespace Go.Proofs.YtfcnnolpcnacoaaGreatDoor.Fx
open Go.ChangeShapes Go.WideShapes Go.ChangeAt Go.RowKit

theorem cellsPup : Tryz.prog.cellsOf 140 = 8 := by kernel_rfl
theorem cellsInts : Tryz.prog.cellsOf 26 = 1 := by kernel_rfl
theorem cellsInt : Tryz.prog.cellsOf 3 = 1 := by kernel_rfl
theorem array8 {α : Type} {cs : Array α} (h : cs.size = 8) : ∃ c0 c1 c2 c3 c4 c5 c6 c7, cs = #[c0, c1, c2, c3, c4, c5, c6, c7] := by
  obtain ⟨l⟩ := cs
  match l, h with
  | [c0, c1, c2, c3, c4, c5, c6, c7], _ => exact ⟨c0, c1, c2, c3, c4, c5, c6, c7, rfl⟩

theorem came_mat {H : Type} {enc : TypeId × Value → H} {W : World} {fuel : Nat} {c0 c1 c2 : Value} {x : DataW H × List MemPlace} (hf : DataW.trod enc Tryz.prog W 0 (fun _ => true) true fuel 138 [c0, c1, c2] = some x) :
    ∃ r c a len cap xs, c0 = .int .i64 r ∧ c1 = .int .i64 c ∧ c2 = .slice a len cap ∧ Lst W a len cap xs := by
  obtain ⟨y0, y1, y2, n, _, _, h0, h1, h2⟩ := Go.Deep.trod_struct3 Tryz.underlying138 hf
  simp [cellsInt, cellsInts] at h0 h1 h2
  obtain ⟨r, e0, _, _⟩ := DataW.trod_int Tryz.underlying3 h0
  obtain ⟨c, e1, _, _⟩ := DataW.trod_int Tryz.underlying3 h1
  obtain ⟨a, len, cap, xs, e2, hc⟩ := came_trod h2
  simp at e0 e1 e2
  exact ⟨r, c, a, len, cap, xs, e0, e1, e2, hc.1⟩

set_option maxRecDepth 100000 in
theorem openPup {H : Type} {enc : TypeId × Value → H} {W : World} {b0 : Nat} {v : Value} {d : DataW H} {p : List MemPlace} (hv : Value.okWide Tryz.prog W .any b0 140 v) (h : DataW.Trod enc Tryz.prog W 0 (fun _ => true) true 140 v d p) :
    ∃ (q : Pup) (D : PD), v = q.val ∧ InPup W q D := by
  obtain ⟨cs, rfl, hsz⟩ := okWide_struct Tryz.underlying140 hv
  obtain ⟨c0, c1, c2, c3, c4, c5, c6, c7, rfl⟩ := array8 (hsz.trans cellsPup)
  obtain ⟨fuel, hf⟩ := h
  obtain ⟨y0, y1, y2, y3, n, _, _, h0, h1, h2, h3⟩ := Go.Joins.trod_struct4 Tryz.underlying140 hf
  simp [Value.cells, cellsMat, cellsInts] at h0 h1 h2 h3
  obtain ⟨r1, s1, a1, l1, k1, X1, rfl, rfl, rfl, g1⟩ := came_mat h0
  obtain ⟨r2, s2, a2, l2, k2, X2, rfl, rfl, rfl, g2⟩ := came_mat h1
  obtain ⟨a3, l3, k3, B1, e3, g3⟩ := came_trod h2
  obtain ⟨a4, l4, k4, B2, e4, g4⟩ := came_trod h3
  simp at e3 e4
  subst e3 e4
  exact ⟨⟨r1, s1, a1, l1, k1, r2, s2, a2, l2, k2, a3, l3, k3, a4, l4, k4⟩, ⟨X1, X2, B1, B2⟩, rfl, g1, g2, g3.1, g4.1⟩

theorem cellsEx : Tryz.prog.cellsOf 46 = 2 := by kernel_rfl
set_option maxRecDepth 100000 in
theorem openEx {H : Type} {enc : TypeId × Value → H} {W : World} {b0 : Nat} {v : Value} {d : DataW H} {p : List MemPlace} (hv : Value.okWide Tryz.prog W .any b0 46 v) (h : DataW.Trod enc Tryz.prog W 0 (fun _ => true) true 46 v d p) :
    ∃ (x : Exm) (I O : List Int), v = x.val ∧ InEx W x I O := by
  obtain ⟨c0, c1, y0, y1, m, rfl, _, _, hy0, hy1⟩ := Go.Joins.open_agg2 Tryz.underlying46 (by kernel_rfl) cellsEx hv h
  obtain ⟨a3, l3, k3, B1, e3, g3⟩ := came_trod hy0
  obtain ⟨a4, l4, k4, B2, e4, g4⟩ := came_trod hy1
  simp at e3 e4
  subst e3 e4
  exact ⟨⟨a3, l3, k3, a4, l4, k4⟩, B1, B2, rfl, g3.1, g4.1⟩
end Go.Proofs.YtfcnnolpcnacoaaGreatDoor.Fx

/- How configs and states by value are opened. -/
namespace Go.Proofs.YtfcnnolpcnacoaaGreatDoor.Fx
open Go.ChangeShapes Go.WideShapes Go.ChangeAt Go.RowKit

theorem cellsOfWord : Tryz.prog.cellsOf 22 = 1 := by kernel_rfl

theorem cellsOfInt : Tryz.prog.cellsOf 3 = 1 := by kernel_rfl

theorem cellsCfg : Tryz.prog.cellsOf 24 = 11 := by kernel_rfl
theorem array11 {α : Type} {cs : Array α} (h : cs.size = 11) : ∃ c0 c1 c2 c3 c4 c5 c6 c7 c8 c9 c10, cs = #[c0, c1, c2, c3, c4, c5, c6, c7, c8, c9, c10] := by
  obtain ⟨l⟩ := cs
  match l, h with
  | [c0, c1, c2, c3, c4, c5, c6, c7, c8, c9, c10], _ => exact ⟨c0, c1, c2, c3, c4, c5, c6, c7, c8, c9, c10, rfl⟩

theorem fieldInt {H : Type} {enc : TypeId × Value → H} {W : World} {n i : Nat} {cs : List Value} {xs : List (DataW H × List MemPlace)} {k : IntKind} {t : TypeId} {off : Nat} {v : Value} (ht : Tryz.prog.underlying t = some (.int k)) (h1 : Tryz.prog.cellsOf t = 1) (hi : i < xs.length)
    (h : DataW.trod enc Tryz.prog W 0 (fun _ => true) true n t ((cs.drop off).take (Tryz.prog.cellsOf t)) = xs[i]?) (hc : (cs.drop off).take 1 = [v]) : ∃ z, v = .int k z ∧ (Lit.int k z).wf = true := by
  rw [h1, hc, List.getElem?_eq_getElem hi] at h
  obtain ⟨z, e, _, hw⟩ := DataW.trod_int ht h
  simp at e
  exact ⟨z, e, hw⟩

set_option maxRecDepth 100000 in
theorem openCfg {H : Type} {enc : TypeId × Value → H} {W : World} {b0 : Nat} {v : Value} {d : DataW H} {p : List MemPlace} (hv : Value.okWide Tryz.prog W .any b0 24 v) (h : DataW.Trod enc Tryz.prog W 0 (fun _ => true) true 24 v d p) :
    ∃ c : Cfg, v = c.val ∧ (Lit.int .u64 c.seed).wf = true := by
  obtain ⟨cs, rfl, hsz⟩ := okWide_struct Tryz.underlying24 hv
  obtain ⟨c0, c1, c2, c3, c4, c5, c6, c7, c8, c9, c10, rfl⟩ := array11 (hsz.trans cellsCfg)
  obtain ⟨fuel, hf⟩ := h
  obtain ⟨xs, n, _, _, _, hlen, hfs⟩ := DataW.trod_struct Tryz.underlying24 hf
  have hl : xs.length = 11 := hlen
  obtain ⟨i0, rfl, _⟩ := fieldInt (v := c0) Tryz.underlying3 cellsOfInt (by omega) (hfs 0 _ rfl) rfl
  obtain ⟨i1, rfl, _⟩ := fieldInt (v := c1) Tryz.underlying3 cellsOfInt (by omega) (hfs 1 _ rfl) rfl
  obtain ⟨i2, rfl, _⟩ := fieldInt (v := c2) Tryz.underlying3 cellsOfInt (by omega) (hfs 2 _ rfl) rfl
  obtain ⟨i3, rfl, w3⟩ := fieldInt (v := c3) Tryz.underlying22 cellsOfWord (by omega) (hfs 3 _ rfl) rfl
  obtain ⟨i4, rfl, _⟩ := fieldInt (v := c4) Tryz.underlying3 cellsOfInt (by omega) (hfs 4 _ rfl) rfl
  obtain ⟨i5, rfl, _⟩ := fieldInt (v := c5) Tryz.underlying3 cellsOfInt (by omega) (hfs 5 _ rfl) rfl
  obtain ⟨i6, rfl, _⟩ := fieldInt (v := c6) Tryz.underlying3 cellsOfInt (by omega) (hfs 6 _ rfl) rfl
  obtain ⟨i7, rfl, _⟩ := fieldInt (v := c7) Tryz.underlying3 cellsOfInt (by omega) (hfs 7 _ rfl) rfl
  obtain ⟨i8, rfl, _⟩ := fieldInt (v := c8) Tryz.underlying3 cellsOfInt (by omega) (hfs 8 _ rfl) rfl
  obtain ⟨i9, rfl, _⟩ := fieldInt (v := c9) Tryz.underlying3 cellsOfInt (by omega) (hfs 9 _ rfl) rfl
  obtain ⟨i10, rfl, _⟩ := fieldInt (v := c10) Tryz.underlying3 cellsOfInt (by omega) (hfs 10 _ rfl) rfl
  exact ⟨⟨i0, i1, i2, i3, i4, i5, i6, i7, i8, i9, i10⟩, rfl, w3⟩

theorem cellsState : Tryz.prog.cellsOf 65 = 2 := by kernel_rfl
set_option maxRecDepth 100000 in
theorem openState {H : Type} {enc : TypeId × Value → H} {W : World} {b0 : Nat} {v : Value} {d : DataW H} {p : List MemPlace} (hv : Value.okWide Tryz.prog W .any b0 65 v) (h : DataW.Trod enc Tryz.prog W 0 (fun _ => true) true 65 v d p) :
    ∃ (x : Exm) (I O : List Int), v = x.val ∧ InEx W x I O := by
  obtain ⟨c0, c1, y0, y1, m, rfl, _, _, hy0, hy1⟩ := Go.Joins.open_agg2 Tryz.underlying65 (by kernel_rfl) cellsState hv h
  obtain ⟨a3, l3, k3, B1, e3, g3⟩ := came_trod hy0
  obtain ⟨a4, l4, k4, B2, e4, g4⟩ := came_trod hy1
  simp at e3 e4
  subst e3 e4
  exact ⟨⟨a3, l3, k3, a4, l4, k4⟩, B1, B2, rfl, g3.1, g4.1⟩
end Go.Proofs.YtfcnnolpcnacoaaGreatDoor.Fx
