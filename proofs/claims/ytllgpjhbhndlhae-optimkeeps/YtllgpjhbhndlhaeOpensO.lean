/- How configs and states by value are opened. -/
import Derived.Test.YtllgpjhbhndlhaeOpens
import Derived.Test.YtllgpjhbhndlhaeOpts
namespace Go.Proofs.Ytllgpjhbhndlhae.Fx
open Go.ChangeShapes Go.WideShapes Go.ChangeAt Go.RowKit

theorem cellsCfg : Try.prog.cellsOf 49 = 11 := by kernel_rfl
theorem cellsOfInt : Try.prog.cellsOf 3 = 1 := by kernel_rfl
theorem cellsOfWord : Try.prog.cellsOf 31 = 1 := by kernel_rfl
theorem array11 {α : Type} {cs : Array α} (h : cs.size = 11) : ∃ c0 c1 c2 c3 c4 c5 c6 c7 c8 c9 c10, cs = #[c0, c1, c2, c3, c4, c5, c6, c7, c8, c9, c10] := by
  obtain ⟨l⟩ := cs
  match l, h with
  | [c0, c1, c2, c3, c4, c5, c6, c7, c8, c9, c10], _ => exact ⟨c0, c1, c2, c3, c4, c5, c6, c7, c8, c9, c10, rfl⟩

theorem fieldInt {H : Type} {enc : TypeId × Value → H} {W : World} {n i : Nat} {cs : List Value} {xs : List (DataW H × List MemPlace)} {k : IntKind} {t : TypeId} {off : Nat} {v : Value} (ht : Try.prog.underlying t = some (.int k)) (h1 : Try.prog.cellsOf t = 1) (hi : i < xs.length)
    (h : DataW.trod enc Try.prog W 0 (fun _ => true) true n t ((cs.drop off).take (Try.prog.cellsOf t)) = xs[i]?) (hc : (cs.drop off).take 1 = [v]) : ∃ z, v = .int k z ∧ (Lit.int k z).wf = true := by
  rw [h1, hc, List.getElem?_eq_getElem hi] at h
  obtain ⟨z, e, _, hw⟩ := DataW.trod_int ht h
  simp at e
  exact ⟨z, e, hw⟩

set_option maxRecDepth 100000 in
theorem openCfg {H : Type} {enc : TypeId × Value → H} {W : World} {b0 : Nat} {v : Value} {d : DataW H} {p : List MemPlace} (hv : Value.okWide Try.prog W .any b0 49 v) (h : DataW.Trod enc Try.prog W 0 (fun _ => true) true 49 v d p) :
    ∃ c : Cfg, v = c.val ∧ (Lit.int .u64 c.seed).wf = true := by
  obtain ⟨cs, rfl, hsz⟩ := okWide_struct Try.underlying49 hv
  obtain ⟨c0, c1, c2, c3, c4, c5, c6, c7, c8, c9, c10, rfl⟩ := array11 (hsz.trans cellsCfg)
  obtain ⟨fuel, hf⟩ := h
  obtain ⟨xs, n, _, _, _, hlen, hfs⟩ := DataW.trod_struct Try.underlying49 hf
  have hl : xs.length = 11 := hlen
  obtain ⟨i0, rfl, _⟩ := fieldInt (v := c0) Try.underlying3 cellsOfInt (by omega) (hfs 0 _ rfl) rfl
  obtain ⟨i1, rfl, _⟩ := fieldInt (v := c1) Try.underlying3 cellsOfInt (by omega) (hfs 1 _ rfl) rfl
  obtain ⟨i2, rfl, _⟩ := fieldInt (v := c2) Try.underlying3 cellsOfInt (by omega) (hfs 2 _ rfl) rfl
  obtain ⟨i3, rfl, w3⟩ := fieldInt (v := c3) Try.underlying31 cellsOfWord (by omega) (hfs 3 _ rfl) rfl
  obtain ⟨i4, rfl, _⟩ := fieldInt (v := c4) Try.underlying3 cellsOfInt (by omega) (hfs 4 _ rfl) rfl
  obtain ⟨i5, rfl, _⟩ := fieldInt (v := c5) Try.underlying3 cellsOfInt (by omega) (hfs 5 _ rfl) rfl
  obtain ⟨i6, rfl, _⟩ := fieldInt (v := c6) Try.underlying3 cellsOfInt (by omega) (hfs 6 _ rfl) rfl
  obtain ⟨i7, rfl, _⟩ := fieldInt (v := c7) Try.underlying3 cellsOfInt (by omega) (hfs 7 _ rfl) rfl
  obtain ⟨i8, rfl, _⟩ := fieldInt (v := c8) Try.underlying3 cellsOfInt (by omega) (hfs 8 _ rfl) rfl
  obtain ⟨i9, rfl, _⟩ := fieldInt (v := c9) Try.underlying3 cellsOfInt (by omega) (hfs 9 _ rfl) rfl
  obtain ⟨i10, rfl, _⟩ := fieldInt (v := c10) Try.underlying3 cellsOfInt (by omega) (hfs 10 _ rfl) rfl
  exact ⟨⟨i0, i1, i2, i3, i4, i5, i6, i7, i8, i9, i10⟩, rfl, w3⟩

theorem cellsState : Try.prog.cellsOf 51 = 2 := by kernel_rfl
set_option maxRecDepth 100000 in
theorem openState {H : Type} {enc : TypeId × Value → H} {W : World} {b0 : Nat} {v : Value} {d : DataW H} {p : List MemPlace} (hv : Value.okWide Try.prog W .any b0 51 v) (h : DataW.Trod enc Try.prog W 0 (fun _ => true) true 51 v d p) :
    ∃ (x : Exm) (I O : List Int), v = x.val ∧ InEx W x I O := by
  obtain ⟨c0, c1, y0, y1, m, rfl, _, _, hy0, hy1⟩ := Go.Joins.open_agg2 Try.underlying51 (by kernel_rfl) cellsState hv h
  obtain ⟨a3, l3, k3, B1, e3, g3⟩ := came_trod hy0
  obtain ⟨a4, l4, k4, B2, e4, g4⟩ := came_trod hy1
  simp at e3 e4
  subst e3 e4
  exact ⟨⟨a3, l3, k3, a4, l4, k4⟩, B1, B2, rfl, g3.1, g4.1⟩
end Go.Proofs.Ytllgpjhbhndlhae.Fx
