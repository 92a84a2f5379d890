/- How pupils by value, and examples, are opened. -/
import Derived.Test.YtmoeogecafjcmaaOpens
import Derived.Test.YtmoeogecafjcmaaPups
namespace Go.Proofs.Ytmoeogecafjcmaa.Fx
open Go.ChangeShapes Go.WideShapes Go.ChangeAt Go.RowKit

theorem cellsPup : Try.prog.cellsOf 47 = 8 := by kernel_rfl
theorem cellsInts : Try.prog.cellsOf 28 = 1 := by kernel_rfl
theorem cellsInt : Try.prog.cellsOf 3 = 1 := by kernel_rfl
theorem array8 {α : Type} {cs : Array α} (h : cs.size = 8) : ∃ c0 c1 c2 c3 c4 c5 c6 c7, cs = #[c0, c1, c2, c3, c4, c5, c6, c7] := by
  obtain ⟨l⟩ := cs
  match l, h with
  | [c0, c1, c2, c3, c4, c5, c6, c7], _ => exact ⟨c0, c1, c2, c3, c4, c5, c6, c7, rfl⟩

theorem came_mat {H : Type} {enc : TypeId × Value → H} {W : World} {fuel : Nat} {c0 c1 c2 : Value} {x : DataW H × List MemPlace} (hf : DataW.trod enc Try.prog W 0 (fun _ => true) true fuel 37 [c0, c1, c2] = some x) :
    ∃ r c a len cap xs, c0 = .int .i64 r ∧ c1 = .int .i64 c ∧ c2 = .slice a len cap ∧ Lst W a len cap xs := by
  obtain ⟨y0, y1, y2, n, _, _, h0, h1, h2⟩ := Go.Deep.trod_struct3 Try.underlying37 hf
  simp [cellsInt, cellsInts] at h0 h1 h2
  obtain ⟨r, e0, _, _⟩ := DataW.trod_int Try.underlying3 h0
  obtain ⟨c, e1, _, _⟩ := DataW.trod_int Try.underlying3 h1
  obtain ⟨a, len, cap, xs, e2, hc⟩ := came_trod h2
  simp at e0 e1 e2
  exact ⟨r, c, a, len, cap, xs, e0, e1, e2, hc.1⟩

theorem openPup {H : Type} {enc : TypeId × Value → H} {W : World} {b0 : Nat} {v : Value} {d : DataW H} {p : List MemPlace} (hv : Value.okWide Try.prog W .any b0 47 v) (h : DataW.Trod enc Try.prog W 0 (fun _ => true) true 47 v d p) :
    ∃ (q : Pup) (D : PD), v = q.val ∧ InPup W q D := by
  obtain ⟨cs, rfl, hsz⟩ := okWide_struct Try.underlying47 hv
  obtain ⟨c0, c1, c2, c3, c4, c5, c6, c7, rfl⟩ := array8 (hsz.trans cellsPup)
  obtain ⟨fuel, hf⟩ := h
  obtain ⟨y0, y1, y2, y3, n, _, _, h0, h1, h2, h3⟩ := Go.Joins.trod_struct4 Try.underlying47 hf
  simp [Value.cells, cellsMat, cellsInts] at h0 h1 h2 h3
  obtain ⟨r1, s1, a1, l1, k1, X1, rfl, rfl, rfl, g1⟩ := came_mat h0
  obtain ⟨r2, s2, a2, l2, k2, X2, rfl, rfl, rfl, g2⟩ := came_mat h1
  obtain ⟨a3, l3, k3, B1, e3, g3⟩ := came_trod h2
  obtain ⟨a4, l4, k4, B2, e4, g4⟩ := came_trod h3
  simp at e3 e4
  subst e3 e4
  exact ⟨⟨r1, s1, a1, l1, k1, r2, s2, a2, l2, k2, a3, l3, k3, a4, l4, k4⟩, ⟨X1, X2, B1, B2⟩, rfl, g1, g2, g3.1, g4.1⟩

theorem cellsEx : Try.prog.cellsOf 59 = 2 := by kernel_rfl
theorem openEx {H : Type} {enc : TypeId × Value → H} {W : World} {b0 : Nat} {v : Value} {d : DataW H} {p : List MemPlace} (hv : Value.okWide Try.prog W .any b0 59 v) (h : DataW.Trod enc Try.prog W 0 (fun _ => true) true 59 v d p) :
    ∃ (x : Exm) (I O : List Int), v = x.val ∧ InEx W x I O := by
  obtain ⟨c0, c1, y0, y1, m, rfl, _, _, hy0, hy1⟩ := Go.Joins.open_agg2 Try.underlying59 (by kernel_rfl) cellsEx hv h
  obtain ⟨a3, l3, k3, B1, e3, g3⟩ := came_trod hy0
  obtain ⟨a4, l4, k4, B2, e4, g4⟩ := came_trod hy1
  simp at e3 e4
  subst e3 e4
  exact ⟨⟨a3, l3, k3, a4, l4, k4⟩, B1, B2, rfl, g3.1, g4.1⟩
end Go.Proofs.Ytmoeogecafjcmaa.Fx
