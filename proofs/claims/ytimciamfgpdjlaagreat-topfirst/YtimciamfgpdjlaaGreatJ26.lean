/- How a record by value is opened. -/
import Derived.Test.YtimciamfgpdjlaaGreatJ00
import Derived.Test.YtimciamfgpdjlaaGreatJ06
namespace Go.Proofs.YtimciamfgpdjlaaGreat.Fx
open Go.ChangeShapes Go.WideShapes Go.ChangeAt Go.RowKit

/-- Of a record that came in: where its batch lies, and that its numbers are a program's. -/
structure RecIn (w : World) (x : Rcm) (bs : List Int) : Prop where
  l : Lst w x.a x.n x.k bs
  s : -9223372036854775808 ≤ x.s ∧ x.s ≤ 9223372036854775807
  r : -9223372036854775808 ≤ x.r ∧ x.r ≤ 9223372036854775807
  root : okW x.root
  chain : okW x.chain
  bd : ∀ j, j < bs.length → -9223372036854775808 ≤ bs.getD j 0 ∧ bs.getD j 0 ≤ 9223372036854775807
  n : x.n ≤ maxLen
theorem wf_int {n : Int} (h : (Lit.int .i64 n).wf = true) : -9223372036854775808 ≤ n ∧ n ≤ 9223372036854775807 := by
  simp [Lit.wf, IntKind.min, IntKind.max, IntKind.signed, IntKind.bits] at h
  exact ⟨by omega, by omega⟩
theorem cellsRec : Tryz.prog.cellsOf 30 = 5 := by kernel_rfl
theorem cellsIntsR : Tryz.prog.cellsOf 26 = 1 := by kernel_rfl
theorem array5 {α : Type} {cs : Array α} (h : cs.size = 5) : ∃ c0 c1 c2 c3 c4, cs = #[c0, c1, c2, c3, c4] := by
  obtain ⟨l⟩ := cs
  match l, h with
  | [c0, c1, c2, c3, c4], _ => exact ⟨c0, c1, c2, c3, c4, rfl⟩
theorem fieldInts {H : Type} {enc : TypeId × Value → H} {W : World} {n i : Nat} {cs : List Value} {xs : List (DataW H × List MemPlace)} {off : Nat} {v : Value} (hi : i < xs.length)
    (h : DataW.trod enc Tryz.prog W 0 (fun _ => true) true n 26 ((cs.drop off).take (Tryz.prog.cellsOf 26)) = xs[i]?) (hc : (cs.drop off).take 1 = [v]) : ∃ a len cap B, v = .slice a len cap ∧ Came W a len cap B := by
  rw [cellsIntsR, hc, List.getElem?_eq_getElem hi] at h
  obtain ⟨a, l, c, B, e, g⟩ := came_trod h
  simp at e
  exact ⟨a, l, c, B, e, g⟩

set_option maxRecDepth 100000 in
theorem openRec {H : Type} {enc : TypeId × Value → H} {W : World} {b0 : Nat} {v : Value} {d : DataW H} {p : List MemPlace} (hv : Value.okWide Tryz.prog W .any b0 30 v) (h : DataW.Trod enc Tryz.prog W 0 (fun _ => true) true 30 v d p) :
    ∃ (x : Rcm) (bs : List Int), v = x.val ∧ RecIn W x bs := by
  obtain ⟨cs, rfl, hsz⟩ := okWide_struct Tryz.underlying30 hv
  obtain ⟨c0, c1, c2, c3, c4, rfl⟩ := array5 (hsz.trans cellsRec)
  obtain ⟨fuel, hf⟩ := h
  obtain ⟨xs, n, _, _, _, hlen, hfs⟩ := DataW.trod_struct Tryz.underlying30 hf
  have hl : xs.length = 5 := hlen
  obtain ⟨i0, rfl, w0⟩ := fieldInt (v := c0) Tryz.underlying3 cellsOfInt (by omega) (hfs 0 _ rfl) rfl
  obtain ⟨a, l, c, B, rfl, g⟩ := fieldInts (v := c1) (by omega) (hfs 1 _ rfl) rfl
  obtain ⟨i2, rfl, w2⟩ := fieldInt (v := c2) Tryz.underlying3 cellsOfInt (by omega) (hfs 2 _ rfl) rfl
  obtain ⟨i3, rfl, w3⟩ := fieldInt (v := c3) Tryz.underlying22 cellsOfWord (by omega) (hfs 3 _ rfl) rfl
  obtain ⟨i4, rfl, w4⟩ := fieldInt (v := c4) Tryz.underlying22 cellsOfWord (by omega) (hfs 4 _ rfl) rfl
  refine ⟨⟨i0, a, l, c, i2, i3, i4⟩, B, rfl, g.1, wf_int w0, wf_int w2, wf_word w3, wf_word w4, fun j hj => wf_int (g.2.2 _ ?_), Nat.le_trans g.1.cap g.2.1⟩
  rw [List.getD_eq_getElem?_getD, List.getElem?_eq_getElem hj, Option.getD_some]
  exact List.getElem_mem hj
end Go.Proofs.YtimciamfgpdjlaaGreat.Fx
