/- How a slice of records that comes in as an argument is opened. -/
import Derived.Test.YtdclclekomjlpaaOpensR
import Derived.Deep.Slices
namespace Go.Proofs.Ytdclclekomjlpaa.Fx
open Go.ChangeShapes Go.WideShapes Go.ChangeAt Go.RowKit

/-- A slice of records that a law is handed. -/
structure RecsIn (w : World) (a : Option Addr) (n cap : Nat) (R : Nat → Rcm) (D : Nat → List Int) : Prop where
  recs : Recs w a n cap R D
  len : cap ≤ maxLen
  each : ∀ j, j < n → RecIn w (R j) (D j)

set_option maxRecDepth 100000 in
theorem came_rec {H : Type} {enc : TypeId × Value → H} {W : World} {fuel : Nat} {cs : List Value} {x : DataW H × List MemPlace} (hcl : cs.length = 5) (hf : DataW.trod enc Try.prog W 0 (fun _ => true) true fuel 29 cs = some x) :
    ∃ (e : Rcm) (bs : List Int), cs = [.int .i64 e.s, .slice e.a e.n e.k, .int .i64 e.r, .int .u64 e.root, .int .u64 e.chain] ∧ RecIn W e bs := by
  match cs, hcl with
  | [c0, c1, c2, c3, c4], _ =>
    obtain ⟨xs, n, _, _, _, hlen, hfs⟩ := DataW.trod_struct Try.underlying29 hf
    have hl : xs.length = 5 := hlen
    obtain ⟨i0, rfl, w0⟩ := fieldInt (v := c0) Try.underlying3 cellsOfInt (by omega) (hfs 0 _ rfl) rfl
    obtain ⟨a, l, c, B, rfl, g⟩ := fieldInts (v := c1) (by omega) (hfs 1 _ rfl) rfl
    obtain ⟨i2, rfl, w2⟩ := fieldInt (v := c2) Try.underlying3 cellsOfInt (by omega) (hfs 2 _ rfl) rfl
    obtain ⟨i3, rfl, w3⟩ := fieldInt (v := c3) Try.underlying27 cellsOfWord (by omega) (hfs 3 _ rfl) rfl
    obtain ⟨i4, rfl, w4⟩ := fieldInt (v := c4) Try.underlying27 cellsOfWord (by omega) (hfs 4 _ rfl) rfl
    refine ⟨⟨i0, a, l, c, i2, i3, i4⟩, B, rfl, g.1, wf_int w0, wf_int w2, wf_word w3, wf_word w4, fun j hj => wf_int (g.2.2 _ ?_), Nat.le_trans g.1.cap g.2.1⟩
    rw [List.getD_eq_getElem?_getD, List.getElem?_eq_getElem hj, Option.getD_some]
    exact List.getElem_mem hj

set_option maxRecDepth 100000 in
theorem openRecs {H : Type} {enc : TypeId × Value → H} {W : World} {b0 : Nat} {v : Value} {d : DataW H} {p : List MemPlace} (hv : Value.okWide Try.prog W .any b0 22 v) (h : DataW.Trod enc Try.prog W 0 (fun _ => true) true 22 v d p) :
    ∃ a len cap R D, v = .slice a len cap ∧ RecsIn W a len cap R D := by
  obtain ⟨a, len, cap, rfl⟩ := okWide_slice Try.underlying22 hv
  obtain ⟨fuel, hf⟩ := h
  rcases Go.Deep.open_slice Try.underlying22 hf with ⟨hcs, _⟩ | ⟨a', len', cap', m, n, D, Pl, hcs, _, hl, hmx, hm, _, hel⟩
  · simp [Value.cells] at hcs
    obtain ⟨rfl, rfl, rfl⟩ := hcs
    exact ⟨_, _, _, fun _ => ⟨0, none, 0, 0, 0, 0, 0⟩, fun _ => [], rfl, ⟨Nat.le_refl _, .inl rfl⟩, by unfold maxLen; omega, fun j hj => by omega⟩
  · simp [Value.cells] at hcs
    obtain ⟨rfl, rfl, rfl⟩ := hcs
    have hm' : m = cap := by simpa using hm
    subst hm'
    have each : ∀ i, i < m → ∃ (e : Rcm) (bs : List Int), W.cell? (a'.add (i * 5)) = some (.int .i64 e.s) ∧ W.cell? ((a'.add (i * 5)).add 1) = some (.slice e.a e.n e.k) ∧ W.cell? ((a'.add (i * 5)).add 2) = some (.int .i64 e.r) ∧ W.cell? ((a'.add (i * 5)).add 3) = some (.int .u64 e.root) ∧ W.cell? ((a'.add (i * 5)).add 4) = some (.int .u64 e.chain) ∧ RecIn W e bs := by
      intro i hi
      obtain ⟨cs', h1, h2⟩ := hel i hi
      rw [cellsRec] at h1
      obtain ⟨e, bs, rfl, hin⟩ := came_rec (World.cells?_some h1).2.1 h2
      have hc := (World.cells?_some h1).2.2
      have c0 := hc 0 (by omega)
      have c1 := hc 1 (by omega)
      have c2 := hc 2 (by omega)
      have c3 := hc 3 (by omega)
      have c4 := hc 4 (by omega)
      exact ⟨e, bs, by simpa [Addr.add] using c0, by simpa using c1, by simpa using c2, by simpa using c3, by simpa using c4, hin⟩
    refine ⟨_, _, _, fun i => if hi : i < m then (each i hi).choose else ⟨0, none, 0, 0, 0, 0, 0⟩, fun i => if hi : i < m then (each i hi).choose_spec.choose else [], rfl, ⟨hl, ?_⟩, hmx, fun j hj => ?_⟩
    · by_cases h0 : len = 0
      · exact .inl h0
      · obtain ⟨b, off, spot⟩ := a'
        have hs := (each 0 (by omega)).choose_spec.choose_spec.1
        have hspot : spot = none := by simpa [Addr.add] using World.cell?_spot hs
        subst hspot
        refine .inr ⟨b, off, rfl, ?_, fun i hi => ?_⟩
        · have := cell_lt hs
          simpa [Addr.add] using this
        · have hs := (each i (by omega)).choose_spec.choose_spec
          have a0 : ∀ t, W.cell? ⟨b, off + i * 5 + t, none⟩ = W.cell? (((⟨b, off, none⟩ : Addr).add (i * 5)).add t) := fun t => by rw [add_plain, add_plain]
          have a1 : W.cell? ⟨b, off + i * 5, none⟩ = W.cell? ((⟨b, off, none⟩ : Addr).add (i * 5)) := by rw [add_plain]
          simp only [dif_pos (show i < m by omega)]
          exact ⟨a1.trans hs.1, (a0 1).trans hs.2.1, (a0 2).trans hs.2.2.1, (a0 3).trans hs.2.2.2.1, (a0 4).trans hs.2.2.2.2.1, hs.2.2.2.2.2.l⟩
    · have hs := (each j (by omega)).choose_spec.choose_spec
      simp only [dif_pos (show j < m by omega)]
      exact hs.2.2.2.2.2
end Go.Proofs.Ytdclclekomjlpaa.Fx
