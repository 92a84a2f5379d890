/- What TreeBinds turns on, in plain numbers: what two openings to one root tell; and how lists of lists lie in memory. -/
import Derived.Test.YtfkalnehomgccaaBindB
import Derived.Test.YtfkalnehomgccaaSpotC
namespace Go.Proofs.Ytfkalnehomgccaa.Fx
open Go.RowKit

theorem opE_in {n i : Int} {m p : Nat} (h : opE n i m p = 0) : okC i n ∧ p = dpC i n ∧ (m : Int) = min 4 (n - 4 * i) := by
  unfold opE errC at h
  by_cases h1 : okC i n
  · rw [if_pos h1] at h
    by_cases h2 : p = dpC i n
    · rw [if_pos h2, if_pos rfl] at h
      by_cases h3 : (m : Int) = min 4 (n - 4 * i)
      · exact ⟨h1, h2, h3⟩
      · rw [if_neg h3] at h; cases h
    · rw [if_neg h2, if_neg (by decide)] at h; cases h
  · rw [if_neg h1, if_neg (by decide)] at h; cases h
theorem opens_bound {root : Int} {k M0 m p : Nat} {xs ps : List Int} (hE : opE M0 k m p = 0) (hB : opB root M0 k m xs p ps = true) (hpl : ps.length = p) :
    (1 ≤ M0 ∧ M0 ≤ 200 ∧ k < (M0 + 3) / 4) ∧ (1 ≤ m ∧ m ≤ 4) ∧ p = deepP k ((M0 + 3) / 4) ∧ madeP [3, (M0 : Int), nowB (turnP k ((M0 + 3) / 4)) (ofP 4 (numL xs m)) ps p] = root % 2305843009213693951 := by
  obtain ⟨⟨g1, g2, g3, g4⟩, g5, g6⟩ := opE_in hE
  have g7 : k < (M0 + 3) / 4 := by omega
  have g8 : p = deepP k ((M0 + 3) / 4) := by rw [g5]; unfold dpC; simp
  refine ⟨⟨by omega, by omega, g7⟩, ⟨by omega, by omega⟩, g8, ?_⟩
  unfold opB at hB
  rw [if_pos hE, decide_eq_true_eq] at hB
  rw [← hB]
  unfold upL
  rw [if_pos ⟨⟨g1, g2, g3, g4⟩, g5⟩]
  have hn := now_up ((M0 + 3) / 4) k ((M0 + 3) / 4) (ofP 4 (numL xs m)) ps (Nat.le_refl _) g7 (by rw [hpl]; exact g8)
  rw [hpl] at hn
  rw [hn]
  unfold madeP
  simp
theorem okL_cons {x : Int} {l : List Int} (hx : okW x) (hl : okL l) : okL (x :: l) := fun i hi => by
  cases i with
  | zero => exact hx
  | succ i => exact hl i (by simpa using hi)
theorem okL_nil : okL [] := fun i hi => by simp at hi
theorem nowB_ok (ts : List Bool) {x : Int} (hx : okW x) (ps : List Int) (j : Nat) : okW (nowB ts x ps j) := by
  cases j with
  | zero => exact hx
  | succ j => rw [nowB]; split <;> exact okP_W (ofP_ok _ _)
theorem allB_ok {n : Nat} (hn : n ≤ 200) (ts : List Bool) {low : List Int} (hl : okL low) (h1 : 1 ≤ low.length) (h4 : low.length ≤ 4) {x : Int} (hx : okW x) (ps : List Int) (k : Nat) : okL (allB n ts low x ps k) ∧ 2 ≤ (allB n ts low x ps k).length ∧ (allB n ts low x ps k).length ≤ 5 := by
  have m0 : ∀ y : Int, okW (y % 2305843009213693951) := fun y => ⟨by omega, by omega⟩
  have w3 : okW 3 := ⟨by omega, by omega⟩
  unfold allB
  by_cases h0 : k = 0
  · rw [if_pos h0]
    exact ⟨okL_cons ⟨by omega, by omega⟩ hl, by simp; omega, by simp; omega⟩
  · rw [if_neg h0]
    by_cases h2 : k ≤ ps.length
    · rw [if_pos h2]
      unfold pairB
      split
      · exact ⟨okL_cons w3 (okL_cons (m0 _) (okL_cons (nowB_ok ts hx ps _) okL_nil)), by simp, by simp⟩
      · exact ⟨okL_cons w3 (okL_cons (nowB_ok ts hx ps _) (okL_cons (m0 _) okL_nil)), by simp, by simp⟩
    · rw [if_neg h2]
      exact ⟨okL_cons w3 (okL_cons ⟨by omega, by omega⟩ (okL_cons (nowB_ok ts hx ps _) okL_nil)), by simp, by simp⟩
theorem OwnLL.at {base : Nat} {w : World} {v : Value} {n : Nat} {f : Nat → List Int} (h : OwnLL base w v ((List.range n).map f)) (hn : 0 < n) : ∃ g c, v = .slice (some ⟨g, 0, none⟩) n c ∧ n ≤ c ∧ g < w.heap.size ∧ ∀ k, k < n → ∃ g' c', w.cell? ⟨g, k, none⟩ = some (.slice (some ⟨g', 0, none⟩) (f k).length c') ∧ LstW w (some ⟨g', 0, none⟩) (f k).length c' (f k) := by
  obtain ⟨vs, h1, h2, h3⟩ := h
  rw [List.length_map, List.length_range] at h2
  obtain ⟨g, c, e, _, hg, hc, hcells⟩ := h1.row (by omega)
  rw [h2] at e hc
  refine ⟨g, c, e, hc, hg, fun k hk => ?_⟩
  obtain ⟨g', c', q1, q2, _, _, _⟩ := h3 k (by simpa using hk)
  have e2 : ((List.range n).map f).getD k [] = f k := by rw [List.getD_eq_getElem?_getD, List.getElem?_map, List.getElem?_range hk]; rfl
  rw [e2] at q1 q2
  exact ⟨g', c', hcells k _ q1, q2⟩
end Go.Proofs.Ytfkalnehomgccaa.Fx
