/- What coachref.ReadLine returns, whatever text lies there: the record whose line it begins with, or that there is none. -/
import Derived.Test.YtfcnnolpcnacoaaDoorRefStB
namespace Go.Proofs.YtfcnnolpcnacoaaDoor.Fx
open Go.RowKit

/-- The number that a word tells. -/
def nv (ws : List (List UInt8)) (i : Nat) : Int := (valN (ws.getD i []) : Int)
def WhOk (ws : List (List UInt8)) (i : Nat) : Prop := ∃ u : Nat, u < 10000000000000000000 ∧ ws.getD i [] = Lib.decDigits u
theorem nv_of {ws : List (List UInt8)} {i u : Nat} (h : ws.getD i [] = Lib.decDigits u) : nv ws i = (u : Int) := by unfold nv; rw [h, dec_val]
def rdLn (ws : List (List UInt8)) : Ln := ⟨nv ws 0, nv ws 1, nv ws 2, nv ws 3, (List.range (ws.length - 4)).map fun i => nv ws (4 + i)⟩
theorem whok_line {l : Ln} (h : l.ok) {i : Nat} (hi : i < l.nums.length) : WhOk l.words i := by
  have := h.at hi
  exact ⟨(l.nums.getD i 0).toNat, by omega, getD_words hi⟩
theorem nv_line {l : Ln} (h : l.ok) {i : Nat} (hi : i < l.nums.length) : nv l.words i = l.nums.getD i 0 := by
  have := h.at hi
  rw [nv_of (getD_words hi)]
  omega
theorem rd_line {l : Ln} (h : l.ok) : rdLn l.words = l := by
  have hn : l.nums.length = l.b.length + 4 := by simp [Ln.nums]
  have a0 := nv_line h (i := 0) (by omega)
  have a1 := nv_line h (i := 1) (by omega)
  have a2 := nv_line h (i := 2) (by omega)
  have a3 := nv_line h (i := 3) (by omega)
  obtain ⟨s, r, root, chain, b⟩ := l
  simp only [rdLn, a0, a1, a2, a3]
  simp only [Ln.mk.injEq]
  refine ⟨rfl, rfl, rfl, rfl, ?_⟩
  apply List.ext_getElem
  · simp [Ln.words_len]
  · intro i h1 h2
    simp only [List.getElem_map, List.getElem_range]
    rw [nv_line h (by rw [hn]; dsimp only; omega)]
    rw [List.getD_eq_getElem?_getD, Nat.add_comm]
    simp [Ln.nums, h2]
theorem rd_words {ws : List (List UInt8)} (h : ∀ i, i < ws.length → WhOk ws i) (h4 : 4 ≤ ws.length) : (rdLn ws).words = ws := by
  have key : ∀ i, i < ws.length → dg (nv ws i) = ws.getD i [] := fun i hi => by
    obtain ⟨u, _, e⟩ := h i hi
    rw [nv_of e, e]; rfl
  have kd : ∀ i (hi : i < ws.length), ws.getD i [] = ws[i] := fun i hi => by rw [List.getD_eq_getElem?_getD, List.getElem?_eq_getElem hi, Option.getD_some]
  apply List.ext_getElem
  · rw [Ln.words_len]; simp [rdLn]; omega
  · intro i h1 h2
    have e : (rdLn ws).words[i] = dg ((rdLn ws).nums.getD i 0) := by
      have hi : i < (rdLn ws).nums.length := by simpa [Ln.words] using h1
      have := getD_words hi
      rw [List.getD_eq_getElem?_getD, List.getElem?_eq_getElem h1, Option.getD_some] at this
      exact this
    rw [e, ← kd i h2, ← key i h2]
    congr 1
    rcases (show i = 0 ∨ i = 1 ∨ i = 2 ∨ i = 3 ∨ 4 ≤ i by omega) with rfl | rfl | rfl | rfl | h5
    · rfl
    · rfl
    · rfl
    · rfl
    · obtain ⟨j, rfl⟩ : ∃ j, i = 4 + j := ⟨i - 4, by omega⟩
      rw [List.getD_eq_getElem?_getD, Nat.add_comm 4 j]
      simp [Ln.nums, rdLn, show j < ws.length - 4 by omega, Nat.add_comm]

/-- Where the first byte 10 of those from q on stands. -/
def EndR (s : List UInt8) (q : Nat) (e : Int) : Prop :=
  (e = -1 ∧ ∀ j (hj : j < s.length), q ≤ j → s[j] ≠ 10) ∨ (∃ j0, ∃ hj0 : j0 < s.length, e = (j0 : Int) ∧ q ≤ j0 ∧ s[j0] = 10 ∧ ∀ j (hj : j < s.length), q ≤ j → j < j0 → s[j] ≠ 10)
theorem EndR.start (s : List UInt8) : EndR s s.length (-1) := .inl ⟨rfl, fun j hj h => by omega⟩
theorem EndR.hit {s : List UInt8} {q : Nat} (hq : q < s.length) (h : s[q] = 10) : EndR s q (q : Int) := .inr ⟨q, hq, rfl, Nat.le_refl _, h, fun j _ h1 h2 => by omega⟩
theorem EndR.miss {s : List UInt8} {q : Nat} {e : Int} (hq : q < s.length) (h : ¬ s[q] = 10) (hr : EndR s (q + 1) e) : EndR s q e := by
  rcases hr with ⟨h1, h2⟩ | ⟨j0, hj0, h1, h2, h3, h4⟩
  · refine .inl ⟨h1, fun j hj hqj => ?_⟩
    by_cases e : j = q
    · subst e; exact h
    · exact h2 j hj (by omega)
  · refine .inr ⟨j0, hj0, h1, by omega, h3, fun j hj h5 h6 => ?_⟩
    by_cases e : j = q
    · subst e; exact h
    · exact h4 j hj (by omega) h6
theorem EndR.none {s : List UInt8} (h : EndR s 0 (-1)) : (10 : UInt8) ∉ s := by
  intro hm
  obtain ⟨j, hj, e⟩ := List.getElem_of_mem hm
  rcases h with ⟨_, h2⟩ | ⟨j0, _, h1, _⟩
  · exact h2 j hj (by omega) e
  · omega
theorem EndR.some {s : List UInt8} {e : Int} (h : EndR s 0 e) (he : 0 ≤ e) : ∃ k : Nat, e = (k : Int) ∧ k < s.length ∧ (10 : UInt8) ∉ s.take k ∧ s.take k ++ [10] <+: s := by
  rcases h with ⟨h1, _⟩ | ⟨j0, hj0, h1, _, h3, h4⟩
  · omega
  · refine ⟨j0, h1, hj0, fun hm => ?_, ?_⟩
    · obtain ⟨j, hj, e⟩ := List.getElem_of_mem hm
      rw [List.length_take] at hj
      rw [List.getElem_take] at e
      exact h4 j (by omega) (by omega) (by omega) e
    · refine ⟨s.drop (j0 + 1), ?_⟩
      rw [List.append_assoc, ← h3]
      have : [s[j0]] ++ s.drop (j0 + 1) = s.drop j0 := by rw [List.singleton_append]; exact (List.drop_eq_getElem_cons hj0).symm
      rw [this, List.take_append_drop]
end Go.Proofs.YtfcnnolpcnacoaaDoor.Fx
