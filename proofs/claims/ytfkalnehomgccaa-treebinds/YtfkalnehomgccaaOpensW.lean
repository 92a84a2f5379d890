/- How a word, and a slice of words, that come in as arguments are opened. -/
import Derived.Test.YtfkalnehomgccaaOpens
import Derived.Test.YtfkalnehomgccaaWords
import Derived.Test.YtfkalnehomgccaaDig
namespace Go.Proofs.Ytfkalnehomgccaa.Fx
open Go.ChangeShapes Go.WideShapes Go.ChangeAt Go.RowKit

theorem wf_word {n : Int} (h : (Lit.int .u64 n).wf = true) : okW n := by
  simp [Lit.wf, IntKind.min, IntKind.max, IntKind.signed, IntKind.bits] at h
  exact ⟨by omega, by omega⟩

set_option maxRecDepth 100000 in
theorem openWords {H : Type} {enc : TypeId × Value → H} {W : World} {b0 : Nat} {v : Value} {d : DataW H} {p : List MemPlace} (hv : Value.okWide Try.prog W .any b0 26 v) (h : DataW.Trod enc Try.prog W 0 (fun _ => true) true 26 v d p) :
    ∃ a len cap xs, v = .slice a len cap ∧ LstW W a len cap xs ∧ ∀ i, i < xs.length → okW (xs.getD i 0) := by
  obtain ⟨a, len, cap, rfl⟩ := okWide_slice Try.underlying26 hv
  obtain ⟨fuel, hf⟩ := h
  rcases open_ints Try.underlying26 Try.underlying25 (by kernel_rfl) hf with ⟨hcs, _⟩ | ⟨x, l, c, zs, hcs, _, hl, hm, hz, _, hcell, hwz⟩
  · simp [Value.cells] at hcs
    obtain ⟨rfl, rfl, rfl⟩ := hcs
    exact ⟨_, _, _, [], rfl, LstW.nil _ _ _, fun i hi => by simp at hi⟩
  · simp [Value.cells] at hcs
    obtain ⟨rfl, rfl, rfl⟩ := hcs
    refine ⟨_, _, _, zs.take len, rfl, LstW.came hl (by simpa using hz) hcell, fun i hi => wf_word (hwz _ (List.mem_of_mem_take (i := len) ?_))⟩
    rw [List.getD_eq_getElem?_getD, List.getElem?_eq_getElem hi]
    exact List.getElem_mem hi
end Go.Proofs.Ytfkalnehomgccaa.Fx
