/- How configs and states by value are opened. -/
import Derived.Test.YtdclclekomjlpaaOpens
import Derived.Test.YtdclclekomjlpaaOpts
namespace Go.Proofs.Ytdclclekomjlpaa.Fx
open Go.ChangeShapes Go.WideShapes Go.ChangeAt Go.RowKit

theorem cellsOfWord : Try.prog.cellsOf 27 = 1 := by kernel_rfl

theorem cellsOfInt : Try.prog.cellsOf 3 = 1 := by kernel_rfl

theorem fieldInt {H : Type} {enc : TypeId × Value → H} {W : World} {n i : Nat} {cs : List Value} {xs : List (DataW H × List MemPlace)} {k : IntKind} {t : TypeId} {off : Nat} {v : Value} (ht : Try.prog.underlying t = some (.int k)) (h1 : Try.prog.cellsOf t = 1) (hi : i < xs.length)
    (h : DataW.trod enc Try.prog W 0 (fun _ => true) true n t ((cs.drop off).take (Try.prog.cellsOf t)) = xs[i]?) (hc : (cs.drop off).take 1 = [v]) : ∃ z, v = .int k z ∧ (Lit.int k z).wf = true := by
  rw [h1, hc, List.getElem?_eq_getElem hi] at h
  obtain ⟨z, e, _, hw⟩ := DataW.trod_int ht h
  simp at e
  exact ⟨z, e, hw⟩
