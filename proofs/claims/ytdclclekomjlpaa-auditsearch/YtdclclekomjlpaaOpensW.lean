/- How a word, and a slice of words, that come in as arguments are opened. -/
import Derived.Test.YtdclclekomjlpaaOpens
import Derived.Test.YtdclclekomjlpaaWords
import Derived.Test.YtdclclekomjlpaaDig
namespace Go.Proofs.Ytdclclekomjlpaa.Fx
open Go.ChangeShapes Go.WideShapes Go.ChangeAt Go.RowKit

theorem wf_word {n : Int} (h : (Lit.int .u64 n).wf = true) : okW n := by
  simp [Lit.wf, IntKind.min, IntKind.max, IntKind.signed, IntKind.bits] at h
  exact ⟨by omega, by omega⟩
