/-
  No cell of these rows narrows 'for every input' (looked for: loops, veiled, ifaces, maps, wideKeys, modest, calm, conditions, laid).
  DERIVED. THE GIVEN ROWS OF THIS SEAT. 6 by the template 'for every input the law returns true; each argument reads behind the call as it read before'; 0 by the template 'total and deterministic' (their statements: YtlhacdfkaajcpaaTotals.lean).
  GIVEN WITH THE SEED: the statements are not yours to turn. If you find one false, say at which input.
  Laid BY PROGRAM, IN A SANDBOX (cutbox-rows.mjs): the forced cells as the released guide's own fill.sh prints them over the translation 3ade89a202b03231… (all of the seat's roots in one cut). By AI agents, Wed Nov 11 2026. No macro, syntax, notation, axiom, sorry.
-/
import Derived.Test.YtlhacdfkaajcpaaChecked
import GoSem.Claim
import GoSem.ClaimJoined
import GoSem.ClaimMapViews
import Derived.JoinedTies
import Derived.KernelRfl
namespace Go.Proofs.Ytlhacdfkaajcpaa
/- THE CELL 'sum', in the pinned program and in every row, IS THE sha256 OF THE DUMP (.gsa) THAT YtlhacdfkaajcpaaProg.lean LOADS. Nothing in Lean hashes anything: it is a label: what it is worth is what the hold of that sum in a sandbox is worth. -/
noncomputable def Try.pinned : Pinned := { name := "ytlhacdfkaajcpaa", sum := "3ade89a202b03231e121dd1553aa6673b9e4105c53fa2c11cf2bc94b874f4e39", checked := Try.checked }
namespace Rows
def none {H : Type} : Left H := { results := [], args := [] }

/-- 'coachlaw.FixSays': WHATEVER THE INPUT: true; the input reads as it did. -/
def fixSaysSpec : ChangeSpec := { name := "fixSays", fn := fun _ => fun
  | [d1, d2] => { results := [.lit (.bool true)], args := [d1, d2] }
  | _ => none }
def fixSaysRow : OpenClaim := { program := "ytlhacdfkaajcpaa", sum := "3ade89a202b03231e121dd1553aa6673b9e4105c53fa2c11cf2bc94b874f4e39", func := "lessonbook/coachlaw.FixSays", spec := "fixSays", recurses := true, apart := false }
def FixSaysSaid : Prop := fixSaysRow.holds Try.pinned (OpenSpec.ofChange fixSaysSpec)

/-- ITS FALSE NEIGHBOUR: 'it returns false'. Refute it at one input. -/
def fixSaysWrong : ChangeSpec := { name := "fixSays", fn := fun _ => fun
  | [d1, d2] => { results := [.lit (.bool false)], args := [d1, d2] }
  | _ => none }
def FixSaysWrongFalsely : Prop := fixSaysRow.holds Try.pinned (OpenSpec.ofChange fixSaysWrong)

/-- 'coachlaw.VecSays': WHATEVER THE INPUT: true; the input reads as it did. -/
def vecSaysSpec : ChangeSpec := { name := "vecSays", fn := fun _ => fun
  | [d1, d2, d3] => { results := [.lit (.bool true)], args := [d1, d2, d3] }
  | _ => none }
def vecSaysRow : OpenClaim := { program := "ytlhacdfkaajcpaa", sum := "3ade89a202b03231e121dd1553aa6673b9e4105c53fa2c11cf2bc94b874f4e39", func := "lessonbook/coachlaw.VecSays", spec := "vecSays", recurses := true, apart := false }
def VecSaysSaid : Prop := vecSaysRow.holds Try.pinned (OpenSpec.ofChange vecSaysSpec)

/-- ITS FALSE NEIGHBOUR: 'it returns false'. Refute it at one input. -/
def vecSaysWrong : ChangeSpec := { name := "vecSays", fn := fun _ => fun
  | [d1, d2, d3] => { results := [.lit (.bool false)], args := [d1, d2, d3] }
  | _ => none }
def VecSaysWrongFalsely : Prop := vecSaysRow.holds Try.pinned (OpenSpec.ofChange vecSaysWrong)

/-- 'coachlaw.VecTurns': WHATEVER THE INPUT: true; the input reads as it did. -/
def vecTurnsSpec : ChangeSpec := { name := "vecTurns", fn := fun _ => fun
  | [d1, d2, d3] => { results := [.lit (.bool true)], args := [d1, d2, d3] }
  | _ => none }
def vecTurnsRow : OpenClaim := { program := "ytlhacdfkaajcpaa", sum := "3ade89a202b03231e121dd1553aa6673b9e4105c53fa2c11cf2bc94b874f4e39", func := "lessonbook/coachlaw.VecTurns", spec := "vecTurns", recurses := true, apart := false }
def VecTurnsSaid : Prop := vecTurnsRow.holds Try.pinned (OpenSpec.ofChange vecTurnsSpec)

/-- ITS FALSE NEIGHBOUR: 'it returns false'. Refute it at one input. -/
def vecTurnsWrong : ChangeSpec := { name := "vecTurns", fn := fun _ => fun
  | [d1, d2, d3] => { results := [.lit (.bool false)], args := [d1, d2, d3] }
  | _ => none }
def VecTurnsWrongFalsely : Prop := vecTurnsRow.holds Try.pinned (OpenSpec.ofChange vecTurnsWrong)

/-- 'coachlaw.PupilSays': WHATEVER THE INPUT: true; the input reads as it did. -/
def pupilSaysSpec : ChangeSpec := { name := "pupilSays", fn := fun _ => fun
  | [d1, d2, d3, d4, d5] => { results := [.lit (.bool true)], args := [d1, d2, d3, d4, d5] }
  | _ => none }
def pupilSaysRow : OpenClaim := { program := "ytlhacdfkaajcpaa", sum := "3ade89a202b03231e121dd1553aa6673b9e4105c53fa2c11cf2bc94b874f4e39", func := "lessonbook/coachlaw.PupilSays", spec := "pupilSays", unfollowed := true, recurses := true, apart := false }
def PupilSaysSaid : Prop := pupilSaysRow.holds Try.pinned (OpenSpec.ofChange pupilSaysSpec)

/-- ITS FALSE NEIGHBOUR: 'it returns false'. Refute it at one input. -/
def pupilSaysWrong : ChangeSpec := { name := "pupilSays", fn := fun _ => fun
  | [d1, d2, d3, d4, d5] => { results := [.lit (.bool false)], args := [d1, d2, d3, d4, d5] }
  | _ => none }
def PupilSaysWrongFalsely : Prop := pupilSaysRow.holds Try.pinned (OpenSpec.ofChange pupilSaysWrong)

/-- 'coachlaw.PupilRuns': WHATEVER THE INPUT: true; the input reads as it did. -/
def pupilRunsSpec : ChangeSpec := { name := "pupilRuns", fn := fun _ => fun
  | [d1, d2] => { results := [.lit (.bool true)], args := [d1, d2] }
  | _ => none }
def pupilRunsRow : OpenClaim := { program := "ytlhacdfkaajcpaa", sum := "3ade89a202b03231e121dd1553aa6673b9e4105c53fa2c11cf2bc94b874f4e39", func := "lessonbook/coachlaw.PupilRuns", spec := "pupilRuns", recurses := true, apart := false }
def PupilRunsSaid : Prop := pupilRunsRow.holds Try.pinned (OpenSpec.ofChange pupilRunsSpec)

/-- ITS FALSE NEIGHBOUR: 'it returns false'. Refute it at one input. -/
def pupilRunsWrong : ChangeSpec := { name := "pupilRuns", fn := fun _ => fun
  | [d1, d2] => { results := [.lit (.bool false)], args := [d1, d2] }
  | _ => none }
def PupilRunsWrongFalsely : Prop := pupilRunsRow.holds Try.pinned (OpenSpec.ofChange pupilRunsWrong)

/-- 'coachlaw.DigestSays': WHATEVER THE INPUT: true; the input reads as it did. -/
def digestSaysSpec : ChangeSpec := { name := "digestSays", fn := fun _ => fun
  | [d1, d2, d3, d4, d5] => { results := [.lit (.bool true)], args := [d1, d2, d3, d4, d5] }
  | _ => none }
def digestSaysRow : OpenClaim := { program := "ytlhacdfkaajcpaa", sum := "3ade89a202b03231e121dd1553aa6673b9e4105c53fa2c11cf2bc94b874f4e39", func := "lessonbook/coachlaw.DigestSays", spec := "digestSays", named := ["math/bits.divideError", "math/bits.overflowError"], apart := false }
def DigestSaysSaid : Prop := digestSaysRow.holds Try.pinned (OpenSpec.ofChange digestSaysSpec)

/-- ITS FALSE NEIGHBOUR: 'it returns false'. Refute it at one input. -/
def digestSaysWrong : ChangeSpec := { name := "digestSays", fn := fun _ => fun
  | [d1, d2, d3, d4, d5] => { results := [.lit (.bool false)], args := [d1, d2, d3, d4, d5] }
  | _ => none }
def DigestSaysWrongFalsely : Prop := digestSaysRow.holds Try.pinned (OpenSpec.ofChange digestSaysWrong)

/- THE SECOND FORM. 'bulk': how many values and letters a reading holds, each counted each time it is reached (what is shared counts as often as it is met; a slice's spare places count too). A statement '..UptoSaid' is the law's where the arguments, and the package variables that the reading takes, are together of bulk at most 1048576: NARROWER than '..Said'. Prove '..Said' where nothing that the law and all that it calls make is longer than what came in: it says more and counts as full. Else prove '..UptoSaid'. A law counts once. -/
mutual
def uptoBulk {H : Type} : DataW H → Nat
  | .lit (.string bytes) => bytes.length + 1
  | .lit _ => 1
  | .nil => 1
  | .ptr d => uptoBulk d + 1
  | .slice elems spare => uptoBulkAll elems + uptoBulkAll spare + 1
  | .agg parts => uptoBulkAll parts + 1
  | .iface _ d => uptoBulk d + 1
  | .map entries => uptoBulkEntries entries + 1
  | .held _ => 1
def uptoBulkAll {H : Type} : List (DataW H) → Nat
  | [] => 0
  | d :: r => uptoBulk d + uptoBulkAll r
def uptoBulkEntries {H : Type} : List (Lit × DataW H) → Nat
  | [] => 0
  | x :: r => uptoBulkEntry x + uptoBulkEntries r
def uptoBulkEntry {H : Type} : Lit × DataW H → Nat
  | (.string bytes, d) => bytes.length + uptoBulk d + 1
  | (_, d) => uptoBulk d + 1
 end
def uptoSmall : (H : Type) → List (DataW H) → Bool := fun _ ds => decide (uptoBulkAll ds ≤ 1048576)
def OpenSpec.upto (s : _root_.Go.ChangeSpec) : _root_.Go.OpenSpec := { _root_.Go.OpenSpec.ofChange s with cond := some uptoSmall }

/-- 'coachlaw.FixSays', WHERE WHAT IT READS IS OF BULK AT MOST 1048576: true; the input reads as it did. -/
def fixSaysUptoRow : OpenClaim := { program := "ytlhacdfkaajcpaa", sum := "3ade89a202b03231e121dd1553aa6673b9e4105c53fa2c11cf2bc94b874f4e39", func := "lessonbook/coachlaw.FixSays", spec := "fixSays", recurses := true, apart := false, narrowed := true }
def FixSaysUptoSaid : Prop := fixSaysUptoRow.holds Try.pinned (OpenSpec.upto fixSaysSpec)

/-- 'coachlaw.VecSays', WHERE WHAT IT READS IS OF BULK AT MOST 1048576: true; the input reads as it did. -/
def vecSaysUptoRow : OpenClaim := { program := "ytlhacdfkaajcpaa", sum := "3ade89a202b03231e121dd1553aa6673b9e4105c53fa2c11cf2bc94b874f4e39", func := "lessonbook/coachlaw.VecSays", spec := "vecSays", recurses := true, apart := false, narrowed := true }
def VecSaysUptoSaid : Prop := vecSaysUptoRow.holds Try.pinned (OpenSpec.upto vecSaysSpec)

/-- 'coachlaw.VecTurns', WHERE WHAT IT READS IS OF BULK AT MOST 1048576: true; the input reads as it did. -/
def vecTurnsUptoRow : OpenClaim := { program := "ytlhacdfkaajcpaa", sum := "3ade89a202b03231e121dd1553aa6673b9e4105c53fa2c11cf2bc94b874f4e39", func := "lessonbook/coachlaw.VecTurns", spec := "vecTurns", recurses := true, apart := false, narrowed := true }
def VecTurnsUptoSaid : Prop := vecTurnsUptoRow.holds Try.pinned (OpenSpec.upto vecTurnsSpec)

/-- 'coachlaw.PupilSays', WHERE WHAT IT READS IS OF BULK AT MOST 1048576: true; the input reads as it did. -/
def pupilSaysUptoRow : OpenClaim := { program := "ytlhacdfkaajcpaa", sum := "3ade89a202b03231e121dd1553aa6673b9e4105c53fa2c11cf2bc94b874f4e39", func := "lessonbook/coachlaw.PupilSays", spec := "pupilSays", unfollowed := true, recurses := true, apart := false, narrowed := true }
def PupilSaysUptoSaid : Prop := pupilSaysUptoRow.holds Try.pinned (OpenSpec.upto pupilSaysSpec)

/-- 'coachlaw.PupilRuns', WHERE WHAT IT READS IS OF BULK AT MOST 1048576: true; the input reads as it did. -/
def pupilRunsUptoRow : OpenClaim := { program := "ytlhacdfkaajcpaa", sum := "3ade89a202b03231e121dd1553aa6673b9e4105c53fa2c11cf2bc94b874f4e39", func := "lessonbook/coachlaw.PupilRuns", spec := "pupilRuns", recurses := true, apart := false, narrowed := true }
def PupilRunsUptoSaid : Prop := pupilRunsUptoRow.holds Try.pinned (OpenSpec.upto pupilRunsSpec)

/-- 'coachlaw.DigestSays', WHERE WHAT IT READS IS OF BULK AT MOST 1048576: true; the input reads as it did. -/
def digestSaysUptoRow : OpenClaim := { program := "ytlhacdfkaajcpaa", sum := "3ade89a202b03231e121dd1553aa6673b9e4105c53fa2c11cf2bc94b874f4e39", func := "lessonbook/coachlaw.DigestSays", spec := "digestSays", named := ["math/bits.divideError", "math/bits.overflowError"], apart := false, narrowed := true }
def DigestSaysUptoSaid : Prop := digestSaysUptoRow.holds Try.pinned (OpenSpec.upto digestSaysSpec)

end Rows
end Go.Proofs.Ytlhacdfkaajcpaa
