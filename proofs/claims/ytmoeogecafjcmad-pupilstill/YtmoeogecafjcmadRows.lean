/-
  No cell of these rows narrows 'for every input' (looked for: loops, veiled, ifaces, maps, wideKeys, modest, calm, conditions, laid).
  DERIVED. THE GIVEN ROWS OF THIS SEAT. 5 by the template 'for every input the law returns true; each argument reads behind the call as it read before'; 0 by the template 'total and deterministic' (their statements: YtmoeogecafjcmadTotals.lean).
  GIVEN WITH THE SEED: the statements are not yours to turn. If you find one false, say at which input.
  Laid BY PROGRAM, IN A SANDBOX (cutbox-rows.mjs): the forced cells as the released guide's own fill.sh prints them over the translation bb434fdd666ca980… (all of the seat's roots in one cut). By AI agents, Wed Nov 11 2026. No macro, syntax, notation, axiom, sorry.
-/
import Derived.Test.YtmoeogecafjcmadChecked
import GoSem.Claim
import GoSem.ClaimJoined
import GoSem.ClaimMapViews
import Derived.JoinedTies
import Derived.KernelRfl
namespace Go.Proofs.Ytmoeogecafjcmad
/- THE CELL 'sum', in the pinned program and in every row, IS THE sha256 OF THE DUMP (.gsa) THAT YtmoeogecafjcmadProg.lean LOADS. Nothing in Lean hashes anything: it is a label: what it is worth is what the hold of that sum in a sandbox is worth. -/
noncomputable def Try.pinned : Pinned := { name := "ytmoeogecafjcmad", sum := "bb434fdd666ca980b268535615dbbc5940c6f229387a34e4974bc308a601c7af", checked := Try.checked }
namespace Rows
def none {H : Type} : Left H := { results := [], args := [] }

/-- 'coachkeep.FixLaws': WHATEVER THE INPUT: true; the input reads as it did. -/
def fixLawsSpec : ChangeSpec := { name := "fixLaws", fn := fun _ => fun
  | [d1, d2, d3] => { results := [.lit (.bool true)], args := [d1, d2, d3] }
  | _ => none }
def fixLawsRow : OpenClaim := { program := "ytmoeogecafjcmad", sum := "bb434fdd666ca980b268535615dbbc5940c6f229387a34e4974bc308a601c7af", func := "lessonbook/coachkeep.FixLaws", spec := "fixLaws", apart := false }
def FixLawsSaid : Prop := fixLawsRow.holds Try.pinned (OpenSpec.ofChange fixLawsSpec)

/-- ITS FALSE NEIGHBOUR: 'it returns false'. Refute it at one input. -/
def fixLawsWrong : ChangeSpec := { name := "fixLaws", fn := fun _ => fun
  | [d1, d2, d3] => { results := [.lit (.bool false)], args := [d1, d2, d3] }
  | _ => none }
def FixLawsWrongFalsely : Prop := fixLawsRow.holds Try.pinned (OpenSpec.ofChange fixLawsWrong)

/-- 'coachkeep.FixNearest': WHATEVER THE INPUT: true; the input reads as it did. -/
def fixNearestSpec : ChangeSpec := { name := "fixNearest", fn := fun _ => fun
  | [d1, d2] => { results := [.lit (.bool true)], args := [d1, d2] }
  | _ => none }
def fixNearestRow : OpenClaim := { program := "ytmoeogecafjcmad", sum := "bb434fdd666ca980b268535615dbbc5940c6f229387a34e4974bc308a601c7af", func := "lessonbook/coachkeep.FixNearest", spec := "fixNearest", apart := false }
def FixNearestSaid : Prop := fixNearestRow.holds Try.pinned (OpenSpec.ofChange fixNearestSpec)

/-- ITS FALSE NEIGHBOUR: 'it returns false'. Refute it at one input. -/
def fixNearestWrong : ChangeSpec := { name := "fixNearest", fn := fun _ => fun
  | [d1, d2] => { results := [.lit (.bool false)], args := [d1, d2] }
  | _ => none }
def FixNearestWrongFalsely : Prop := fixNearestRow.holds Try.pinned (OpenSpec.ofChange fixNearestWrong)

/-- 'coachkeep.VecSigns': WHATEVER THE INPUT: true; the input reads as it did. -/
def vecSignsSpec : ChangeSpec := { name := "vecSigns", fn := fun _ => fun
  | [d1, d2, d3] => { results := [.lit (.bool true)], args := [d1, d2, d3] }
  | _ => none }
def vecSignsRow : OpenClaim := { program := "ytmoeogecafjcmad", sum := "bb434fdd666ca980b268535615dbbc5940c6f229387a34e4974bc308a601c7af", func := "lessonbook/coachkeep.VecSigns", spec := "vecSigns", unfollowed := true, recurses := true, apart := false }
def VecSignsSaid : Prop := vecSignsRow.holds Try.pinned (OpenSpec.ofChange vecSignsSpec)

/-- ITS FALSE NEIGHBOUR: 'it returns false'. Refute it at one input. -/
def vecSignsWrong : ChangeSpec := { name := "vecSigns", fn := fun _ => fun
  | [d1, d2, d3] => { results := [.lit (.bool false)], args := [d1, d2, d3] }
  | _ => none }
def VecSignsWrongFalsely : Prop := vecSignsRow.holds Try.pinned (OpenSpec.ofChange vecSignsWrong)

/-- 'coachkeep.PupilBack': WHATEVER THE INPUT: true; the input reads as it did. -/
def pupilBackSpec : ChangeSpec := { name := "pupilBack", fn := fun _ => fun
  | [d] => { results := [.lit (.bool true)], args := [d] }
  | _ => none }
def pupilBackRow : OpenClaim := { program := "ytmoeogecafjcmad", sum := "bb434fdd666ca980b268535615dbbc5940c6f229387a34e4974bc308a601c7af", func := "lessonbook/coachkeep.PupilBack", spec := "pupilBack", unfollowed := true, recurses := true, apart := false }
def PupilBackSaid : Prop := pupilBackRow.holds Try.pinned (OpenSpec.ofChange pupilBackSpec)

/-- ITS FALSE NEIGHBOUR: 'it returns false'. Refute it at one input. -/
def pupilBackWrong : ChangeSpec := { name := "pupilBack", fn := fun _ => fun
  | [d] => { results := [.lit (.bool false)], args := [d] }
  | _ => none }
def PupilBackWrongFalsely : Prop := pupilBackRow.holds Try.pinned (OpenSpec.ofChange pupilBackWrong)

/-- 'coachkeep.PupilStill': WHATEVER THE INPUT: true; the input reads as it did. -/
def pupilStillSpec : ChangeSpec := { name := "pupilStill", fn := fun _ => fun
  | [d1, d2] => { results := [.lit (.bool true)], args := [d1, d2] }
  | _ => none }
def pupilStillRow : OpenClaim := { program := "ytmoeogecafjcmad", sum := "bb434fdd666ca980b268535615dbbc5940c6f229387a34e4974bc308a601c7af", func := "lessonbook/coachkeep.PupilStill", spec := "pupilStill", unfollowed := true, recurses := true, apart := false }
def PupilStillSaid : Prop := pupilStillRow.holds Try.pinned (OpenSpec.ofChange pupilStillSpec)

/-- ITS FALSE NEIGHBOUR: 'it returns false'. Refute it at one input. -/
def pupilStillWrong : ChangeSpec := { name := "pupilStill", fn := fun _ => fun
  | [d1, d2] => { results := [.lit (.bool false)], args := [d1, d2] }
  | _ => none }
def PupilStillWrongFalsely : Prop := pupilStillRow.holds Try.pinned (OpenSpec.ofChange pupilStillWrong)

/- THE SECOND FORM. 'bulk': how many values and letters a reading holds, each counted each time it is reached (what is shared counts as often as it is met; a slice's spare places count too). A statement '..UptoSaid' is the law's where the arguments, and the package variables that the reading takes, are together of bulk at most 1048576: NARROWER than '..Said'. Prove '..Said' where nothing that the law and all that it calls make is longer than what came in: it says more and counts as full. Else prove '..UptoSaid'. A law counts once. -/
mutual
def uptoBulk {H : Type} : DataW H → Nat
  | .lit (.string bytes) => bytes.length + 1
  | .lit _ => 1
  | .nil => 1
  | .ptr d => uptoBulk d + 1
  | .slice elems spare => uptoBulkAll elems + uptoBulkAll spare + 1
  | .agg parts => uptoBulkAll parts + 1
  | .iface _ d => uptoBulk d + 1
  | .map entries => uptoBulkEntries entries + 1
  | .held _ => 1
def uptoBulkAll {H : Type} : List (DataW H) → Nat
  | [] => 0
  | d :: r => uptoBulk d + uptoBulkAll r
def uptoBulkEntries {H : Type} : List (Lit × DataW H) → Nat
  | [] => 0
  | x :: r => uptoBulkEntry x + uptoBulkEntries r
def uptoBulkEntry {H : Type} : Lit × DataW H → Nat
  | (.string bytes, d) => bytes.length + uptoBulk d + 1
  | (_, d) => uptoBulk d + 1
 end
def uptoSmall : (H : Type) → List (DataW H) → Bool := fun _ ds => decide (uptoBulkAll ds ≤ 1048576)
def OpenSpec.upto (s : _root_.Go.ChangeSpec) : _root_.Go.OpenSpec := { _root_.Go.OpenSpec.ofChange s with cond := some uptoSmall }

/-- 'coachkeep.FixLaws', WHERE WHAT IT READS IS OF BULK AT MOST 1048576: true; the input reads as it did. -/
def fixLawsUptoRow : OpenClaim := { program := "ytmoeogecafjcmad", sum := "bb434fdd666ca980b268535615dbbc5940c6f229387a34e4974bc308a601c7af", func := "lessonbook/coachkeep.FixLaws", spec := "fixLaws", apart := false, narrowed := true }
def FixLawsUptoSaid : Prop := fixLawsUptoRow.holds Try.pinned (OpenSpec.upto fixLawsSpec)

/-- 'coachkeep.FixNearest', WHERE WHAT IT READS IS OF BULK AT MOST 1048576: true; the input reads as it did. -/
def fixNearestUptoRow : OpenClaim := { program := "ytmoeogecafjcmad", sum := "bb434fdd666ca980b268535615dbbc5940c6f229387a34e4974bc308a601c7af", func := "lessonbook/coachkeep.FixNearest", spec := "fixNearest", apart := false, narrowed := true }
def FixNearestUptoSaid : Prop := fixNearestUptoRow.holds Try.pinned (OpenSpec.upto fixNearestSpec)

/-- 'coachkeep.VecSigns', WHERE WHAT IT READS IS OF BULK AT MOST 1048576: true; the input reads as it did. -/
def vecSignsUptoRow : OpenClaim := { program := "ytmoeogecafjcmad", sum := "bb434fdd666ca980b268535615dbbc5940c6f229387a34e4974bc308a601c7af", func := "lessonbook/coachkeep.VecSigns", spec := "vecSigns", unfollowed := true, recurses := true, apart := false, narrowed := true }
def VecSignsUptoSaid : Prop := vecSignsUptoRow.holds Try.pinned (OpenSpec.upto vecSignsSpec)

/-- 'coachkeep.PupilBack', WHERE WHAT IT READS IS OF BULK AT MOST 1048576: true; the input reads as it did. -/
def pupilBackUptoRow : OpenClaim := { program := "ytmoeogecafjcmad", sum := "bb434fdd666ca980b268535615dbbc5940c6f229387a34e4974bc308a601c7af", func := "lessonbook/coachkeep.PupilBack", spec := "pupilBack", unfollowed := true, recurses := true, apart := false, narrowed := true }
def PupilBackUptoSaid : Prop := pupilBackUptoRow.holds Try.pinned (OpenSpec.upto pupilBackSpec)

/-- 'coachkeep.PupilStill', WHERE WHAT IT READS IS OF BULK AT MOST 1048576: true; the input reads as it did. -/
def pupilStillUptoRow : OpenClaim := { program := "ytmoeogecafjcmad", sum := "bb434fdd666ca980b268535615dbbc5940c6f229387a34e4974bc308a601c7af", func := "lessonbook/coachkeep.PupilStill", spec := "pupilStill", unfollowed := true, recurses := true, apart := false, narrowed := true }
def PupilStillUptoSaid : Prop := pupilStillUptoRow.holds Try.pinned (OpenSpec.upto pupilStillSpec)

end Rows
end Go.Proofs.Ytmoeogecafjcmad
