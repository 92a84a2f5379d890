/-
  No cell of these rows narrows 'for every input' (looked for: loops, veiled, ifaces, maps, wideKeys, modest, calm, conditions, laid).
  DERIVED. THE GIVEN ROWS OF THIS SEAT. 6 by the template 'for every input the law returns true; each argument reads behind the call as it read before'; 0 by the template 'total and deterministic' (their statements: YtimciamfgpdjlaaGreatTotals.lean).
  GIVEN WITH THE SEED: the statements are not yours to turn. If you find one false, say at which input.
  Laid BY PROGRAM, IN A SANDBOX (cutbox-rows.mjs): the forced cells as the released guide's own fill.sh prints them over the translation 5d5fe4fc894f73d4… (all of the seat's roots in one cut). By AI agents, Wed Nov 11 2026. No macro, syntax, notation, axiom, sorry.
-/
import Derived.Test.YtimciamfgpdjlaaGreatChecked
import GoSem.Claim
import GoSem.ClaimJoined
import GoSem.ClaimMapViews
import Derived.JoinedTies
import Derived.KernelRfl
namespace Go.Proofs.YtimciamfgpdjlaaGreat
/- THE CELL 'sum', in the pinned program and in every row, IS THE sha256 OF THE DUMP (.gsa) THAT YtimciamfgpdjlaaGreatProg.lean LOADS. Nothing in Lean hashes anything: it is a label: what it is worth is what the hold of that sum in a sandbox is worth. -/
noncomputable def Tryz.pinned : Pinned := { name := "ytimciamfgpdjlaagreat", sum := "5d5fe4fc894f73d4c0983c3f44764b3d1c5783150c89d87e7bdc434c50152a4b", checked := Tryz.checked }
namespace Rows
def none {H : Type} : Left H := { results := [], args := [] }

/-- 'coachlaw.SpotSays': WHATEVER THE INPUT: true; the input reads as it did. -/
def spotSaysSpec : ChangeSpec := { name := "spotSays", fn := fun _ => fun
  | [d1, d2, d3, d4, d5, d6] => { results := [.lit (.bool true)], args := [d1, d2, d3, d4, d5, d6] }
  | _ => none }
def spotSaysRow : OpenClaim := { program := "ytimciamfgpdjlaagreat", sum := "5d5fe4fc894f73d4c0983c3f44764b3d1c5783150c89d87e7bdc434c50152a4b", func := "lessonbook/coachlaw.SpotSays", spec := "spotSays", unfollowed := true, recurses := true, named := ["math/bits.divideError", "math/bits.overflowError"], apart := false }
def SpotSaysSaid : Prop := spotSaysRow.holds Tryz.pinned (OpenSpec.ofChange spotSaysSpec)

/-- ITS FALSE NEIGHBOUR: 'it returns false'. Refute it at one input. -/
def spotSaysWrong : ChangeSpec := { name := "spotSays", fn := fun _ => fun
  | [d1, d2, d3, d4, d5, d6] => { results := [.lit (.bool false)], args := [d1, d2, d3, d4, d5, d6] }
  | _ => none }
def SpotSaysWrongFalsely : Prop := spotSaysRow.holds Tryz.pinned (OpenSpec.ofChange spotSaysWrong)

/-- 'coachkeep.SpotHonest': WHATEVER THE INPUT: true; the input reads as it did. -/
def spotHonestSpec : ChangeSpec := { name := "spotHonest", fn := fun _ => fun
  | [d1, d2, d3, d4] => { results := [.lit (.bool true)], args := [d1, d2, d3, d4] }
  | _ => none }
def spotHonestRow : OpenClaim := { program := "ytimciamfgpdjlaagreat", sum := "5d5fe4fc894f73d4c0983c3f44764b3d1c5783150c89d87e7bdc434c50152a4b", func := "lessonbook/coachkeep.SpotHonest", spec := "spotHonest", unfollowed := true, recurses := true, named := ["math/bits.divideError", "math/bits.overflowError"], apart := false }
def SpotHonestSaid : Prop := spotHonestRow.holds Tryz.pinned (OpenSpec.ofChange spotHonestSpec)

/-- ITS FALSE NEIGHBOUR: 'it returns false'. Refute it at one input. -/
def spotHonestWrong : ChangeSpec := { name := "spotHonest", fn := fun _ => fun
  | [d1, d2, d3, d4] => { results := [.lit (.bool false)], args := [d1, d2, d3, d4] }
  | _ => none }
def SpotHonestWrongFalsely : Prop := spotHonestRow.holds Tryz.pinned (OpenSpec.ofChange spotHonestWrong)

/-- 'coachkeep.ListsOwn': WHATEVER THE INPUT: true; the input reads as it did. -/
def listsOwnSpec : ChangeSpec := { name := "listsOwn", fn := fun _ => fun
  | [d1, d2, d3] => { results := [.lit (.bool true)], args := [d1, d2, d3] }
  | _ => none }
def listsOwnRow : OpenClaim := { program := "ytimciamfgpdjlaagreat", sum := "5d5fe4fc894f73d4c0983c3f44764b3d1c5783150c89d87e7bdc434c50152a4b", func := "lessonbook/coachkeep.ListsOwn", spec := "listsOwn", unfollowed := true, recurses := true, named := ["math/bits.divideError", "math/bits.overflowError"], apart := false }
def ListsOwnSaid : Prop := listsOwnRow.holds Tryz.pinned (OpenSpec.ofChange listsOwnSpec)

/-- ITS FALSE NEIGHBOUR: 'it returns false'. Refute it at one input. -/
def listsOwnWrong : ChangeSpec := { name := "listsOwn", fn := fun _ => fun
  | [d1, d2, d3] => { results := [.lit (.bool false)], args := [d1, d2, d3] }
  | _ => none }
def ListsOwnWrongFalsely : Prop := listsOwnRow.holds Tryz.pinned (OpenSpec.ofChange listsOwnWrong)

/-- 'coachtop.TopConvicts': WHATEVER THE INPUT: true; the input reads as it did. -/
def topConvictsSpec : ChangeSpec := { name := "topConvicts", fn := fun _ => fun
  | [d1, d2, d3, d4] => { results := [.lit (.bool true)], args := [d1, d2, d3, d4] }
  | _ => none }
def topConvictsRow : OpenClaim := { program := "ytimciamfgpdjlaagreat", sum := "5d5fe4fc894f73d4c0983c3f44764b3d1c5783150c89d87e7bdc434c50152a4b", func := "lessonbook/coachtop.TopConvicts", spec := "topConvicts", unfollowed := true, recurses := true, named := ["math/bits.divideError", "math/bits.overflowError"], apart := false }
def TopConvictsSaid : Prop := topConvictsRow.holds Tryz.pinned (OpenSpec.ofChange topConvictsSpec)

/-- ITS FALSE NEIGHBOUR: 'it returns false'. Refute it at one input. -/
def topConvictsWrong : ChangeSpec := { name := "topConvicts", fn := fun _ => fun
  | [d1, d2, d3, d4] => { results := [.lit (.bool false)], args := [d1, d2, d3, d4] }
  | _ => none }
def TopConvictsWrongFalsely : Prop := topConvictsRow.holds Tryz.pinned (OpenSpec.ofChange topConvictsWrong)

/-- 'coachtop.TopReplays': WHATEVER THE INPUT: true; the input reads as it did. -/
def topReplaysSpec : ChangeSpec := { name := "topReplays", fn := fun _ => fun
  | [d1, d2, d3, d4, d5] => { results := [.lit (.bool true)], args := [d1, d2, d3, d4, d5] }
  | _ => none }
def topReplaysRow : OpenClaim := { program := "ytimciamfgpdjlaagreat", sum := "5d5fe4fc894f73d4c0983c3f44764b3d1c5783150c89d87e7bdc434c50152a4b", func := "lessonbook/coachtop.TopReplays", spec := "topReplays", unfollowed := true, recurses := true, named := ["math/bits.divideError", "math/bits.overflowError"], apart := false }
def TopReplaysSaid : Prop := topReplaysRow.holds Tryz.pinned (OpenSpec.ofChange topReplaysSpec)

/-- ITS FALSE NEIGHBOUR: 'it returns false'. Refute it at one input. -/
def topReplaysWrong : ChangeSpec := { name := "topReplays", fn := fun _ => fun
  | [d1, d2, d3, d4, d5] => { results := [.lit (.bool false)], args := [d1, d2, d3, d4, d5] }
  | _ => none }
def TopReplaysWrongFalsely : Prop := topReplaysRow.holds Tryz.pinned (OpenSpec.ofChange topReplaysWrong)

/-- 'coachtop.TopFirst': WHATEVER THE INPUT: true; the input reads as it did. -/
def topFirstSpec : ChangeSpec := { name := "topFirst", fn := fun _ => fun
  | [d1, d2, d3, d4] => { results := [.lit (.bool true)], args := [d1, d2, d3, d4] }
  | _ => none }
def topFirstRow : OpenClaim := { program := "ytimciamfgpdjlaagreat", sum := "5d5fe4fc894f73d4c0983c3f44764b3d1c5783150c89d87e7bdc434c50152a4b", func := "lessonbook/coachtop.TopFirst", spec := "topFirst", unfollowed := true, recurses := true, named := ["math/bits.divideError", "math/bits.overflowError"], apart := false }
def TopFirstSaid : Prop := topFirstRow.holds Tryz.pinned (OpenSpec.ofChange topFirstSpec)

/-- ITS FALSE NEIGHBOUR: 'it returns false'. Refute it at one input. -/
def topFirstWrong : ChangeSpec := { name := "topFirst", fn := fun _ => fun
  | [d1, d2, d3, d4] => { results := [.lit (.bool false)], args := [d1, d2, d3, d4] }
  | _ => none }
def TopFirstWrongFalsely : Prop := topFirstRow.holds Tryz.pinned (OpenSpec.ofChange topFirstWrong)

/- THE SECOND FORM. 'bulk': how many values and letters a reading holds, each counted each time it is reached (what is shared counts as often as it is met; a slice's spare places count too). A statement '..UptoSaid' is the law's where the arguments, and the package variables that the reading takes, are together of bulk at most 1048576: NARROWER than '..Said'. Prove '..Said' where nothing that the law and all that it calls make is longer than what came in: it says more and counts as full. Else prove '..UptoSaid'. A law counts once. -/
mutual
def uptoBulk {H : Type} : DataW H → Nat
  | .lit (.string bytes) => bytes.length + 1
  | .lit _ => 1
  | .nil => 1
  | .ptr d => uptoBulk d + 1
  | .slice elems spare => uptoBulkAll elems + uptoBulkAll spare + 1
  | .agg parts => uptoBulkAll parts + 1
  | .iface _ d => uptoBulk d + 1
  | .map entries => uptoBulkEntries entries + 1
  | .held _ => 1
def uptoBulkAll {H : Type} : List (DataW H) → Nat
  | [] => 0
  | d :: r => uptoBulk d + uptoBulkAll r
def uptoBulkEntries {H : Type} : List (Lit × DataW H) → Nat
  | [] => 0
  | x :: r => uptoBulkEntry x + uptoBulkEntries r
def uptoBulkEntry {H : Type} : Lit × DataW H → Nat
  | (.string bytes, d) => bytes.length + uptoBulk d + 1
  | (_, d) => uptoBulk d + 1
 end
def uptoSmall : (H : Type) → List (DataW H) → Bool := fun _ ds => decide (uptoBulkAll ds ≤ 1048576)
def OpenSpec.upto (s : _root_.Go.ChangeSpec) : _root_.Go.OpenSpec := { _root_.Go.OpenSpec.ofChange s with cond := some uptoSmall }

/-- 'coachlaw.SpotSays', WHERE WHAT IT READS IS OF BULK AT MOST 1048576: true; the input reads as it did. -/
def spotSaysUptoRow : OpenClaim := { program := "ytimciamfgpdjlaagreat", sum := "5d5fe4fc894f73d4c0983c3f44764b3d1c5783150c89d87e7bdc434c50152a4b", func := "lessonbook/coachlaw.SpotSays", spec := "spotSays", unfollowed := true, recurses := true, named := ["math/bits.divideError", "math/bits.overflowError"], apart := false, narrowed := true }
def SpotSaysUptoSaid : Prop := spotSaysUptoRow.holds Tryz.pinned (OpenSpec.upto spotSaysSpec)

/-- 'coachkeep.SpotHonest', WHERE WHAT IT READS IS OF BULK AT MOST 1048576: true; the input reads as it did. -/
def spotHonestUptoRow : OpenClaim := { program := "ytimciamfgpdjlaagreat", sum := "5d5fe4fc894f73d4c0983c3f44764b3d1c5783150c89d87e7bdc434c50152a4b", func := "lessonbook/coachkeep.SpotHonest", spec := "spotHonest", unfollowed := true, recurses := true, named := ["math/bits.divideError", "math/bits.overflowError"], apart := false, narrowed := true }
def SpotHonestUptoSaid : Prop := spotHonestUptoRow.holds Tryz.pinned (OpenSpec.upto spotHonestSpec)

/-- 'coachkeep.ListsOwn', WHERE WHAT IT READS IS OF BULK AT MOST 1048576: true; the input reads as it did. -/
def listsOwnUptoRow : OpenClaim := { program := "ytimciamfgpdjlaagreat", sum := "5d5fe4fc894f73d4c0983c3f44764b3d1c5783150c89d87e7bdc434c50152a4b", func := "lessonbook/coachkeep.ListsOwn", spec := "listsOwn", unfollowed := true, recurses := true, named := ["math/bits.divideError", "math/bits.overflowError"], apart := false, narrowed := true }
def ListsOwnUptoSaid : Prop := listsOwnUptoRow.holds Tryz.pinned (OpenSpec.upto listsOwnSpec)

/-- 'coachtop.TopConvicts', WHERE WHAT IT READS IS OF BULK AT MOST 1048576: true; the input reads as it did. -/
def topConvictsUptoRow : OpenClaim := { program := "ytimciamfgpdjlaagreat", sum := "5d5fe4fc894f73d4c0983c3f44764b3d1c5783150c89d87e7bdc434c50152a4b", func := "lessonbook/coachtop.TopConvicts", spec := "topConvicts", unfollowed := true, recurses := true, named := ["math/bits.divideError", "math/bits.overflowError"], apart := false, narrowed := true }
def TopConvictsUptoSaid : Prop := topConvictsUptoRow.holds Tryz.pinned (OpenSpec.upto topConvictsSpec)

/-- 'coachtop.TopReplays', WHERE WHAT IT READS IS OF BULK AT MOST 1048576: true; the input reads as it did. -/
def topReplaysUptoRow : OpenClaim := { program := "ytimciamfgpdjlaagreat", sum := "5d5fe4fc894f73d4c0983c3f44764b3d1c5783150c89d87e7bdc434c50152a4b", func := "lessonbook/coachtop.TopReplays", spec := "topReplays", unfollowed := true, recurses := true, named := ["math/bits.divideError", "math/bits.overflowError"], apart := false, narrowed := true }
def TopReplaysUptoSaid : Prop := topReplaysUptoRow.holds Tryz.pinned (OpenSpec.upto topReplaysSpec)

/-- 'coachtop.TopFirst', WHERE WHAT IT READS IS OF BULK AT MOST 1048576: true; the input reads as it did. -/
def topFirstUptoRow : OpenClaim := { program := "ytimciamfgpdjlaagreat", sum := "5d5fe4fc894f73d4c0983c3f44764b3d1c5783150c89d87e7bdc434c50152a4b", func := "lessonbook/coachtop.TopFirst", spec := "topFirst", unfollowed := true, recurses := true, named := ["math/bits.divideError", "math/bits.overflowError"], apart := false, narrowed := true }
def TopFirstUptoSaid : Prop := topFirstUptoRow.holds Tryz.pinned (OpenSpec.upto topFirstSpec)

end Rows
end Go.Proofs.YtimciamfgpdjlaaGreat
