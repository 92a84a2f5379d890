/-
  DERIVED. GIVEN WITH THE SEED: THE CARDS: each row of YtfcnnolpcnacoaaGreatDoorRows.lean that lists a variable, with what it lists TIED to the program's text (the seventh form; the later family's looks); each row that meets fmt, with fmt's text TOLD by the authors' own Lean function (tested against real Go, not proved from fmt's source: count such statements apart). THE CARD IS WHAT COUNTS. Prove the row's statement (the work); the ties are given (YtfcnnolpcnacoaaGreatDoorTie.lean); close each card by the builder's one call (the guide's Derived/Test/ToyasCard.lean, 'card_holds'). Laid BY PROGRAM, IN A SANDBOX (cutbox-door.mjs). By AI agents, Wed Nov 11 2026. No macro, syntax, notation, axiom, sorry.
-/
import Derived.Test.YtfcnnolpcnacoaaGreatDoorRows
import GoSem.ClaimSeven
namespace Go.Proofs.YtfcnnolpcnacoaaGreatDoor
namespace Rows

/-- THE TIED CARD OF 'coachtop.TopResumes'. -/
def topResumesCard : Claim7 := { stood := { row := topResumesRow, standIns := [], harness := (true, "60cd282522d52a78eb82867e0f91220d92f5f7f582b50447f0a9c4ebf9678f94"), looks := true }, kinds := [], alts := [], laidByText := true, laidKinds := [.data, .data, .data, .data, .sentinel, .sentinel, .pinned], laidTests := true, laidLooks := .later }
def TopResumesCardSaid : Prop := Claim7.holds Tryz.pinned (.plain (OpenSpec.ofChange topResumesSpec)) topResumesCard

/-- THE SECOND FORM's CARD OF 'coachtop.TopResumes'. -/
def topResumesUptoCard : Claim7 := { stood := { row := topResumesUptoRow, standIns := [], harness := (true, "60cd282522d52a78eb82867e0f91220d92f5f7f582b50447f0a9c4ebf9678f94"), looks := true }, kinds := [], alts := [], laidByText := true, laidKinds := [.data, .data, .data, .data, .sentinel, .sentinel, .pinned], laidTests := true, laidLooks := .later }
def TopResumesUptoCardSaid : Prop := Claim7.holds Tryz.pinned (.plain (OpenSpec.upto topResumesSpec)) topResumesUptoCard
end Rows
end Go.Proofs.YtfcnnolpcnacoaaGreatDoor
