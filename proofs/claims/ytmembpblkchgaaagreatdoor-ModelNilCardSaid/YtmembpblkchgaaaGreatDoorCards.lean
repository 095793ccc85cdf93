/-
  DERIVED. GIVEN WITH THE SEED: THE CARDS: each row of YtmembpblkchgaaaGreatDoorRows.lean that lists a variable, with what it lists TIED to the program's text (the seventh form; the later family's looks); each row that meets fmt, with fmt's text TOLD by the authors' own Lean function (tested against real Go, not proved from fmt's source: count such statements apart). THE CARD IS WHAT COUNTS. Prove the row's statement (the work); the ties are given (YtmembpblkchgaaaGreatDoorTie.lean); close each card by the builder's one call (the guide's Derived/Test/ToyasCard.lean, 'card_holds'). Laid BY PROGRAM, IN A SANDBOX (cutbox-door.mjs). By AI agents, Wed Nov 11 2026. No macro, syntax, notation, axiom, sorry.
-/
import Derived.Test.YtmembpblkchgaaaGreatDoorRows
import GoSem.ClaimSeven
namespace Go.Proofs.YtmembpblkchgaaaGreatDoor
namespace Rows

/-- THE TIED CARD OF 'warderlaw26.ModelNil'. -/
def modelNilCard : Claim7 := { stood := { row := modelNilRow, standIns := [], harness := (true, "4eb83e8871e4c4dead7ea4d510033a1152a58873fff224d8477bf22c3d755174"), looks := true }, kinds := [], alts := [], laidByText := true, laidKinds := [.data, .data, .data], laidTests := true, laidLooks := .later }
def ModelNilCardSaid : Prop := Claim7.holds Tryz.pinned (.plain (OpenSpec.ofChange modelNilSpec)) modelNilCard

/-- THE TIED CARD OF 'warderlaw27.LinearNil'. -/
def linearNilCard : Claim7 := { stood := { row := linearNilRow, standIns := [], harness := (true, "4eb83e8871e4c4dead7ea4d510033a1152a58873fff224d8477bf22c3d755174"), looks := true }, kinds := [], alts := [], laidByText := true, laidKinds := [.data, .data, .data], laidTests := true, laidLooks := .later }
def LinearNilCardSaid : Prop := Claim7.holds Tryz.pinned (.plain (OpenSpec.ofChange linearNilSpec)) linearNilCard

/-- THE SECOND FORM's CARD OF 'warderlaw26.ModelNil'. -/
def modelNilUptoCard : Claim7 := { stood := { row := modelNilUptoRow, standIns := [], harness := (true, "4eb83e8871e4c4dead7ea4d510033a1152a58873fff224d8477bf22c3d755174"), looks := true }, kinds := [], alts := [], laidByText := true, laidKinds := [.data, .data, .data], laidTests := true, laidLooks := .later }
def ModelNilUptoCardSaid : Prop := Claim7.holds Tryz.pinned (.plain (OpenSpec.upto modelNilSpec)) modelNilUptoCard

/-- THE SECOND FORM's CARD OF 'warderlaw27.LinearNil'. -/
def linearNilUptoCard : Claim7 := { stood := { row := linearNilUptoRow, standIns := [], harness := (true, "4eb83e8871e4c4dead7ea4d510033a1152a58873fff224d8477bf22c3d755174"), looks := true }, kinds := [], alts := [], laidByText := true, laidKinds := [.data, .data, .data], laidTests := true, laidLooks := .later }
def LinearNilUptoCardSaid : Prop := Claim7.holds Tryz.pinned (.plain (OpenSpec.upto linearNilSpec)) linearNilUptoCard
end Rows
end Go.Proofs.YtmembpblkchgaaaGreatDoor
