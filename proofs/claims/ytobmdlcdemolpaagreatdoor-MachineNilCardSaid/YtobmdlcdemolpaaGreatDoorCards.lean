/-
  DERIVED. GIVEN WITH THE SEED: THE CARDS: each row of YtobmdlcdemolpaaGreatDoorRows.lean that lists a variable, with what it lists TIED to the program's text (the seventh form; the later family's looks); each row that meets fmt, with fmt's text TOLD by the authors' own Lean function (tested against real Go, not proved from fmt's source: count such statements apart). THE CARD IS WHAT COUNTS. Prove the row's statement (the work); the ties are given (YtobmdlcdemolpaaGreatDoorTie.lean); close each card by the builder's one call (the guide's Derived/Test/ToyasCard.lean, 'card_holds'). Laid BY PROGRAM, IN A SANDBOX (cutbox-door.mjs). By AI agents, Wed Nov 11 2026. No macro, syntax, notation, axiom, sorry.
-/
import Derived.Test.YtobmdlcdemolpaaGreatDoorRows
import GoSem.ClaimSeven
namespace Go.Proofs.YtobmdlcdemolpaaGreatDoor
namespace Rows

/-- THE TIED CARD OF 'warderlaw23.CallNil'. -/
def callNilCard : Claim7 := { stood := { row := callNilRow, standIns := [], harness := (true, "eff772d3b18360b34e1e282c5ec6a18765641dc27c1c3a31505b3664b8d64d06"), looks := true }, kinds := [], alts := [], laidByText := true, laidKinds := [.data, .data, .data], laidTests := true, laidLooks := .later }
def CallNilCardSaid : Prop := Claim7.holds Tryz.pinned (.plain (OpenSpec.ofChange callNilSpec)) callNilCard

/-- THE TIED CARD OF 'warderlaw25.MachineNil'. -/
def machineNilCard : Claim7 := { stood := { row := machineNilRow, standIns := [], harness := (true, "eff772d3b18360b34e1e282c5ec6a18765641dc27c1c3a31505b3664b8d64d06"), looks := true }, kinds := [], alts := [], laidByText := true, laidKinds := [.data, .data, .data], laidTests := true, laidLooks := .later }
def MachineNilCardSaid : Prop := Claim7.holds Tryz.pinned (.plain (OpenSpec.ofChange machineNilSpec)) machineNilCard

/-- THE SECOND FORM's CARD OF 'warderlaw23.CallNil'. -/
def callNilUptoCard : Claim7 := { stood := { row := callNilUptoRow, standIns := [], harness := (true, "eff772d3b18360b34e1e282c5ec6a18765641dc27c1c3a31505b3664b8d64d06"), looks := true }, kinds := [], alts := [], laidByText := true, laidKinds := [.data, .data, .data], laidTests := true, laidLooks := .later }
def CallNilUptoCardSaid : Prop := Claim7.holds Tryz.pinned (.plain (OpenSpec.upto callNilSpec)) callNilUptoCard

/-- THE SECOND FORM's CARD OF 'warderlaw25.MachineNil'. -/
def machineNilUptoCard : Claim7 := { stood := { row := machineNilUptoRow, standIns := [], harness := (true, "eff772d3b18360b34e1e282c5ec6a18765641dc27c1c3a31505b3664b8d64d06"), looks := true }, kinds := [], alts := [], laidByText := true, laidKinds := [.data, .data, .data], laidTests := true, laidLooks := .later }
def MachineNilUptoCardSaid : Prop := Claim7.holds Tryz.pinned (.plain (OpenSpec.upto machineNilSpec)) machineNilUptoCard
end Rows
end Go.Proofs.YtobmdlcdemolpaaGreatDoor
