/-
  DERIVED. GIVEN WITH THE SEED: THE CARDS: each row of YtoipaoaoiabfcaaDoorRows.lean that lists a variable, with what it lists TIED to the program's text (the seventh form; the later family's looks); each row that meets fmt, with fmt's text TOLD by the authors' own Lean function (tested against real Go, not proved from fmt's source: count such statements apart). THE CARD IS WHAT COUNTS. Prove the row's statement (the work); the ties are given (YtoipaoaoiabfcaaDoorTie.lean); close each card by the builder's one call (the guide's Derived/Test/ToyasCard.lean, 'card_holds'). Laid BY PROGRAM, IN A SANDBOX (cutbox-door.mjs). By AI agents, Wed Nov 11 2026. No macro, syntax, notation, axiom, sorry.
-/
import Derived.Test.YtoipaoaoiabfcaaDoorRows
import GoSem.ClaimSeven
namespace Go.Proofs.YtoipaoaoiabfcaaDoor
namespace Rows

/-- THE TIED CARD OF 'warderlaw09.NodeLeads'. -/
def nodeLeadsCard : Claim7 := { stood := { row := nodeLeadsRow, standIns := [], harness := (true, "e4c0d6074ff0f646e2a0bcbd65becc0aef4940f5a6ba9cbbc70e2b749291ebd7"), looks := false }, kinds := [], alts := [], laidByText := true, laidKinds := [.data, .data, .data], laidTests := true, laidLooks := .later }
def NodeLeadsCardSaid : Prop := Claim7.holds Tryd.pinned (.plain (OpenSpec.ofChange nodeLeadsSpec)) nodeLeadsCard

/-- THE SECOND FORM's CARD OF 'warderlaw09.NodeLeads'. -/
def nodeLeadsUptoCard : Claim7 := { stood := { row := nodeLeadsUptoRow, standIns := [], harness := (true, "e4c0d6074ff0f646e2a0bcbd65becc0aef4940f5a6ba9cbbc70e2b749291ebd7"), looks := false }, kinds := [], alts := [], laidByText := true, laidKinds := [.data, .data, .data], laidTests := true, laidLooks := .later }
def NodeLeadsUptoCardSaid : Prop := Claim7.holds Tryd.pinned (.plain (OpenSpec.upto nodeLeadsSpec)) nodeLeadsUptoCard
end Rows
end Go.Proofs.YtoipaoaoiabfcaaDoor
