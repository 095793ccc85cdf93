/-
  DERIVED. GIVEN WITH THE SEED: THE CARDS: each row of YteiahcfamadkoaaDoorRows.lean that lists a variable, with what it lists TIED to the program's text (the seventh form; the later family's looks); each row that meets fmt, with fmt's text TOLD by the authors' own Lean function (tested against real Go, not proved from fmt's source: count such statements apart). THE CARD IS WHAT COUNTS. Prove the row's statement (the work); the ties are given (YteiahcfamadkoaaDoorTie.lean); close each card by the builder's one call (the guide's Derived/Test/ToyasCard.lean, 'card_holds'). Laid BY PROGRAM, IN A SANDBOX (cutbox-door.mjs). By AI agents, Wed Nov 11 2026. No macro, syntax, notation, axiom, sorry.
-/
import Derived.Test.YteiahcfamadkoaaDoorRows
import GoSem.ClaimSeven
namespace Go.Proofs.YteiahcfamadkoaaDoor
namespace Rows

/-- THE TIED CARD OF 'warderlaw09.NodeMay'. -/
def nodeMayCard : Claim7 := { stood := { row := nodeMayRow, standIns := [], harness := (true, "e1beeed3f3a02236054e97e06e4de67d70cc6dffd3975d32908fb1c452ba196f"), looks := true }, kinds := [], alts := [], laidByText := true, laidKinds := [.data, .data, .data], laidTests := true, laidLooks := .later }
def NodeMayCardSaid : Prop := Claim7.holds Tryd.pinned (.plain (OpenSpec.ofChange nodeMaySpec)) nodeMayCard

/-- THE TIED CARD OF 'warderlaw09.NodeParts'. -/
def nodePartsCard : Claim7 := { stood := { row := nodePartsRow, standIns := [], harness := (true, "e1beeed3f3a02236054e97e06e4de67d70cc6dffd3975d32908fb1c452ba196f"), looks := true }, kinds := [], alts := [], laidByText := true, laidKinds := [.data, .data, .data], laidTests := true, laidLooks := .later }
def NodePartsCardSaid : Prop := Claim7.holds Tryd.pinned (.plain (OpenSpec.ofChange nodePartsSpec)) nodePartsCard

/-- THE TIED CARD OF 'warderlaw09.NodeLooks'. -/
def nodeLooksCard : Claim7 := { stood := { row := nodeLooksRow, standIns := [], harness := (true, "e1beeed3f3a02236054e97e06e4de67d70cc6dffd3975d32908fb1c452ba196f"), looks := true }, kinds := [], alts := [], laidByText := true, laidKinds := [.data, .data, .data], laidTests := true, laidLooks := .later }
def NodeLooksCardSaid : Prop := Claim7.holds Tryd.pinned (.plain (OpenSpec.ofChange nodeLooksSpec)) nodeLooksCard

/-- THE TIED CARD OF 'warderlaw09.NodeTexts'. -/
def nodeTextsCard : Claim7 := { stood := { row := nodeTextsRow, standIns := [], harness := (true, "e1beeed3f3a02236054e97e06e4de67d70cc6dffd3975d32908fb1c452ba196f"), looks := true }, kinds := [], alts := [], laidByText := true, laidKinds := [.data, .data, .data, .sentinel, .sentinel], laidTests := true, laidLooks := .later }
def NodeTextsCardSaid : Prop := Claim7.holds Tryd.pinned (.plain (OpenSpec.ofChange nodeTextsSpec)) nodeTextsCard

/-- THE TIED CARD OF 'warderlaw09.NodeReads'. -/
def nodeReadsCard : Claim7 := { stood := { row := nodeReadsRow, standIns := [], harness := (true, "e1beeed3f3a02236054e97e06e4de67d70cc6dffd3975d32908fb1c452ba196f"), looks := true }, kinds := [], alts := [], laidByText := true, laidKinds := [.data, .data, .data, .sentinel, .sentinel], laidTests := true, laidLooks := .later }
def NodeReadsCardSaid : Prop := Claim7.holds Tryd.pinned (.plain (OpenSpec.ofChange nodeReadsSpec)) nodeReadsCard

/-- THE SECOND FORM's CARD OF 'warderlaw09.NodeMay'. -/
def nodeMayUptoCard : Claim7 := { stood := { row := nodeMayUptoRow, standIns := [], harness := (true, "e1beeed3f3a02236054e97e06e4de67d70cc6dffd3975d32908fb1c452ba196f"), looks := true }, kinds := [], alts := [], laidByText := true, laidKinds := [.data, .data, .data], laidTests := true, laidLooks := .later }
def NodeMayUptoCardSaid : Prop := Claim7.holds Tryd.pinned (.plain (OpenSpec.upto nodeMaySpec)) nodeMayUptoCard

/-- THE SECOND FORM's CARD OF 'warderlaw09.NodeParts'. -/
def nodePartsUptoCard : Claim7 := { stood := { row := nodePartsUptoRow, standIns := [], harness := (true, "e1beeed3f3a02236054e97e06e4de67d70cc6dffd3975d32908fb1c452ba196f"), looks := true }, kinds := [], alts := [], laidByText := true, laidKinds := [.data, .data, .data], laidTests := true, laidLooks := .later }
def NodePartsUptoCardSaid : Prop := Claim7.holds Tryd.pinned (.plain (OpenSpec.upto nodePartsSpec)) nodePartsUptoCard

/-- THE SECOND FORM's CARD OF 'warderlaw09.NodeLooks'. -/
def nodeLooksUptoCard : Claim7 := { stood := { row := nodeLooksUptoRow, standIns := [], harness := (true, "e1beeed3f3a02236054e97e06e4de67d70cc6dffd3975d32908fb1c452ba196f"), looks := true }, kinds := [], alts := [], laidByText := true, laidKinds := [.data, .data, .data], laidTests := true, laidLooks := .later }
def NodeLooksUptoCardSaid : Prop := Claim7.holds Tryd.pinned (.plain (OpenSpec.upto nodeLooksSpec)) nodeLooksUptoCard

/-- THE SECOND FORM's CARD OF 'warderlaw09.NodeTexts'. -/
def nodeTextsUptoCard : Claim7 := { stood := { row := nodeTextsUptoRow, standIns := [], harness := (true, "e1beeed3f3a02236054e97e06e4de67d70cc6dffd3975d32908fb1c452ba196f"), looks := true }, kinds := [], alts := [], laidByText := true, laidKinds := [.data, .data, .data, .sentinel, .sentinel], laidTests := true, laidLooks := .later }
def NodeTextsUptoCardSaid : Prop := Claim7.holds Tryd.pinned (.plain (OpenSpec.upto nodeTextsSpec)) nodeTextsUptoCard

/-- THE SECOND FORM's CARD OF 'warderlaw09.NodeReads'. -/
def nodeReadsUptoCard : Claim7 := { stood := { row := nodeReadsUptoRow, standIns := [], harness := (true, "e1beeed3f3a02236054e97e06e4de67d70cc6dffd3975d32908fb1c452ba196f"), looks := true }, kinds := [], alts := [], laidByText := true, laidKinds := [.data, .data, .data, .sentinel, .sentinel], laidTests := true, laidLooks := .later }
def NodeReadsUptoCardSaid : Prop := Claim7.holds Tryd.pinned (.plain (OpenSpec.upto nodeReadsSpec)) nodeReadsUptoCard
end Rows
end Go.Proofs.YteiahcfamadkoaaDoor
