/-
  DERIVED. GIVEN WITH THE SEED: THE CARDS: each row of YtimmkbfnhdcaoaaDoorRows.lean that lists a variable, with what it lists TIED to the program's text (the seventh form; the later family's looks); each row that meets fmt, with fmt's text TOLD by the authors' own Lean function (tested against real Go, not proved from fmt's source: count such statements apart). THE CARD IS WHAT COUNTS. Prove the row's statement (the work); the ties are given (YtimmkbfnhdcaoaaDoorTie.lean); close each card by the builder's one call (the guide's Derived/Test/ToyasCard.lean, 'card_holds'). Laid BY PROGRAM, IN A SANDBOX (cutbox-door.mjs). By AI agents, Wed Nov 11 2026. No macro, syntax, notation, axiom, sorry.
-/
import Derived.Test.YtimmkbfnhdcaoaaDoorRows
import GoSem.ClaimSeven
namespace Go.Proofs.YtimmkbfnhdcaoaaDoor
namespace Rows

/-- THE TIED CARD OF 'warderlaw17.SeenNil'. -/
def seenNilCard : Claim7 := { stood := { row := seenNilRow, standIns := [], harness := (true, "d681cb3dbc6c75167de69927edce919d1b84d70ffb8760fdba9204f8ad3172dd"), looks := true }, kinds := [], alts := [], laidByText := true, laidKinds := [.data, .data, .data], laidTests := true, laidLooks := .later }
def SeenNilCardSaid : Prop := Claim7.holds Tryd.pinned (.plain (OpenSpec.ofChange seenNilSpec)) seenNilCard

/-- THE SECOND FORM's CARD OF 'warderlaw17.SeenNil'. -/
def seenNilUptoCard : Claim7 := { stood := { row := seenNilUptoRow, standIns := [], harness := (true, "d681cb3dbc6c75167de69927edce919d1b84d70ffb8760fdba9204f8ad3172dd"), looks := true }, kinds := [], alts := [], laidByText := true, laidKinds := [.data, .data, .data], laidTests := true, laidLooks := .later }
def SeenNilUptoCardSaid : Prop := Claim7.holds Tryd.pinned (.plain (OpenSpec.upto seenNilSpec)) seenNilUptoCard
end Rows
end Go.Proofs.YtimmkbfnhdcaoaaDoor
