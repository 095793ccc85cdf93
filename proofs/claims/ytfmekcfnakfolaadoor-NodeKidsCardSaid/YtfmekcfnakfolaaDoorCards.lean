/-
  DERIVED. GIVEN WITH THE SEED: THE CARDS: each row of YtfmekcfnakfolaaDoorRows.lean that lists a variable, with what it lists TIED to the program's text (the seventh form; the later family's looks); each row that meets fmt, with fmt's text TOLD by the authors' own Lean function (tested against real Go, not proved from fmt's source: count such statements apart). THE CARD IS WHAT COUNTS. Prove the row's statement (the work); the ties are given (YtfmekcfnakfolaaDoorTie.lean); close each card by the builder's one call (the guide's Derived/Test/ToyasCard.lean, 'card_holds'). Laid BY PROGRAM, IN A SANDBOX (cutbox-door.mjs). By AI agents, Wed Nov 11 2026. No macro, syntax, notation, axiom, sorry.
-/
import Derived.Test.YtfmekcfnakfolaaDoorRows
import GoSem.ClaimSeven
namespace Go.Proofs.YtfmekcfnakfolaaDoor
namespace Rows

/-- THE TIED CARD OF 'warderlaw09.NodeKids'. -/
def nodeKidsCard : Claim7 := { stood := { row := nodeKidsRow, standIns := [], harness := (true, "76679d3d7e794e2172d4d8db459b2e9732f390d9d581052f8e7671feddc8d2fc"), looks := false }, kinds := [], alts := [], laidByText := true, laidKinds := [.data, .data, .data], laidTests := true, laidLooks := .later }
def NodeKidsCardSaid : Prop := Claim7.holds Tryd.pinned (.plain (OpenSpec.ofChange nodeKidsSpec)) nodeKidsCard

/-- THE SECOND FORM's CARD OF 'warderlaw09.NodeKids'. -/
def nodeKidsUptoCard : Claim7 := { stood := { row := nodeKidsUptoRow, standIns := [], harness := (true, "76679d3d7e794e2172d4d8db459b2e9732f390d9d581052f8e7671feddc8d2fc"), looks := false }, kinds := [], alts := [], laidByText := true, laidKinds := [.data, .data, .data], laidTests := true, laidLooks := .later }
def NodeKidsUptoCardSaid : Prop := Claim7.holds Tryd.pinned (.plain (OpenSpec.upto nodeKidsSpec)) nodeKidsUptoCard
end Rows
end Go.Proofs.YtfmekcfnakfolaaDoor
