/-
  No cell of these rows narrows 'for every input' (looked for: loops, veiled, ifaces, maps, wideKeys, modest, calm, conditions, laid).
  DERIVED. THE GIVEN ROWS OF THIS SEAT. 3 by the template 'for every input the law returns true; each argument reads behind the call as it read before'; 0 by the template 'total and deterministic' (their statements: YtagippfhhaelcaaTotals.lean).
  GIVEN WITH THE SEED: the statements are not yours to turn. If you find one false, say at which input.
  Laid BY PROGRAM, IN A SANDBOX (cutbox-rows.mjs): the forced cells as the released guide's own fill.sh prints them over the translation fe5219fb567872c2… (all of the seat's roots in one cut). By AI agents, Wed Nov 11 2026. No macro, syntax, notation, axiom, sorry.
-/
import Derived.Test.YtagippfhhaelcaaChecked
import GoSem.Claim
import GoSem.ClaimJoined
import GoSem.ClaimMapViews
import Derived.JoinedTies
import Derived.KernelRfl
namespace Go.Proofs.Ytagippfhhaelcaa
/- THE CELL 'sum', in the pinned program and in every row, IS THE sha256 OF THE DUMP (.gsa) THAT YtagippfhhaelcaaProg.lean LOADS. Nothing in Lean hashes anything: it is a label: what it is worth is what the hold of that sum in a sandbox is worth. -/
noncomputable def Try.pinned : Pinned := { name := "ytagippfhhaelcaa", sum := "fe5219fb567872c2e5fa0b45f40f8d0aea974ed4226ff8d615507a442edfb9a1", checked := Try.checked }
namespace Rows
def none {H : Type} : Left H := { results := [], args := [] }

/-- 'warderlaw05.PermTexts': WHATEVER THE INPUT: true; the input reads as it did. -/
def permTextsSpec : ChangeSpec := { name := "permTexts", fn := fun _ => fun
  | [d] => { results := [.lit (.bool true)], args := [d] }
  | _ => none }
def permTextsRow : OpenClaim := { program := "ytagippfhhaelcaa", sum := "fe5219fb567872c2e5fa0b45f40f8d0aea974ed4226ff8d615507a442edfb9a1", func := "warder/warderlaw05.PermTexts", spec := "permTexts", apart := false }
def PermTextsSaid : Prop := permTextsRow.holds Try.pinned (OpenSpec.ofChange permTextsSpec)

/-- ITS FALSE NEIGHBOUR: 'it returns false'. Refute it at one input. -/
def permTextsWrong : ChangeSpec := { name := "permTexts", fn := fun _ => fun
  | [d] => { results := [.lit (.bool false)], args := [d] }
  | _ => none }
def PermTextsWrongFalsely : Prop := permTextsRow.holds Try.pinned (OpenSpec.ofChange permTextsWrong)

/-- 'warderlaw05.PermReads': WHATEVER THE INPUT: true; the input reads as it did. -/
def permReadsSpec : ChangeSpec := { name := "permReads", fn := fun _ => fun
  | [d] => { results := [.lit (.bool true)], args := [d] }
  | _ => none }
def permReadsRow : OpenClaim := { program := "ytagippfhhaelcaa", sum := "fe5219fb567872c2e5fa0b45f40f8d0aea974ed4226ff8d615507a442edfb9a1", func := "warder/warderlaw05.PermReads", spec := "permReads", apart := false }
def PermReadsSaid : Prop := permReadsRow.holds Try.pinned (OpenSpec.ofChange permReadsSpec)

/-- ITS FALSE NEIGHBOUR: 'it returns false'. Refute it at one input. -/
def permReadsWrong : ChangeSpec := { name := "permReads", fn := fun _ => fun
  | [d] => { results := [.lit (.bool false)], args := [d] }
  | _ => none }
def PermReadsWrongFalsely : Prop := permReadsRow.holds Try.pinned (OpenSpec.ofChange permReadsWrong)

/-- 'warderlaw13.ExtentBad': WHATEVER THE INPUT: true; the input reads as it did. -/
def extentBadSpec : ChangeSpec := { name := "extentBad", fn := fun _ => fun
  | [d1, d2] => { results := [.lit (.bool true)], args := [d1, d2] }
  | _ => none }
def extentBadRow : OpenClaim := { program := "ytagippfhhaelcaa", sum := "fe5219fb567872c2e5fa0b45f40f8d0aea974ed4226ff8d615507a442edfb9a1", func := "warder/warderlaw13.ExtentBad", spec := "extentBad", unfollowed := true, recurses := true, apart := false }
def ExtentBadSaid : Prop := extentBadRow.holds Try.pinned (OpenSpec.ofChange extentBadSpec)

/-- ITS FALSE NEIGHBOUR: 'it returns false'. Refute it at one input. -/
def extentBadWrong : ChangeSpec := { name := "extentBad", fn := fun _ => fun
  | [d1, d2] => { results := [.lit (.bool false)], args := [d1, d2] }
  | _ => none }
def ExtentBadWrongFalsely : Prop := extentBadRow.holds Try.pinned (OpenSpec.ofChange extentBadWrong)

/- THE SECOND FORM. 'bulk': how many values and letters a reading holds, each counted each time it is reached (what is shared counts as often as it is met; a slice's spare places count too). A statement '..UptoSaid' is the law's where the arguments, and the package variables that the reading takes, are together of bulk at most 1048576: NARROWER than '..Said'. Prove '..Said' where nothing that the law and all that it calls make is longer than what came in: it says more and counts as full. Else prove '..UptoSaid'. A law counts once. -/
mutual
def uptoBulk {H : Type} : DataW H → Nat
  | .lit (.string bytes) => bytes.length + 1
  | .lit _ => 1
  | .nil => 1
  | .ptr d => uptoBulk d + 1
  | .slice elems spare => uptoBulkAll elems + uptoBulkAll spare + 1
  | .agg parts => uptoBulkAll parts + 1
  | .iface _ d => uptoBulk d + 1
  | .map entries => uptoBulkEntries entries + 1
  | .held _ => 1
def uptoBulkAll {H : Type} : List (DataW H) → Nat
  | [] => 0
  | d :: r => uptoBulk d + uptoBulkAll r
def uptoBulkEntries {H : Type} : List (Lit × DataW H) → Nat
  | [] => 0
  | x :: r => uptoBulkEntry x + uptoBulkEntries r
def uptoBulkEntry {H : Type} : Lit × DataW H → Nat
  | (.string bytes, d) => bytes.length + uptoBulk d + 1
  | (_, d) => uptoBulk d + 1
 end
def uptoSmall : (H : Type) → List (DataW H) → Bool := fun _ ds => decide (uptoBulkAll ds ≤ 1048576)
def OpenSpec.upto (s : _root_.Go.ChangeSpec) : _root_.Go.OpenSpec := { _root_.Go.OpenSpec.ofChange s with cond := some uptoSmall }

/-- 'warderlaw05.PermTexts', WHERE WHAT IT READS IS OF BULK AT MOST 1048576: true; the input reads as it did. -/
def permTextsUptoRow : OpenClaim := { program := "ytagippfhhaelcaa", sum := "fe5219fb567872c2e5fa0b45f40f8d0aea974ed4226ff8d615507a442edfb9a1", func := "warder/warderlaw05.PermTexts", spec := "permTexts", apart := false, narrowed := true }
def PermTextsUptoSaid : Prop := permTextsUptoRow.holds Try.pinned (OpenSpec.upto permTextsSpec)

/-- 'warderlaw05.PermReads', WHERE WHAT IT READS IS OF BULK AT MOST 1048576: true; the input reads as it did. -/
def permReadsUptoRow : OpenClaim := { program := "ytagippfhhaelcaa", sum := "fe5219fb567872c2e5fa0b45f40f8d0aea974ed4226ff8d615507a442edfb9a1", func := "warder/warderlaw05.PermReads", spec := "permReads", apart := false, narrowed := true }
def PermReadsUptoSaid : Prop := permReadsUptoRow.holds Try.pinned (OpenSpec.upto permReadsSpec)

/-- 'warderlaw13.ExtentBad', WHERE WHAT IT READS IS OF BULK AT MOST 1048576: true; the input reads as it did. -/
def extentBadUptoRow : OpenClaim := { program := "ytagippfhhaelcaa", sum := "fe5219fb567872c2e5fa0b45f40f8d0aea974ed4226ff8d615507a442edfb9a1", func := "warder/warderlaw13.ExtentBad", spec := "extentBad", unfollowed := true, recurses := true, apart := false, narrowed := true }
def ExtentBadUptoSaid : Prop := extentBadUptoRow.holds Try.pinned (OpenSpec.upto extentBadSpec)

end Rows
end Go.Proofs.Ytagippfhhaelcaa
