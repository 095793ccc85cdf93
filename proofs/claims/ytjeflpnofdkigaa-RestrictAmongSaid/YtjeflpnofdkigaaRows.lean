/-
  No cell of these rows narrows 'for every input' (looked for: loops, veiled, ifaces, maps, wideKeys, modest, calm, conditions, laid).
  DERIVED. THE GIVEN ROWS OF THIS SEAT. 2 by the template 'for every input the law returns true; each argument reads behind the call as it read before'; 0 by the template 'total and deterministic' (their statements: YtjeflpnofdkigaaTotals.lean).
  GIVEN WITH THE SEED: the statements are not yours to turn. If you find one false, say at which input.
  Laid BY PROGRAM, IN A SANDBOX (cutbox-rows.mjs): the forced cells as the released guide's own fill.sh prints them over the translation fcd514cee905a47a… (all of the seat's roots in one cut). By AI agents, Wed Nov 11 2026. No macro, syntax, notation, axiom, sorry.
-/
import Derived.Test.YtjeflpnofdkigaaChecked
import GoSem.Claim
import GoSem.ClaimJoined
import GoSem.ClaimMapViews
import Derived.JoinedTies
import Derived.KernelRfl
namespace Go.Proofs.Ytjeflpnofdkigaa
/- THE CELL 'sum', in the pinned program and in every row, IS THE sha256 OF THE DUMP (.gsa) THAT YtjeflpnofdkigaaProg.lean LOADS. Nothing in Lean hashes anything: it is a label: what it is worth is what the hold of that sum in a sandbox is worth. -/
noncomputable def Try.pinned : Pinned := { name := "ytjeflpnofdkigaa", sum := "fcd514cee905a47a066327e296380b4b26d9467c9871d7c13cbca946ba154ba3", checked := Try.checked }
namespace Rows
def none {H : Type} : Left H := { results := [], args := [] }

/-- 'warderlaw19.RestrictMeets': WHATEVER THE INPUT: true; the input reads as it did. -/
def restrictMeetsSpec : ChangeSpec := { name := "restrictMeets", fn := fun _ => fun
  | [d] => { results := [.lit (.bool true)], args := [d] }
  | _ => none }
def restrictMeetsRow : OpenClaim := { program := "ytjeflpnofdkigaa", sum := "fcd514cee905a47a066327e296380b4b26d9467c9871d7c13cbca946ba154ba3", func := "warder/warderlaw19.RestrictMeets", spec := "restrictMeets", apart := false }
def RestrictMeetsSaid : Prop := restrictMeetsRow.holds Try.pinned (OpenSpec.ofChange restrictMeetsSpec)

/-- ITS FALSE NEIGHBOUR: 'it returns false'. Refute it at one input. -/
def restrictMeetsWrong : ChangeSpec := { name := "restrictMeets", fn := fun _ => fun
  | [d] => { results := [.lit (.bool false)], args := [d] }
  | _ => none }
def RestrictMeetsWrongFalsely : Prop := restrictMeetsRow.holds Try.pinned (OpenSpec.ofChange restrictMeetsWrong)

/-- 'warderlaw19.RestrictAmong': WHATEVER THE INPUT: true; the input reads as it did. -/
def restrictAmongSpec : ChangeSpec := { name := "restrictAmong", fn := fun _ => fun
  | [d1, d2, d3] => { results := [.lit (.bool true)], args := [d1, d2, d3] }
  | _ => none }
def restrictAmongRow : OpenClaim := { program := "ytjeflpnofdkigaa", sum := "fcd514cee905a47a066327e296380b4b26d9467c9871d7c13cbca946ba154ba3", func := "warder/warderlaw19.RestrictAmong", spec := "restrictAmong", unfollowed := true, recurses := true, apart := false }
def RestrictAmongSaid : Prop := restrictAmongRow.holds Try.pinned (OpenSpec.ofChange restrictAmongSpec)

/-- ITS FALSE NEIGHBOUR: 'it returns false'. Refute it at one input. -/
def restrictAmongWrong : ChangeSpec := { name := "restrictAmong", fn := fun _ => fun
  | [d1, d2, d3] => { results := [.lit (.bool false)], args := [d1, d2, d3] }
  | _ => none }
def RestrictAmongWrongFalsely : Prop := restrictAmongRow.holds Try.pinned (OpenSpec.ofChange restrictAmongWrong)

/- THE SECOND FORM. 'bulk': how many values and letters a reading holds, each counted each time it is reached (what is shared counts as often as it is met; a slice's spare places count too). A statement '..UptoSaid' is the law's where the arguments, and the package variables that the reading takes, are together of bulk at most 1048576: NARROWER than '..Said'. Prove '..Said' where nothing that the law and all that it calls make is longer than what came in: it says more and counts as full. Else prove '..UptoSaid'. A law counts once. -/
mutual
def uptoBulk {H : Type} : DataW H → Nat
  | .lit (.string bytes) => bytes.length + 1
  | .lit _ => 1
  | .nil => 1
  | .ptr d => uptoBulk d + 1
  | .slice elems spare => uptoBulkAll elems + uptoBulkAll spare + 1
  | .agg parts => uptoBulkAll parts + 1
  | .iface _ d => uptoBulk d + 1
  | .map entries => uptoBulkEntries entries + 1
  | .held _ => 1
def uptoBulkAll {H : Type} : List (DataW H) → Nat
  | [] => 0
  | d :: r => uptoBulk d + uptoBulkAll r
def uptoBulkEntries {H : Type} : List (Lit × DataW H) → Nat
  | [] => 0
  | x :: r => uptoBulkEntry x + uptoBulkEntries r
def uptoBulkEntry {H : Type} : Lit × DataW H → Nat
  | (.string bytes, d) => bytes.length + uptoBulk d + 1
  | (_, d) => uptoBulk d + 1
 end
def uptoSmall : (H : Type) → List (DataW H) → Bool := fun _ ds => decide (uptoBulkAll ds ≤ 1048576)
def OpenSpec.upto (s : _root_.Go.ChangeSpec) : _root_.Go.OpenSpec := { _root_.Go.OpenSpec.ofChange s with cond := some uptoSmall }

/-- 'warderlaw19.RestrictMeets', WHERE WHAT IT READS IS OF BULK AT MOST 1048576: true; the input reads as it did. -/
def restrictMeetsUptoRow : OpenClaim := { program := "ytjeflpnofdkigaa", sum := "fcd514cee905a47a066327e296380b4b26d9467c9871d7c13cbca946ba154ba3", func := "warder/warderlaw19.RestrictMeets", spec := "restrictMeets", apart := false, narrowed := true }
def RestrictMeetsUptoSaid : Prop := restrictMeetsUptoRow.holds Try.pinned (OpenSpec.upto restrictMeetsSpec)

/-- 'warderlaw19.RestrictAmong', WHERE WHAT IT READS IS OF BULK AT MOST 1048576: true; the input reads as it did. -/
def restrictAmongUptoRow : OpenClaim := { program := "ytjeflpnofdkigaa", sum := "fcd514cee905a47a066327e296380b4b26d9467c9871d7c13cbca946ba154ba3", func := "warder/warderlaw19.RestrictAmong", spec := "restrictAmong", unfollowed := true, recurses := true, apart := false, narrowed := true }
def RestrictAmongUptoSaid : Prop := restrictAmongUptoRow.holds Try.pinned (OpenSpec.upto restrictAmongSpec)

end Rows
end Go.Proofs.Ytjeflpnofdkigaa
