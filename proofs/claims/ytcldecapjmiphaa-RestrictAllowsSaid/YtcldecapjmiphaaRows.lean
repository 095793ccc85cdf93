/-
  No cell of these rows narrows 'for every input' (looked for: loops, veiled, ifaces, maps, wideKeys, modest, calm, conditions, laid).
  DERIVED. THE GIVEN ROWS OF THIS SEAT. 4 by the template 'for every input the law returns true; each argument reads behind the call as it read before'; 0 by the template 'total and deterministic' (their statements: YtcldecapjmiphaaTotals.lean).
  GIVEN WITH THE SEED: the statements are not yours to turn. If you find one false, say at which input.
  Laid BY PROGRAM, IN A SANDBOX (cutbox-rows.mjs): the forced cells as the released guide's own fill.sh prints them over the translation d851a625251077eb… (all of the seat's roots in one cut). By AI agents, Wed Nov 11 2026. No macro, syntax, notation, axiom, sorry.
-/
import Derived.Test.YtcldecapjmiphaaChecked
import GoSem.Claim
import GoSem.ClaimJoined
import GoSem.ClaimMapViews
import Derived.JoinedTies
import Derived.KernelRfl
namespace Go.Proofs.Ytcldecapjmiphaa
/- THE CELL 'sum', in the pinned program and in every row, IS THE sha256 OF THE DUMP (.gsa) THAT YtcldecapjmiphaaProg.lean LOADS. Nothing in Lean hashes anything: it is a label: what it is worth is what the hold of that sum in a sandbox is worth. -/
noncomputable def Try.pinned : Pinned := { name := "ytcldecapjmiphaa", sum := "d851a625251077ebf626f5539da5143604e71e382592aba10fd291d829b0d6b7", checked := Try.checked }
namespace Rows
def none {H : Type} : Left H := { results := [], args := [] }

/-- 'warderlaw04.QuotaNil': WHATEVER THE INPUT: true; the input reads as it did. -/
def quotaNilSpec : ChangeSpec := { name := "quotaNil", fn := fun _ => fun
  | [] => { results := [.lit (.bool true)], args := [] }
  | _ => none }
def quotaNilRow : OpenClaim := { program := "ytcldecapjmiphaa", sum := "d851a625251077ebf626f5539da5143604e71e382592aba10fd291d829b0d6b7", func := "warder/warderlaw04.QuotaNil", spec := "quotaNil", unfollowed := true, recurses := true, apart := false }
def QuotaNilSaid : Prop := quotaNilRow.holds Try.pinned (OpenSpec.ofChange quotaNilSpec)

/-- ITS FALSE NEIGHBOUR: 'it returns false'. Refute it at one input. -/
def quotaNilWrong : ChangeSpec := { name := "quotaNil", fn := fun _ => fun
  | [] => { results := [.lit (.bool false)], args := [] }
  | _ => none }
def QuotaNilWrongFalsely : Prop := quotaNilRow.holds Try.pinned (OpenSpec.ofChange quotaNilWrong)

/-- 'warderlaw16.LifeOf': WHATEVER THE INPUT: true; the input reads as it did. -/
def lifeOfSpec : ChangeSpec := { name := "lifeOf", fn := fun _ => fun
  | [d1, d2] => { results := [.lit (.bool true)], args := [d1, d2] }
  | _ => none }
def lifeOfRow : OpenClaim := { program := "ytcldecapjmiphaa", sum := "d851a625251077ebf626f5539da5143604e71e382592aba10fd291d829b0d6b7", func := "warder/warderlaw16.LifeOf", spec := "lifeOf", inPlace := ["slices.overlaps[warder/life.timer]"], unfollowed := true, recurses := true, apart := false }
def LifeOfSaid : Prop := lifeOfRow.holds Try.pinned (OpenSpec.ofChange lifeOfSpec)

/-- ITS FALSE NEIGHBOUR: 'it returns false'. Refute it at one input. -/
def lifeOfWrong : ChangeSpec := { name := "lifeOf", fn := fun _ => fun
  | [d1, d2] => { results := [.lit (.bool false)], args := [d1, d2] }
  | _ => none }
def LifeOfWrongFalsely : Prop := lifeOfRow.holds Try.pinned (OpenSpec.ofChange lifeOfWrong)

/-- 'warderlaw19.RestrictAllows': WHATEVER THE INPUT: true; the input reads as it did. -/
def restrictAllowsSpec : ChangeSpec := { name := "restrictAllows", fn := fun _ => fun
  | [d1, d2] => { results := [.lit (.bool true)], args := [d1, d2] }
  | _ => none }
def restrictAllowsRow : OpenClaim := { program := "ytcldecapjmiphaa", sum := "d851a625251077ebf626f5539da5143604e71e382592aba10fd291d829b0d6b7", func := "warder/warderlaw19.RestrictAllows", spec := "restrictAllows", apart := false }
def RestrictAllowsSaid : Prop := restrictAllowsRow.holds Try.pinned (OpenSpec.ofChange restrictAllowsSpec)

/-- ITS FALSE NEIGHBOUR: 'it returns false'. Refute it at one input. -/
def restrictAllowsWrong : ChangeSpec := { name := "restrictAllows", fn := fun _ => fun
  | [d1, d2] => { results := [.lit (.bool false)], args := [d1, d2] }
  | _ => none }
def RestrictAllowsWrongFalsely : Prop := restrictAllowsRow.holds Try.pinned (OpenSpec.ofChange restrictAllowsWrong)

/-- 'warderlaw19.RestrictAll': WHATEVER THE INPUT: true; the input reads as it did. -/
def restrictAllSpec : ChangeSpec := { name := "restrictAll", fn := fun _ => fun
  | [] => { results := [.lit (.bool true)], args := [] }
  | _ => none }
def restrictAllRow : OpenClaim := { program := "ytcldecapjmiphaa", sum := "d851a625251077ebf626f5539da5143604e71e382592aba10fd291d829b0d6b7", func := "warder/warderlaw19.RestrictAll", spec := "restrictAll", apart := false }
def RestrictAllSaid : Prop := restrictAllRow.holds Try.pinned (OpenSpec.ofChange restrictAllSpec)

/-- ITS FALSE NEIGHBOUR: 'it returns false'. Refute it at one input. -/
def restrictAllWrong : ChangeSpec := { name := "restrictAll", fn := fun _ => fun
  | [] => { results := [.lit (.bool false)], args := [] }
  | _ => none }
def RestrictAllWrongFalsely : Prop := restrictAllRow.holds Try.pinned (OpenSpec.ofChange restrictAllWrong)

/- THE SECOND FORM. 'bulk': how many values and letters a reading holds, each counted each time it is reached (what is shared counts as often as it is met; a slice's spare places count too). A statement '..UptoSaid' is the law's where the arguments, and the package variables that the reading takes, are together of bulk at most 1048576: NARROWER than '..Said'. Prove '..Said' where nothing that the law and all that it calls make is longer than what came in: it says more and counts as full. Else prove '..UptoSaid'. A law counts once. -/
mutual
def uptoBulk {H : Type} : DataW H → Nat
  | .lit (.string bytes) => bytes.length + 1
  | .lit _ => 1
  | .nil => 1
  | .ptr d => uptoBulk d + 1
  | .slice elems spare => uptoBulkAll elems + uptoBulkAll spare + 1
  | .agg parts => uptoBulkAll parts + 1
  | .iface _ d => uptoBulk d + 1
  | .map entries => uptoBulkEntries entries + 1
  | .held _ => 1
def uptoBulkAll {H : Type} : List (DataW H) → Nat
  | [] => 0
  | d :: r => uptoBulk d + uptoBulkAll r
def uptoBulkEntries {H : Type} : List (Lit × DataW H) → Nat
  | [] => 0
  | x :: r => uptoBulkEntry x + uptoBulkEntries r
def uptoBulkEntry {H : Type} : Lit × DataW H → Nat
  | (.string bytes, d) => bytes.length + uptoBulk d + 1
  | (_, d) => uptoBulk d + 1
 end
def uptoSmall : (H : Type) → List (DataW H) → Bool := fun _ ds => decide (uptoBulkAll ds ≤ 1048576)
def OpenSpec.upto (s : _root_.Go.ChangeSpec) : _root_.Go.OpenSpec := { _root_.Go.OpenSpec.ofChange s with cond := some uptoSmall }

/-- 'warderlaw04.QuotaNil', WHERE WHAT IT READS IS OF BULK AT MOST 1048576: true; the input reads as it did. -/
def quotaNilUptoRow : OpenClaim := { program := "ytcldecapjmiphaa", sum := "d851a625251077ebf626f5539da5143604e71e382592aba10fd291d829b0d6b7", func := "warder/warderlaw04.QuotaNil", spec := "quotaNil", unfollowed := true, recurses := true, apart := false, narrowed := true }
def QuotaNilUptoSaid : Prop := quotaNilUptoRow.holds Try.pinned (OpenSpec.upto quotaNilSpec)

/-- 'warderlaw16.LifeOf', WHERE WHAT IT READS IS OF BULK AT MOST 1048576: true; the input reads as it did. -/
def lifeOfUptoRow : OpenClaim := { program := "ytcldecapjmiphaa", sum := "d851a625251077ebf626f5539da5143604e71e382592aba10fd291d829b0d6b7", func := "warder/warderlaw16.LifeOf", spec := "lifeOf", inPlace := ["slices.overlaps[warder/life.timer]"], unfollowed := true, recurses := true, apart := false, narrowed := true }
def LifeOfUptoSaid : Prop := lifeOfUptoRow.holds Try.pinned (OpenSpec.upto lifeOfSpec)

/-- 'warderlaw19.RestrictAllows', WHERE WHAT IT READS IS OF BULK AT MOST 1048576: true; the input reads as it did. -/
def restrictAllowsUptoRow : OpenClaim := { program := "ytcldecapjmiphaa", sum := "d851a625251077ebf626f5539da5143604e71e382592aba10fd291d829b0d6b7", func := "warder/warderlaw19.RestrictAllows", spec := "restrictAllows", apart := false, narrowed := true }
def RestrictAllowsUptoSaid : Prop := restrictAllowsUptoRow.holds Try.pinned (OpenSpec.upto restrictAllowsSpec)

/-- 'warderlaw19.RestrictAll', WHERE WHAT IT READS IS OF BULK AT MOST 1048576: true; the input reads as it did. -/
def restrictAllUptoRow : OpenClaim := { program := "ytcldecapjmiphaa", sum := "d851a625251077ebf626f5539da5143604e71e382592aba10fd291d829b0d6b7", func := "warder/warderlaw19.RestrictAll", spec := "restrictAll", apart := false, narrowed := true }
def RestrictAllUptoSaid : Prop := restrictAllUptoRow.holds Try.pinned (OpenSpec.upto restrictAllSpec)

end Rows
end Go.Proofs.Ytcldecapjmiphaa
