/-
  No cell of these rows narrows 'for every input' (looked for: loops, veiled, ifaces, maps, wideKeys, modest, calm, conditions, laid).
  DERIVED. THE GIVEN ROWS OF THIS SEAT. 8 by the template 'for every input the law returns true; each argument reads behind the call as it read before'; 0 by the template 'total and deterministic' (their statements: YtiddleajkbiojaaTotals.lean).
  GIVEN WITH THE SEED: the statements are not yours to turn. If you find one false, say at which input.
  Laid BY PROGRAM, IN A SANDBOX (cutbox-rows.mjs): the forced cells as the released guide's own fill.sh prints them over the translation 4e494e445924dc1a… (all of the seat's roots in one cut). By AI agents, Wed Nov 11 2026. No macro, syntax, notation, axiom, sorry.
-/
import Derived.Test.YtiddleajkbiojaaChecked
import GoSem.Claim
import GoSem.ClaimJoined
import GoSem.ClaimMapViews
import Derived.JoinedTies
import Derived.KernelRfl
namespace Go.Proofs.Ytiddleajkbiojaa
/- THE CELL 'sum', in the pinned program and in every row, IS THE sha256 OF THE DUMP (.gsa) THAT YtiddleajkbiojaaProg.lean LOADS. Nothing in Lean hashes anything: it is a label: what it is worth is what the hold of that sum in a sandbox is worth. -/
noncomputable def Try.pinned : Pinned := { name := "ytiddleajkbiojaa", sum := "4e494e445924dc1a6ac20f07567154b08f35f048e34100d14195a7a9b5b1ae7a", checked := Try.checked }
namespace Rows
def none {H : Type} : Left H := { results := [], args := [] }

/-- 'warderlaw16.LifeOf': WHATEVER THE INPUT: true; the input reads as it did. -/
def lifeOfSpec : ChangeSpec := { name := "lifeOf", fn := fun _ => fun
  | [d1, d2] => { results := [.lit (.bool true)], args := [d1, d2] }
  | _ => none }
def lifeOfRow : OpenClaim := { program := "ytiddleajkbiojaa", sum := "4e494e445924dc1a6ac20f07567154b08f35f048e34100d14195a7a9b5b1ae7a", func := "warder/warderlaw16.LifeOf", spec := "lifeOf", inPlace := ["slices.overlaps[warder/life.timer]"], unfollowed := true, recurses := true, apart := false }
def LifeOfSaid : Prop := lifeOfRow.holds Try.pinned (OpenSpec.ofChange lifeOfSpec)

/-- ITS FALSE NEIGHBOUR: 'it returns false'. Refute it at one input. -/
def lifeOfWrong : ChangeSpec := { name := "lifeOf", fn := fun _ => fun
  | [d1, d2] => { results := [.lit (.bool false)], args := [d1, d2] }
  | _ => none }
def LifeOfWrongFalsely : Prop := lifeOfRow.holds Try.pinned (OpenSpec.ofChange lifeOfWrong)

/-- 'warderlaw16.LifeStays': WHATEVER THE INPUT: true; the input reads as it did. -/
def lifeStaysSpec : ChangeSpec := { name := "lifeStays", fn := fun _ => fun
  | [d1, d2, d3] => { results := [.lit (.bool true)], args := [d1, d2, d3] }
  | _ => none }
def lifeStaysRow : OpenClaim := { program := "ytiddleajkbiojaa", sum := "4e494e445924dc1a6ac20f07567154b08f35f048e34100d14195a7a9b5b1ae7a", func := "warder/warderlaw16.LifeStays", spec := "lifeStays", inPlace := ["slices.overlaps[warder/life.timer]"], unfollowed := true, recurses := true, apart := false }
def LifeStaysSaid : Prop := lifeStaysRow.holds Try.pinned (OpenSpec.ofChange lifeStaysSpec)

/-- ITS FALSE NEIGHBOUR: 'it returns false'. Refute it at one input. -/
def lifeStaysWrong : ChangeSpec := { name := "lifeStays", fn := fun _ => fun
  | [d1, d2, d3] => { results := [.lit (.bool false)], args := [d1, d2, d3] }
  | _ => none }
def LifeStaysWrongFalsely : Prop := lifeStaysRow.holds Try.pinned (OpenSpec.ofChange lifeStaysWrong)

/-- 'warderlaw15.SerialMay': WHATEVER THE INPUT: true; the input reads as it did. -/
def serialMaySpec : ChangeSpec := { name := "serialMay", fn := fun _ => fun
  | [d1, d2] => { results := [.lit (.bool true)], args := [d1, d2] }
  | _ => none }
def serialMayRow : OpenClaim := { program := "ytiddleajkbiojaa", sum := "4e494e445924dc1a6ac20f07567154b08f35f048e34100d14195a7a9b5b1ae7a", func := "warder/warderlaw15.SerialMay", spec := "serialMay", apart := false }
def SerialMaySaid : Prop := serialMayRow.holds Try.pinned (OpenSpec.ofChange serialMaySpec)

/-- ITS FALSE NEIGHBOUR: 'it returns false'. Refute it at one input. -/
def serialMayWrong : ChangeSpec := { name := "serialMay", fn := fun _ => fun
  | [d1, d2] => { results := [.lit (.bool false)], args := [d1, d2] }
  | _ => none }
def SerialMayWrongFalsely : Prop := serialMayRow.holds Try.pinned (OpenSpec.ofChange serialMayWrong)

/-- 'warderlaw19.RestrictTypes': WHATEVER THE INPUT: true; the input reads as it did. -/
def restrictTypesSpec : ChangeSpec := { name := "restrictTypes", fn := fun _ => fun
  | [d1, d2] => { results := [.lit (.bool true)], args := [d1, d2] }
  | _ => none }
def restrictTypesRow : OpenClaim := { program := "ytiddleajkbiojaa", sum := "4e494e445924dc1a6ac20f07567154b08f35f048e34100d14195a7a9b5b1ae7a", func := "warder/warderlaw19.RestrictTypes", spec := "restrictTypes", unfollowed := true, recurses := true, apart := false }
def RestrictTypesSaid : Prop := restrictTypesRow.holds Try.pinned (OpenSpec.ofChange restrictTypesSpec)

/-- ITS FALSE NEIGHBOUR: 'it returns false'. Refute it at one input. -/
def restrictTypesWrong : ChangeSpec := { name := "restrictTypes", fn := fun _ => fun
  | [d1, d2] => { results := [.lit (.bool false)], args := [d1, d2] }
  | _ => none }
def RestrictTypesWrongFalsely : Prop := restrictTypesRow.holds Try.pinned (OpenSpec.ofChange restrictTypesWrong)

/-- 'warderlaw05.PermRights': WHATEVER THE INPUT: true; the input reads as it did. -/
def permRightsSpec : ChangeSpec := { name := "permRights", fn := fun _ => fun
  | [d1, d2, d3, d4, d5] => { results := [.lit (.bool true)], args := [d1, d2, d3, d4, d5] }
  | _ => none }
def permRightsRow : OpenClaim := { program := "ytiddleajkbiojaa", sum := "4e494e445924dc1a6ac20f07567154b08f35f048e34100d14195a7a9b5b1ae7a", func := "warder/warderlaw05.PermRights", spec := "permRights", apart := false }
def PermRightsSaid : Prop := permRightsRow.holds Try.pinned (OpenSpec.ofChange permRightsSpec)

/-- ITS FALSE NEIGHBOUR: 'it returns false'. Refute it at one input. -/
def permRightsWrong : ChangeSpec := { name := "permRights", fn := fun _ => fun
  | [d1, d2, d3, d4, d5] => { results := [.lit (.bool false)], args := [d1, d2, d3, d4, d5] }
  | _ => none }
def PermRightsWrongFalsely : Prop := permRightsRow.holds Try.pinned (OpenSpec.ofChange permRightsWrong)

/-- 'warderlaw05.PermHas': WHATEVER THE INPUT: true; the input reads as it did. -/
def permHasSpec : ChangeSpec := { name := "permHas", fn := fun _ => fun
  | [d1, d2] => { results := [.lit (.bool true)], args := [d1, d2] }
  | _ => none }
def permHasRow : OpenClaim := { program := "ytiddleajkbiojaa", sum := "4e494e445924dc1a6ac20f07567154b08f35f048e34100d14195a7a9b5b1ae7a", func := "warder/warderlaw05.PermHas", spec := "permHas", apart := false }
def PermHasSaid : Prop := permHasRow.holds Try.pinned (OpenSpec.ofChange permHasSpec)

/-- ITS FALSE NEIGHBOUR: 'it returns false'. Refute it at one input. -/
def permHasWrong : ChangeSpec := { name := "permHas", fn := fun _ => fun
  | [d1, d2] => { results := [.lit (.bool false)], args := [d1, d2] }
  | _ => none }
def PermHasWrongFalsely : Prop := permHasRow.holds Try.pinned (OpenSpec.ofChange permHasWrong)

/-- 'warderlaw05.PermOf': WHATEVER THE INPUT: true; the input reads as it did. -/
def permOfSpec : ChangeSpec := { name := "permOf", fn := fun _ => fun
  | [d1, d2] => { results := [.lit (.bool true)], args := [d1, d2] }
  | _ => none }
def permOfRow : OpenClaim := { program := "ytiddleajkbiojaa", sum := "4e494e445924dc1a6ac20f07567154b08f35f048e34100d14195a7a9b5b1ae7a", func := "warder/warderlaw05.PermOf", spec := "permOf", apart := false }
def PermOfSaid : Prop := permOfRow.holds Try.pinned (OpenSpec.ofChange permOfSpec)

/-- ITS FALSE NEIGHBOUR: 'it returns false'. Refute it at one input. -/
def permOfWrong : ChangeSpec := { name := "permOf", fn := fun _ => fun
  | [d1, d2] => { results := [.lit (.bool false)], args := [d1, d2] }
  | _ => none }
def PermOfWrongFalsely : Prop := permOfRow.holds Try.pinned (OpenSpec.ofChange permOfWrong)

/-- 'warderlaw05.PermTexts': WHATEVER THE INPUT: true; the input reads as it did. -/
def permTextsSpec : ChangeSpec := { name := "permTexts", fn := fun _ => fun
  | [d] => { results := [.lit (.bool true)], args := [d] }
  | _ => none }
def permTextsRow : OpenClaim := { program := "ytiddleajkbiojaa", sum := "4e494e445924dc1a6ac20f07567154b08f35f048e34100d14195a7a9b5b1ae7a", func := "warder/warderlaw05.PermTexts", spec := "permTexts", apart := false }
def PermTextsSaid : Prop := permTextsRow.holds Try.pinned (OpenSpec.ofChange permTextsSpec)

/-- ITS FALSE NEIGHBOUR: 'it returns false'. Refute it at one input. -/
def permTextsWrong : ChangeSpec := { name := "permTexts", fn := fun _ => fun
  | [d] => { results := [.lit (.bool false)], args := [d] }
  | _ => none }
def PermTextsWrongFalsely : Prop := permTextsRow.holds Try.pinned (OpenSpec.ofChange permTextsWrong)

/- THE SECOND FORM. 'bulk': how many values and letters a reading holds, each counted each time it is reached (what is shared counts as often as it is met; a slice's spare places count too). A statement '..UptoSaid' is the law's where the arguments, and the package variables that the reading takes, are together of bulk at most 1048576: NARROWER than '..Said'. Prove '..Said' where nothing that the law and all that it calls make is longer than what came in: it says more and counts as full. Else prove '..UptoSaid'. A law counts once. -/
mutual
def uptoBulk {H : Type} : DataW H → Nat
  | .lit (.string bytes) => bytes.length + 1
  | .lit _ => 1
  | .nil => 1
  | .ptr d => uptoBulk d + 1
  | .slice elems spare => uptoBulkAll elems + uptoBulkAll spare + 1
  | .agg parts => uptoBulkAll parts + 1
  | .iface _ d => uptoBulk d + 1
  | .map entries => uptoBulkEntries entries + 1
  | .held _ => 1
def uptoBulkAll {H : Type} : List (DataW H) → Nat
  | [] => 0
  | d :: r => uptoBulk d + uptoBulkAll r
def uptoBulkEntries {H : Type} : List (Lit × DataW H) → Nat
  | [] => 0
  | x :: r => uptoBulkEntry x + uptoBulkEntries r
def uptoBulkEntry {H : Type} : Lit × DataW H → Nat
  | (.string bytes, d) => bytes.length + uptoBulk d + 1
  | (_, d) => uptoBulk d + 1
 end
def uptoSmall : (H : Type) → List (DataW H) → Bool := fun _ ds => decide (uptoBulkAll ds ≤ 1048576)
def OpenSpec.upto (s : _root_.Go.ChangeSpec) : _root_.Go.OpenSpec := { _root_.Go.OpenSpec.ofChange s with cond := some uptoSmall }

/-- 'warderlaw16.LifeOf', WHERE WHAT IT READS IS OF BULK AT MOST 1048576: true; the input reads as it did. -/
def lifeOfUptoRow : OpenClaim := { program := "ytiddleajkbiojaa", sum := "4e494e445924dc1a6ac20f07567154b08f35f048e34100d14195a7a9b5b1ae7a", func := "warder/warderlaw16.LifeOf", spec := "lifeOf", inPlace := ["slices.overlaps[warder/life.timer]"], unfollowed := true, recurses := true, apart := false, narrowed := true }
def LifeOfUptoSaid : Prop := lifeOfUptoRow.holds Try.pinned (OpenSpec.upto lifeOfSpec)

/-- 'warderlaw16.LifeStays', WHERE WHAT IT READS IS OF BULK AT MOST 1048576: true; the input reads as it did. -/
def lifeStaysUptoRow : OpenClaim := { program := "ytiddleajkbiojaa", sum := "4e494e445924dc1a6ac20f07567154b08f35f048e34100d14195a7a9b5b1ae7a", func := "warder/warderlaw16.LifeStays", spec := "lifeStays", inPlace := ["slices.overlaps[warder/life.timer]"], unfollowed := true, recurses := true, apart := false, narrowed := true }
def LifeStaysUptoSaid : Prop := lifeStaysUptoRow.holds Try.pinned (OpenSpec.upto lifeStaysSpec)

/-- 'warderlaw15.SerialMay', WHERE WHAT IT READS IS OF BULK AT MOST 1048576: true; the input reads as it did. -/
def serialMayUptoRow : OpenClaim := { program := "ytiddleajkbiojaa", sum := "4e494e445924dc1a6ac20f07567154b08f35f048e34100d14195a7a9b5b1ae7a", func := "warder/warderlaw15.SerialMay", spec := "serialMay", apart := false, narrowed := true }
def SerialMayUptoSaid : Prop := serialMayUptoRow.holds Try.pinned (OpenSpec.upto serialMaySpec)

/-- 'warderlaw19.RestrictTypes', WHERE WHAT IT READS IS OF BULK AT MOST 1048576: true; the input reads as it did. -/
def restrictTypesUptoRow : OpenClaim := { program := "ytiddleajkbiojaa", sum := "4e494e445924dc1a6ac20f07567154b08f35f048e34100d14195a7a9b5b1ae7a", func := "warder/warderlaw19.RestrictTypes", spec := "restrictTypes", unfollowed := true, recurses := true, apart := false, narrowed := true }
def RestrictTypesUptoSaid : Prop := restrictTypesUptoRow.holds Try.pinned (OpenSpec.upto restrictTypesSpec)

/-- 'warderlaw05.PermRights', WHERE WHAT IT READS IS OF BULK AT MOST 1048576: true; the input reads as it did. -/
def permRightsUptoRow : OpenClaim := { program := "ytiddleajkbiojaa", sum := "4e494e445924dc1a6ac20f07567154b08f35f048e34100d14195a7a9b5b1ae7a", func := "warder/warderlaw05.PermRights", spec := "permRights", apart := false, narrowed := true }
def PermRightsUptoSaid : Prop := permRightsUptoRow.holds Try.pinned (OpenSpec.upto permRightsSpec)

/-- 'warderlaw05.PermHas', WHERE WHAT IT READS IS OF BULK AT MOST 1048576: true; the input reads as it did. -/
def permHasUptoRow : OpenClaim := { program := "ytiddleajkbiojaa", sum := "4e494e445924dc1a6ac20f07567154b08f35f048e34100d14195a7a9b5b1ae7a", func := "warder/warderlaw05.PermHas", spec := "permHas", apart := false, narrowed := true }
def PermHasUptoSaid : Prop := permHasUptoRow.holds Try.pinned (OpenSpec.upto permHasSpec)

/-- 'warderlaw05.PermOf', WHERE WHAT IT READS IS OF BULK AT MOST 1048576: true; the input reads as it did. -/
def permOfUptoRow : OpenClaim := { program := "ytiddleajkbiojaa", sum := "4e494e445924dc1a6ac20f07567154b08f35f048e34100d14195a7a9b5b1ae7a", func := "warder/warderlaw05.PermOf", spec := "permOf", apart := false, narrowed := true }
def PermOfUptoSaid : Prop := permOfUptoRow.holds Try.pinned (OpenSpec.upto permOfSpec)

/-- 'warderlaw05.PermTexts', WHERE WHAT IT READS IS OF BULK AT MOST 1048576: true; the input reads as it did. -/
def permTextsUptoRow : OpenClaim := { program := "ytiddleajkbiojaa", sum := "4e494e445924dc1a6ac20f07567154b08f35f048e34100d14195a7a9b5b1ae7a", func := "warder/warderlaw05.PermTexts", spec := "permTexts", apart := false, narrowed := true }
def PermTextsUptoSaid : Prop := permTextsUptoRow.holds Try.pinned (OpenSpec.upto permTextsSpec)

end Rows
end Go.Proofs.Ytiddleajkbiojaa
