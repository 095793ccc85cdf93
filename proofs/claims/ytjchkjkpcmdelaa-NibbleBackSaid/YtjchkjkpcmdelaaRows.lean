/-
  No cell of these rows narrows 'for every input' (looked for: loops, veiled, ifaces, maps, wideKeys, modest, calm, conditions, laid).
  DERIVED. THE GIVEN ROWS OF THIS SEAT. 4 by the template 'for every input the law returns true; each argument reads behind the call as it read before'; 0 by the template 'total and deterministic' (their statements: YtjchkjkpcmdelaaTotals.lean).
  GIVEN WITH THE SEED: the statements are not yours to turn. If you find one false, say at which input.
  Laid BY PROGRAM, IN A SANDBOX (cutbox-rows.mjs): the forced cells as the released guide's own fill.sh prints them over the translation 28c996a0d9f67221… (all of the seat's roots in one cut). By AI agents, Wed Nov 11 2026. No macro, syntax, notation, axiom, sorry.
-/
import Derived.Test.YtjchkjkpcmdelaaChecked
import GoSem.Claim
import GoSem.ClaimJoined
import GoSem.ClaimMapViews
import Derived.JoinedTies
import Derived.KernelRfl
namespace Go.Proofs.Ytjchkjkpcmdelaa
/- THE CELL 'sum', in the pinned program and in every row, IS THE sha256 OF THE DUMP (.gsa) THAT YtjchkjkpcmdelaaProg.lean LOADS. Nothing in Lean hashes anything: it is a label: what it is worth is what the hold of that sum in a sandbox is worth. -/
noncomputable def Try.pinned : Pinned := { name := "ytjchkjkpcmdelaa", sum := "28c996a0d9f67221fa59557102f489deb0e49711f630838d052e262c17aaf01f", checked := Try.checked }
namespace Rows
def none {H : Type} : Left H := { results := [], args := [] }

/-- 'warderlaw02.NibbleReads': WHATEVER THE INPUT: true; the input reads as it did. -/
def nibbleReadsSpec : ChangeSpec := { name := "nibbleReads", fn := fun _ => fun
  | [d] => { results := [.lit (.bool true)], args := [d] }
  | _ => none }
def nibbleReadsRow : OpenClaim := { program := "ytjchkjkpcmdelaa", sum := "28c996a0d9f67221fa59557102f489deb0e49711f630838d052e262c17aaf01f", func := "warder/warderlaw02.NibbleReads", spec := "nibbleReads", unfollowed := true, recurses := true, apart := false }
def NibbleReadsSaid : Prop := nibbleReadsRow.holds Try.pinned (OpenSpec.ofChange nibbleReadsSpec)

/-- ITS FALSE NEIGHBOUR: 'it returns false'. Refute it at one input. -/
def nibbleReadsWrong : ChangeSpec := { name := "nibbleReads", fn := fun _ => fun
  | [d] => { results := [.lit (.bool false)], args := [d] }
  | _ => none }
def NibbleReadsWrongFalsely : Prop := nibbleReadsRow.holds Try.pinned (OpenSpec.ofChange nibbleReadsWrong)

/-- 'warderlaw02.NibbleBack': WHATEVER THE INPUT: true; the input reads as it did. -/
def nibbleBackSpec : ChangeSpec := { name := "nibbleBack", fn := fun _ => fun
  | [d1, d2, d3] => { results := [.lit (.bool true)], args := [d1, d2, d3] }
  | _ => none }
def nibbleBackRow : OpenClaim := { program := "ytjchkjkpcmdelaa", sum := "28c996a0d9f67221fa59557102f489deb0e49711f630838d052e262c17aaf01f", func := "warder/warderlaw02.NibbleBack", spec := "nibbleBack", unfollowed := true, recurses := true, apart := false }
def NibbleBackSaid : Prop := nibbleBackRow.holds Try.pinned (OpenSpec.ofChange nibbleBackSpec)

/-- ITS FALSE NEIGHBOUR: 'it returns false'. Refute it at one input. -/
def nibbleBackWrong : ChangeSpec := { name := "nibbleBack", fn := fun _ => fun
  | [d1, d2, d3] => { results := [.lit (.bool false)], args := [d1, d2, d3] }
  | _ => none }
def NibbleBackWrongFalsely : Prop := nibbleBackRow.holds Try.pinned (OpenSpec.ofChange nibbleBackWrong)

/-- 'warderlaw02.NibbleApart': WHATEVER THE INPUT: true; the input reads as it did. -/
def nibbleApartSpec : ChangeSpec := { name := "nibbleApart", fn := fun _ => fun
  | [d1, d2] => { results := [.lit (.bool true)], args := [d1, d2] }
  | _ => none }
def nibbleApartRow : OpenClaim := { program := "ytjchkjkpcmdelaa", sum := "28c996a0d9f67221fa59557102f489deb0e49711f630838d052e262c17aaf01f", func := "warder/warderlaw02.NibbleApart", spec := "nibbleApart", inPlace := ["internal/bytealg.Compare"], unfollowed := true, recurses := true, apart := false }
def NibbleApartSaid : Prop := nibbleApartRow.holds Try.pinned (OpenSpec.ofChange nibbleApartSpec)

/-- ITS FALSE NEIGHBOUR: 'it returns false'. Refute it at one input. -/
def nibbleApartWrong : ChangeSpec := { name := "nibbleApart", fn := fun _ => fun
  | [d1, d2] => { results := [.lit (.bool false)], args := [d1, d2] }
  | _ => none }
def NibbleApartWrongFalsely : Prop := nibbleApartRow.holds Try.pinned (OpenSpec.ofChange nibbleApartWrong)

/-- 'warderlaw02.NibbleOrders': WHATEVER THE INPUT: true; the input reads as it did. -/
def nibbleOrdersSpec : ChangeSpec := { name := "nibbleOrders", fn := fun _ => fun
  | [d1, d2, d3] => { results := [.lit (.bool true)], args := [d1, d2, d3] }
  | _ => none }
def nibbleOrdersRow : OpenClaim := { program := "ytjchkjkpcmdelaa", sum := "28c996a0d9f67221fa59557102f489deb0e49711f630838d052e262c17aaf01f", func := "warder/warderlaw02.NibbleOrders", spec := "nibbleOrders", inPlace := ["internal/bytealg.Compare"], unfollowed := true, recurses := true, apart := false }
def NibbleOrdersSaid : Prop := nibbleOrdersRow.holds Try.pinned (OpenSpec.ofChange nibbleOrdersSpec)

/-- ITS FALSE NEIGHBOUR: 'it returns false'. Refute it at one input. -/
def nibbleOrdersWrong : ChangeSpec := { name := "nibbleOrders", fn := fun _ => fun
  | [d1, d2, d3] => { results := [.lit (.bool false)], args := [d1, d2, d3] }
  | _ => none }
def NibbleOrdersWrongFalsely : Prop := nibbleOrdersRow.holds Try.pinned (OpenSpec.ofChange nibbleOrdersWrong)

/- THE SECOND FORM. 'bulk': how many values and letters a reading holds, each counted each time it is reached (what is shared counts as often as it is met; a slice's spare places count too). A statement '..UptoSaid' is the law's where the arguments, and the package variables that the reading takes, are together of bulk at most 1048576: NARROWER than '..Said'. Prove '..Said' where nothing that the law and all that it calls make is longer than what came in: it says more and counts as full. Else prove '..UptoSaid'. A law counts once. -/
mutual
def uptoBulk {H : Type} : DataW H → Nat
  | .lit (.string bytes) => bytes.length + 1
  | .lit _ => 1
  | .nil => 1
  | .ptr d => uptoBulk d + 1
  | .slice elems spare => uptoBulkAll elems + uptoBulkAll spare + 1
  | .agg parts => uptoBulkAll parts + 1
  | .iface _ d => uptoBulk d + 1
  | .map entries => uptoBulkEntries entries + 1
  | .held _ => 1
def uptoBulkAll {H : Type} : List (DataW H) → Nat
  | [] => 0
  | d :: r => uptoBulk d + uptoBulkAll r
def uptoBulkEntries {H : Type} : List (Lit × DataW H) → Nat
  | [] => 0
  | x :: r => uptoBulkEntry x + uptoBulkEntries r
def uptoBulkEntry {H : Type} : Lit × DataW H → Nat
  | (.string bytes, d) => bytes.length + uptoBulk d + 1
  | (_, d) => uptoBulk d + 1
 end
def uptoSmall : (H : Type) → List (DataW H) → Bool := fun _ ds => decide (uptoBulkAll ds ≤ 1048576)
def OpenSpec.upto (s : _root_.Go.ChangeSpec) : _root_.Go.OpenSpec := { _root_.Go.OpenSpec.ofChange s with cond := some uptoSmall }

/-- 'warderlaw02.NibbleReads', WHERE WHAT IT READS IS OF BULK AT MOST 1048576: true; the input reads as it did. -/
def nibbleReadsUptoRow : OpenClaim := { program := "ytjchkjkpcmdelaa", sum := "28c996a0d9f67221fa59557102f489deb0e49711f630838d052e262c17aaf01f", func := "warder/warderlaw02.NibbleReads", spec := "nibbleReads", unfollowed := true, recurses := true, apart := false, narrowed := true }
def NibbleReadsUptoSaid : Prop := nibbleReadsUptoRow.holds Try.pinned (OpenSpec.upto nibbleReadsSpec)

/-- 'warderlaw02.NibbleBack', WHERE WHAT IT READS IS OF BULK AT MOST 1048576: true; the input reads as it did. -/
def nibbleBackUptoRow : OpenClaim := { program := "ytjchkjkpcmdelaa", sum := "28c996a0d9f67221fa59557102f489deb0e49711f630838d052e262c17aaf01f", func := "warder/warderlaw02.NibbleBack", spec := "nibbleBack", unfollowed := true, recurses := true, apart := false, narrowed := true }
def NibbleBackUptoSaid : Prop := nibbleBackUptoRow.holds Try.pinned (OpenSpec.upto nibbleBackSpec)

/-- 'warderlaw02.NibbleApart', WHERE WHAT IT READS IS OF BULK AT MOST 1048576: true; the input reads as it did. -/
def nibbleApartUptoRow : OpenClaim := { program := "ytjchkjkpcmdelaa", sum := "28c996a0d9f67221fa59557102f489deb0e49711f630838d052e262c17aaf01f", func := "warder/warderlaw02.NibbleApart", spec := "nibbleApart", inPlace := ["internal/bytealg.Compare"], unfollowed := true, recurses := true, apart := false, narrowed := true }
def NibbleApartUptoSaid : Prop := nibbleApartUptoRow.holds Try.pinned (OpenSpec.upto nibbleApartSpec)

/-- 'warderlaw02.NibbleOrders', WHERE WHAT IT READS IS OF BULK AT MOST 1048576: true; the input reads as it did. -/
def nibbleOrdersUptoRow : OpenClaim := { program := "ytjchkjkpcmdelaa", sum := "28c996a0d9f67221fa59557102f489deb0e49711f630838d052e262c17aaf01f", func := "warder/warderlaw02.NibbleOrders", spec := "nibbleOrders", inPlace := ["internal/bytealg.Compare"], unfollowed := true, recurses := true, apart := false, narrowed := true }
def NibbleOrdersUptoSaid : Prop := nibbleOrdersUptoRow.holds Try.pinned (OpenSpec.upto nibbleOrdersSpec)

end Rows
end Go.Proofs.Ytjchkjkpcmdelaa
