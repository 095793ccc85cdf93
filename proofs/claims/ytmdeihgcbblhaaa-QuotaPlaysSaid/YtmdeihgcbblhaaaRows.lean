/-
  No cell of these rows narrows 'for every input' (looked for: loops, veiled, ifaces, maps, wideKeys, modest, calm, conditions, laid).
  DERIVED. THE GIVEN ROWS OF THIS SEAT. 5 by the template 'for every input the law returns true; each argument reads behind the call as it read before'; 0 by the template 'total and deterministic' (their statements: YtmdeihgcbblhaaaTotals.lean).
  GIVEN WITH THE SEED: the statements are not yours to turn. If you find one false, say at which input.
  Laid BY PROGRAM, IN A SANDBOX (cutbox-rows.mjs): the forced cells as the released guide's own fill.sh prints them over the translation f226bd22c36cb7d6… (all of the seat's roots in one cut). By AI agents, Wed Nov 11 2026. No macro, syntax, notation, axiom, sorry.
-/
import Derived.Test.YtmdeihgcbblhaaaChecked
import GoSem.Claim
import GoSem.ClaimJoined
import GoSem.ClaimMapViews
import Derived.JoinedTies
import Derived.KernelRfl
namespace Go.Proofs.Ytmdeihgcbblhaaa
/- THE CELL 'sum', in the pinned program and in every row, IS THE sha256 OF THE DUMP (.gsa) THAT YtmdeihgcbblhaaaProg.lean LOADS. Nothing in Lean hashes anything: it is a label: what it is worth is what the hold of that sum in a sandbox is worth. -/
noncomputable def Try.pinned : Pinned := { name := "ytmdeihgcbblhaaa", sum := "f226bd22c36cb7d6f6bc2320dc2e493c6172dd57ae7c1992e2e298d799f8189c", checked := Try.checked }
namespace Rows
def none {H : Type} : Left H := { results := [], args := [] }

/-- 'warderlaw04.QuotaPlays': WHATEVER THE INPUT: true; the input reads as it did. -/
def quotaPlaysSpec : ChangeSpec := { name := "quotaPlays", fn := fun _ => fun
  | [d1, d2, d3, d4] => { results := [.lit (.bool true)], args := [d1, d2, d3, d4] }
  | _ => none }
def quotaPlaysRow : OpenClaim := { program := "ytmdeihgcbblhaaa", sum := "f226bd22c36cb7d6f6bc2320dc2e493c6172dd57ae7c1992e2e298d799f8189c", func := "warder/warderlaw04.QuotaPlays", spec := "quotaPlays", unfollowed := true, recurses := true, apart := false }
def QuotaPlaysSaid : Prop := quotaPlaysRow.holds Try.pinned (OpenSpec.ofChange quotaPlaysSpec)

/-- ITS FALSE NEIGHBOUR: 'it returns false'. Refute it at one input. -/
def quotaPlaysWrong : ChangeSpec := { name := "quotaPlays", fn := fun _ => fun
  | [d1, d2, d3, d4] => { results := [.lit (.bool false)], args := [d1, d2, d3, d4] }
  | _ => none }
def QuotaPlaysWrongFalsely : Prop := quotaPlaysRow.holds Try.pinned (OpenSpec.ofChange quotaPlaysWrong)

/-- 'warderlaw04.QuotaHolds': WHATEVER THE INPUT: true; the input reads as it did. -/
def quotaHoldsSpec : ChangeSpec := { name := "quotaHolds", fn := fun _ => fun
  | [d1, d2, d3, d4] => { results := [.lit (.bool true)], args := [d1, d2, d3, d4] }
  | _ => none }
def quotaHoldsRow : OpenClaim := { program := "ytmdeihgcbblhaaa", sum := "f226bd22c36cb7d6f6bc2320dc2e493c6172dd57ae7c1992e2e298d799f8189c", func := "warder/warderlaw04.QuotaHolds", spec := "quotaHolds", unfollowed := true, recurses := true, apart := false }
def QuotaHoldsSaid : Prop := quotaHoldsRow.holds Try.pinned (OpenSpec.ofChange quotaHoldsSpec)

/-- ITS FALSE NEIGHBOUR: 'it returns false'. Refute it at one input. -/
def quotaHoldsWrong : ChangeSpec := { name := "quotaHolds", fn := fun _ => fun
  | [d1, d2, d3, d4] => { results := [.lit (.bool false)], args := [d1, d2, d3, d4] }
  | _ => none }
def QuotaHoldsWrongFalsely : Prop := quotaHoldsRow.holds Try.pinned (OpenSpec.ofChange quotaHoldsWrong)

/-- 'warderlaw04.QuotaRefused': WHATEVER THE INPUT: true; the input reads as it did. -/
def quotaRefusedSpec : ChangeSpec := { name := "quotaRefused", fn := fun _ => fun
  | [d1, d2, d3, d4, d5] => { results := [.lit (.bool true)], args := [d1, d2, d3, d4, d5] }
  | _ => none }
def quotaRefusedRow : OpenClaim := { program := "ytmdeihgcbblhaaa", sum := "f226bd22c36cb7d6f6bc2320dc2e493c6172dd57ae7c1992e2e298d799f8189c", func := "warder/warderlaw04.QuotaRefused", spec := "quotaRefused", unfollowed := true, recurses := true, apart := false }
def QuotaRefusedSaid : Prop := quotaRefusedRow.holds Try.pinned (OpenSpec.ofChange quotaRefusedSpec)

/-- ITS FALSE NEIGHBOUR: 'it returns false'. Refute it at one input. -/
def quotaRefusedWrong : ChangeSpec := { name := "quotaRefused", fn := fun _ => fun
  | [d1, d2, d3, d4, d5] => { results := [.lit (.bool false)], args := [d1, d2, d3, d4, d5] }
  | _ => none }
def QuotaRefusedWrongFalsely : Prop := quotaRefusedRow.holds Try.pinned (OpenSpec.ofChange quotaRefusedWrong)

/-- 'warderlaw04.QuotaMoves': WHATEVER THE INPUT: true; the input reads as it did. -/
def quotaMovesSpec : ChangeSpec := { name := "quotaMoves", fn := fun _ => fun
  | [d1, d2, d3, d4, d5, d6, d7, d8] => { results := [.lit (.bool true)], args := [d1, d2, d3, d4, d5, d6, d7, d8] }
  | _ => none }
def quotaMovesRow : OpenClaim := { program := "ytmdeihgcbblhaaa", sum := "f226bd22c36cb7d6f6bc2320dc2e493c6172dd57ae7c1992e2e298d799f8189c", func := "warder/warderlaw04.QuotaMoves", spec := "quotaMoves", unfollowed := true, recurses := true, apart := false }
def QuotaMovesSaid : Prop := quotaMovesRow.holds Try.pinned (OpenSpec.ofChange quotaMovesSpec)

/-- ITS FALSE NEIGHBOUR: 'it returns false'. Refute it at one input. -/
def quotaMovesWrong : ChangeSpec := { name := "quotaMoves", fn := fun _ => fun
  | [d1, d2, d3, d4, d5, d6, d7, d8] => { results := [.lit (.bool false)], args := [d1, d2, d3, d4, d5, d6, d7, d8] }
  | _ => none }
def QuotaMovesWrongFalsely : Prop := quotaMovesRow.holds Try.pinned (OpenSpec.ofChange quotaMovesWrong)

/-- 'warderlaw04.QuotaCopies': WHATEVER THE INPUT: true; the input reads as it did. -/
def quotaCopiesSpec : ChangeSpec := { name := "quotaCopies", fn := fun _ => fun
  | [d1, d2, d3, d4, d5, d6] => { results := [.lit (.bool true)], args := [d1, d2, d3, d4, d5, d6] }
  | _ => none }
def quotaCopiesRow : OpenClaim := { program := "ytmdeihgcbblhaaa", sum := "f226bd22c36cb7d6f6bc2320dc2e493c6172dd57ae7c1992e2e298d799f8189c", func := "warder/warderlaw04.QuotaCopies", spec := "quotaCopies", unfollowed := true, recurses := true, apart := false }
def QuotaCopiesSaid : Prop := quotaCopiesRow.holds Try.pinned (OpenSpec.ofChange quotaCopiesSpec)

/-- ITS FALSE NEIGHBOUR: 'it returns false'. Refute it at one input. -/
def quotaCopiesWrong : ChangeSpec := { name := "quotaCopies", fn := fun _ => fun
  | [d1, d2, d3, d4, d5, d6] => { results := [.lit (.bool false)], args := [d1, d2, d3, d4, d5, d6] }
  | _ => none }
def QuotaCopiesWrongFalsely : Prop := quotaCopiesRow.holds Try.pinned (OpenSpec.ofChange quotaCopiesWrong)

/- THE SECOND FORM. 'bulk': how many values and letters a reading holds, each counted each time it is reached (what is shared counts as often as it is met; a slice's spare places count too). A statement '..UptoSaid' is the law's where the arguments, and the package variables that the reading takes, are together of bulk at most 1048576: NARROWER than '..Said'. Prove '..Said' where nothing that the law and all that it calls make is longer than what came in: it says more and counts as full. Else prove '..UptoSaid'. A law counts once. -/
mutual
def uptoBulk {H : Type} : DataW H → Nat
  | .lit (.string bytes) => bytes.length + 1
  | .lit _ => 1
  | .nil => 1
  | .ptr d => uptoBulk d + 1
  | .slice elems spare => uptoBulkAll elems + uptoBulkAll spare + 1
  | .agg parts => uptoBulkAll parts + 1
  | .iface _ d => uptoBulk d + 1
  | .map entries => uptoBulkEntries entries + 1
  | .held _ => 1
def uptoBulkAll {H : Type} : List (DataW H) → Nat
  | [] => 0
  | d :: r => uptoBulk d + uptoBulkAll r
def uptoBulkEntries {H : Type} : List (Lit × DataW H) → Nat
  | [] => 0
  | x :: r => uptoBulkEntry x + uptoBulkEntries r
def uptoBulkEntry {H : Type} : Lit × DataW H → Nat
  | (.string bytes, d) => bytes.length + uptoBulk d + 1
  | (_, d) => uptoBulk d + 1
 end
def uptoSmall : (H : Type) → List (DataW H) → Bool := fun _ ds => decide (uptoBulkAll ds ≤ 1048576)
def OpenSpec.upto (s : _root_.Go.ChangeSpec) : _root_.Go.OpenSpec := { _root_.Go.OpenSpec.ofChange s with cond := some uptoSmall }

/-- 'warderlaw04.QuotaPlays', WHERE WHAT IT READS IS OF BULK AT MOST 1048576: true; the input reads as it did. -/
def quotaPlaysUptoRow : OpenClaim := { program := "ytmdeihgcbblhaaa", sum := "f226bd22c36cb7d6f6bc2320dc2e493c6172dd57ae7c1992e2e298d799f8189c", func := "warder/warderlaw04.QuotaPlays", spec := "quotaPlays", unfollowed := true, recurses := true, apart := false, narrowed := true }
def QuotaPlaysUptoSaid : Prop := quotaPlaysUptoRow.holds Try.pinned (OpenSpec.upto quotaPlaysSpec)

/-- 'warderlaw04.QuotaHolds', WHERE WHAT IT READS IS OF BULK AT MOST 1048576: true; the input reads as it did. -/
def quotaHoldsUptoRow : OpenClaim := { program := "ytmdeihgcbblhaaa", sum := "f226bd22c36cb7d6f6bc2320dc2e493c6172dd57ae7c1992e2e298d799f8189c", func := "warder/warderlaw04.QuotaHolds", spec := "quotaHolds", unfollowed := true, recurses := true, apart := false, narrowed := true }
def QuotaHoldsUptoSaid : Prop := quotaHoldsUptoRow.holds Try.pinned (OpenSpec.upto quotaHoldsSpec)

/-- 'warderlaw04.QuotaRefused', WHERE WHAT IT READS IS OF BULK AT MOST 1048576: true; the input reads as it did. -/
def quotaRefusedUptoRow : OpenClaim := { program := "ytmdeihgcbblhaaa", sum := "f226bd22c36cb7d6f6bc2320dc2e493c6172dd57ae7c1992e2e298d799f8189c", func := "warder/warderlaw04.QuotaRefused", spec := "quotaRefused", unfollowed := true, recurses := true, apart := false, narrowed := true }
def QuotaRefusedUptoSaid : Prop := quotaRefusedUptoRow.holds Try.pinned (OpenSpec.upto quotaRefusedSpec)

/-- 'warderlaw04.QuotaMoves', WHERE WHAT IT READS IS OF BULK AT MOST 1048576: true; the input reads as it did. -/
def quotaMovesUptoRow : OpenClaim := { program := "ytmdeihgcbblhaaa", sum := "f226bd22c36cb7d6f6bc2320dc2e493c6172dd57ae7c1992e2e298d799f8189c", func := "warder/warderlaw04.QuotaMoves", spec := "quotaMoves", unfollowed := true, recurses := true, apart := false, narrowed := true }
def QuotaMovesUptoSaid : Prop := quotaMovesUptoRow.holds Try.pinned (OpenSpec.upto quotaMovesSpec)

/-- 'warderlaw04.QuotaCopies', WHERE WHAT IT READS IS OF BULK AT MOST 1048576: true; the input reads as it did. -/
def quotaCopiesUptoRow : OpenClaim := { program := "ytmdeihgcbblhaaa", sum := "f226bd22c36cb7d6f6bc2320dc2e493c6172dd57ae7c1992e2e298d799f8189c", func := "warder/warderlaw04.QuotaCopies", spec := "quotaCopies", unfollowed := true, recurses := true, apart := false, narrowed := true }
def QuotaCopiesUptoSaid : Prop := quotaCopiesUptoRow.holds Try.pinned (OpenSpec.upto quotaCopiesSpec)

end Rows
end Go.Proofs.Ytmdeihgcbblhaaa
