/-
  No cell of these rows narrows 'for every input' (looked for: loops, veiled, ifaces, maps, wideKeys, modest, calm, conditions, laid).
  DERIVED. THE GIVEN ROWS OF THIS SEAT. 7 by the template 'for every input the law returns true; each argument reads behind the call as it read before'; 0 by the template 'total and deterministic' (their statements: YtcomgeaajmmpjaaTotals.lean).
  GIVEN WITH THE SEED: the statements are not yours to turn. If you find one false, say at which input.
  Laid BY PROGRAM, IN A SANDBOX (cutbox-rows.mjs): the forced cells as the released guide's own fill.sh prints them over the translation d8a7bffb64fe32e4… (all of the seat's roots in one cut). By AI agents, Wed Nov 11 2026. No macro, syntax, notation, axiom, sorry.
-/
import Derived.Test.YtcomgeaajmmpjaaChecked
import GoSem.Claim
import GoSem.ClaimJoined
import GoSem.ClaimMapViews
import Derived.JoinedTies
import Derived.KernelRfl
namespace Go.Proofs.Ytcomgeaajmmpjaa
/- THE CELL 'sum', in the pinned program and in every row, IS THE sha256 OF THE DUMP (.gsa) THAT YtcomgeaajmmpjaaProg.lean LOADS. Nothing in Lean hashes anything: it is a label: what it is worth is what the hold of that sum in a sandbox is worth. -/
noncomputable def Try.pinned : Pinned := { name := "ytcomgeaajmmpjaa", sum := "d8a7bffb64fe32e48927f039e09927c0748d72f44362dcee5a74b3d5992681b5", checked := Try.checked }
namespace Rows
def none {H : Type} : Left H := { results := [], args := [] }

/-- 'warderlaw03.ArenaNil': WHATEVER THE INPUT: true; the input reads as it did. -/
def arenaNilSpec : ChangeSpec := { name := "arenaNil", fn := fun _ => fun
  | [] => { results := [.lit (.bool true)], args := [] }
  | _ => none }
def arenaNilRow : OpenClaim := { program := "ytcomgeaajmmpjaa", sum := "d8a7bffb64fe32e48927f039e09927c0748d72f44362dcee5a74b3d5992681b5", func := "warder/warderlaw03.ArenaNil", spec := "arenaNil", unfollowed := true, recurses := true, plainKeys := false, apart := false }
def ArenaNilSaid : Prop := arenaNilRow.holds Try.pinned (OpenSpec.ofChange arenaNilSpec)

/-- ITS FALSE NEIGHBOUR: 'it returns false'. Refute it at one input. -/
def arenaNilWrong : ChangeSpec := { name := "arenaNil", fn := fun _ => fun
  | [] => { results := [.lit (.bool false)], args := [] }
  | _ => none }
def ArenaNilWrongFalsely : Prop := arenaNilRow.holds Try.pinned (OpenSpec.ofChange arenaNilWrong)

/-- 'warderlaw08.LockNil': WHATEVER THE INPUT: true; the input reads as it did. -/
def lockNilSpec : ChangeSpec := { name := "lockNil", fn := fun _ => fun
  | [] => { results := [.lit (.bool true)], args := [] }
  | _ => none }
def lockNilRow : OpenClaim := { program := "ytcomgeaajmmpjaa", sum := "d8a7bffb64fe32e48927f039e09927c0748d72f44362dcee5a74b3d5992681b5", func := "warder/warderlaw08.LockNil", spec := "lockNil", inPlace := ["maps.clone"], unfollowed := true, recurses := true, plainKeys := false, apart := false }
def LockNilSaid : Prop := lockNilRow.holds Try.pinned (OpenSpec.ofChange lockNilSpec)

/-- ITS FALSE NEIGHBOUR: 'it returns false'. Refute it at one input. -/
def lockNilWrong : ChangeSpec := { name := "lockNil", fn := fun _ => fun
  | [] => { results := [.lit (.bool false)], args := [] }
  | _ => none }
def LockNilWrongFalsely : Prop := lockNilRow.holds Try.pinned (OpenSpec.ofChange lockNilWrong)

/-- 'warderlaw13.ExtentNil': WHATEVER THE INPUT: true; the input reads as it did. -/
def extentNilSpec : ChangeSpec := { name := "extentNil", fn := fun _ => fun
  | [] => { results := [.lit (.bool true)], args := [] }
  | _ => none }
def extentNilRow : OpenClaim := { program := "ytcomgeaajmmpjaa", sum := "d8a7bffb64fe32e48927f039e09927c0748d72f44362dcee5a74b3d5992681b5", func := "warder/warderlaw13.ExtentNil", spec := "extentNil", unfollowed := true, recurses := true, plainKeys := false, apart := false }
def ExtentNilSaid : Prop := extentNilRow.holds Try.pinned (OpenSpec.ofChange extentNilSpec)

/-- ITS FALSE NEIGHBOUR: 'it returns false'. Refute it at one input. -/
def extentNilWrong : ChangeSpec := { name := "extentNil", fn := fun _ => fun
  | [] => { results := [.lit (.bool false)], args := [] }
  | _ => none }
def ExtentNilWrongFalsely : Prop := extentNilRow.holds Try.pinned (OpenSpec.ofChange extentNilWrong)

/-- 'warderlaw15.SerialNil': WHATEVER THE INPUT: true; the input reads as it did. -/
def serialNilSpec : ChangeSpec := { name := "serialNil", fn := fun _ => fun
  | [] => { results := [.lit (.bool true)], args := [] }
  | _ => none }
def serialNilRow : OpenClaim := { program := "ytcomgeaajmmpjaa", sum := "d8a7bffb64fe32e48927f039e09927c0748d72f44362dcee5a74b3d5992681b5", func := "warder/warderlaw15.SerialNil", spec := "serialNil", inPlace := ["maps.clone"], unfollowed := true, recurses := true, plainKeys := false, apart := false }
def SerialNilSaid : Prop := serialNilRow.holds Try.pinned (OpenSpec.ofChange serialNilSpec)

/-- ITS FALSE NEIGHBOUR: 'it returns false'. Refute it at one input. -/
def serialNilWrong : ChangeSpec := { name := "serialNil", fn := fun _ => fun
  | [] => { results := [.lit (.bool false)], args := [] }
  | _ => none }
def SerialNilWrongFalsely : Prop := serialNilRow.holds Try.pinned (OpenSpec.ofChange serialNilWrong)

/-- 'warderlaw06.CredNil': WHATEVER THE INPUT: true; the input reads as it did. -/
def credNilSpec : ChangeSpec := { name := "credNil", fn := fun _ => fun
  | [] => { results := [.lit (.bool true)], args := [] }
  | _ => none }
def credNilRow : OpenClaim := { program := "ytcomgeaajmmpjaa", sum := "d8a7bffb64fe32e48927f039e09927c0748d72f44362dcee5a74b3d5992681b5", func := "warder/warderlaw06.CredNil", spec := "credNil", inPlace := ["maps.clone"], unfollowed := true, recurses := true, plainKeys := false, apart := false }
def CredNilSaid : Prop := credNilRow.holds Try.pinned (OpenSpec.ofChange credNilSpec)

/-- ITS FALSE NEIGHBOUR: 'it returns false'. Refute it at one input. -/
def credNilWrong : ChangeSpec := { name := "credNil", fn := fun _ => fun
  | [] => { results := [.lit (.bool false)], args := [] }
  | _ => none }
def CredNilWrongFalsely : Prop := credNilRow.holds Try.pinned (OpenSpec.ofChange credNilWrong)

/-- 'warderlaw07.RcuNil': WHATEVER THE INPUT: true; the input reads as it did. -/
def rcuNilSpec : ChangeSpec := { name := "rcuNil", fn := fun _ => fun
  | [] => { results := [.lit (.bool true)], args := [] }
  | _ => none }
def rcuNilRow : OpenClaim := { program := "ytcomgeaajmmpjaa", sum := "d8a7bffb64fe32e48927f039e09927c0748d72f44362dcee5a74b3d5992681b5", func := "warder/warderlaw07.RcuNil", spec := "rcuNil", inPlace := ["maps.clone"], unfollowed := true, recurses := true, plainKeys := false, apart := false }
def RcuNilSaid : Prop := rcuNilRow.holds Try.pinned (OpenSpec.ofChange rcuNilSpec)

/-- ITS FALSE NEIGHBOUR: 'it returns false'. Refute it at one input. -/
def rcuNilWrong : ChangeSpec := { name := "rcuNil", fn := fun _ => fun
  | [] => { results := [.lit (.bool false)], args := [] }
  | _ => none }
def RcuNilWrongFalsely : Prop := rcuNilRow.holds Try.pinned (OpenSpec.ofChange rcuNilWrong)

/-- 'warderlaw16.LifeNil': WHATEVER THE INPUT: true; the input reads as it did. -/
def lifeNilSpec : ChangeSpec := { name := "lifeNil", fn := fun _ => fun
  | [] => { results := [.lit (.bool true)], args := [] }
  | _ => none }
def lifeNilRow : OpenClaim := { program := "ytcomgeaajmmpjaa", sum := "d8a7bffb64fe32e48927f039e09927c0748d72f44362dcee5a74b3d5992681b5", func := "warder/warderlaw16.LifeNil", spec := "lifeNil", inPlace := ["slices.overlaps[warder/life.timer]"], unfollowed := true, recurses := true, plainKeys := false, apart := false }
def LifeNilSaid : Prop := lifeNilRow.holds Try.pinned (OpenSpec.ofChange lifeNilSpec)

/-- ITS FALSE NEIGHBOUR: 'it returns false'. Refute it at one input. -/
def lifeNilWrong : ChangeSpec := { name := "lifeNil", fn := fun _ => fun
  | [] => { results := [.lit (.bool false)], args := [] }
  | _ => none }
def LifeNilWrongFalsely : Prop := lifeNilRow.holds Try.pinned (OpenSpec.ofChange lifeNilWrong)

/- THE SECOND FORM. 'bulk': how many values and letters a reading holds, each counted each time it is reached (what is shared counts as often as it is met; a slice's spare places count too). A statement '..UptoSaid' is the law's where the arguments, and the package variables that the reading takes, are together of bulk at most 1048576: NARROWER than '..Said'. Prove '..Said' where nothing that the law and all that it calls make is longer than what came in: it says more and counts as full. Else prove '..UptoSaid'. A law counts once. -/
mutual
def uptoBulk {H : Type} : DataW H → Nat
  | .lit (.string bytes) => bytes.length + 1
  | .lit _ => 1
  | .nil => 1
  | .ptr d => uptoBulk d + 1
  | .slice elems spare => uptoBulkAll elems + uptoBulkAll spare + 1
  | .agg parts => uptoBulkAll parts + 1
  | .iface _ d => uptoBulk d + 1
  | .map entries => uptoBulkEntries entries + 1
  | .held _ => 1
def uptoBulkAll {H : Type} : List (DataW H) → Nat
  | [] => 0
  | d :: r => uptoBulk d + uptoBulkAll r
def uptoBulkEntries {H : Type} : List (Lit × DataW H) → Nat
  | [] => 0
  | x :: r => uptoBulkEntry x + uptoBulkEntries r
def uptoBulkEntry {H : Type} : Lit × DataW H → Nat
  | (.string bytes, d) => bytes.length + uptoBulk d + 1
  | (_, d) => uptoBulk d + 1
 end
def uptoSmall : (H : Type) → List (DataW H) → Bool := fun _ ds => decide (uptoBulkAll ds ≤ 1048576)
def OpenSpec.upto (s : _root_.Go.ChangeSpec) : _root_.Go.OpenSpec := { _root_.Go.OpenSpec.ofChange s with cond := some uptoSmall }

/-- 'warderlaw03.ArenaNil', WHERE WHAT IT READS IS OF BULK AT MOST 1048576: true; the input reads as it did. -/
def arenaNilUptoRow : OpenClaim := { program := "ytcomgeaajmmpjaa", sum := "d8a7bffb64fe32e48927f039e09927c0748d72f44362dcee5a74b3d5992681b5", func := "warder/warderlaw03.ArenaNil", spec := "arenaNil", unfollowed := true, recurses := true, plainKeys := false, apart := false, narrowed := true }
def ArenaNilUptoSaid : Prop := arenaNilUptoRow.holds Try.pinned (OpenSpec.upto arenaNilSpec)

/-- 'warderlaw08.LockNil', WHERE WHAT IT READS IS OF BULK AT MOST 1048576: true; the input reads as it did. -/
def lockNilUptoRow : OpenClaim := { program := "ytcomgeaajmmpjaa", sum := "d8a7bffb64fe32e48927f039e09927c0748d72f44362dcee5a74b3d5992681b5", func := "warder/warderlaw08.LockNil", spec := "lockNil", inPlace := ["maps.clone"], unfollowed := true, recurses := true, plainKeys := false, apart := false, narrowed := true }
def LockNilUptoSaid : Prop := lockNilUptoRow.holds Try.pinned (OpenSpec.upto lockNilSpec)

/-- 'warderlaw13.ExtentNil', WHERE WHAT IT READS IS OF BULK AT MOST 1048576: true; the input reads as it did. -/
def extentNilUptoRow : OpenClaim := { program := "ytcomgeaajmmpjaa", sum := "d8a7bffb64fe32e48927f039e09927c0748d72f44362dcee5a74b3d5992681b5", func := "warder/warderlaw13.ExtentNil", spec := "extentNil", unfollowed := true, recurses := true, plainKeys := false, apart := false, narrowed := true }
def ExtentNilUptoSaid : Prop := extentNilUptoRow.holds Try.pinned (OpenSpec.upto extentNilSpec)

/-- 'warderlaw15.SerialNil', WHERE WHAT IT READS IS OF BULK AT MOST 1048576: true; the input reads as it did. -/
def serialNilUptoRow : OpenClaim := { program := "ytcomgeaajmmpjaa", sum := "d8a7bffb64fe32e48927f039e09927c0748d72f44362dcee5a74b3d5992681b5", func := "warder/warderlaw15.SerialNil", spec := "serialNil", inPlace := ["maps.clone"], unfollowed := true, recurses := true, plainKeys := false, apart := false, narrowed := true }
def SerialNilUptoSaid : Prop := serialNilUptoRow.holds Try.pinned (OpenSpec.upto serialNilSpec)

/-- 'warderlaw06.CredNil', WHERE WHAT IT READS IS OF BULK AT MOST 1048576: true; the input reads as it did. -/
def credNilUptoRow : OpenClaim := { program := "ytcomgeaajmmpjaa", sum := "d8a7bffb64fe32e48927f039e09927c0748d72f44362dcee5a74b3d5992681b5", func := "warder/warderlaw06.CredNil", spec := "credNil", inPlace := ["maps.clone"], unfollowed := true, recurses := true, plainKeys := false, apart := false, narrowed := true }
def CredNilUptoSaid : Prop := credNilUptoRow.holds Try.pinned (OpenSpec.upto credNilSpec)

/-- 'warderlaw07.RcuNil', WHERE WHAT IT READS IS OF BULK AT MOST 1048576: true; the input reads as it did. -/
def rcuNilUptoRow : OpenClaim := { program := "ytcomgeaajmmpjaa", sum := "d8a7bffb64fe32e48927f039e09927c0748d72f44362dcee5a74b3d5992681b5", func := "warder/warderlaw07.RcuNil", spec := "rcuNil", inPlace := ["maps.clone"], unfollowed := true, recurses := true, plainKeys := false, apart := false, narrowed := true }
def RcuNilUptoSaid : Prop := rcuNilUptoRow.holds Try.pinned (OpenSpec.upto rcuNilSpec)

/-- 'warderlaw16.LifeNil', WHERE WHAT IT READS IS OF BULK AT MOST 1048576: true; the input reads as it did. -/
def lifeNilUptoRow : OpenClaim := { program := "ytcomgeaajmmpjaa", sum := "d8a7bffb64fe32e48927f039e09927c0748d72f44362dcee5a74b3d5992681b5", func := "warder/warderlaw16.LifeNil", spec := "lifeNil", inPlace := ["slices.overlaps[warder/life.timer]"], unfollowed := true, recurses := true, plainKeys := false, apart := false, narrowed := true }
def LifeNilUptoSaid : Prop := lifeNilUptoRow.holds Try.pinned (OpenSpec.upto lifeNilSpec)

end Rows
end Go.Proofs.Ytcomgeaajmmpjaa
