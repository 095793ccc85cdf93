/-
  The closed facts of a great program.
-/
import Derived.Test.YtobmdlcdemolpaaGreatDoorRows
import Derived.WalkKit
import Derived.ProofKit
import Derived.OpenShut
import Derived.JoinedOf
import Derived.SevenTiedAt
import Derived.Test.YtobmdlcdemolpaaGreatDoorLaidMachineNil
import Derived.Test.YtobmdlcdemolpaaGreatDoorGoesMachineNil
namespace Go.Proofs.YtobmdlcdemolpaaGreatDoor.machineNilClosed
theorem both {a b : Bool} (h : a = true) (hb : b = true) : (a && b) = true := by rw [h, hb]; rfl
set_option maxHeartbeats 0 in
theorem closed : joinedFacts Tryz.prog 4 Tryz.f4 Rows.machineNilSpec Rows.machineNilRow = true := by
  unfold joinedFacts
  rw [machineNilRows.laidOut]
  repeat' (with_reducible apply both)
  all_goals as_aux_lemma => kernel_rfl
theorem fits : Rows.machineNilRow.wfByText (OpenSpec.ofChange Rows.machineNilSpec) = true := by kernel_rfl
theorem main : Tryz.prog.mainIs = some (true, "eff772d3b18360b34e1e282c5ec6a18765641dc27c1c3a31505b3664b8d64d06".toList) := by kernel_rfl
theorem looks : true = Tryz.prog.looks [] := by kernel_rfl
theorem named : Tryz.prog.funcNamed Rows.machineNilRow.func = some 4 := by kernel_rfl
theorem goes : false = Rows.machineNilRow.goesBy Tryz.prog := machineNilGoes.goes_none named rfl machineNilGoes.none_goes
end Go.Proofs.YtobmdlcdemolpaaGreatDoor.machineNilClosed
