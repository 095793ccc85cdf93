/-
  The closed facts of a great program.
-/
import Derived.Test.YtobmdlcdemolpaaGreatDoorRows
import Derived.WalkKit
import Derived.ProofKit
import Derived.OpenShut
import Derived.JoinedOf
import Derived.SevenTiedAt
import Derived.Test.YtobmdlcdemolpaaGreatDoorLaidCallNil
import Derived.Test.YtobmdlcdemolpaaGreatDoorGoesCallNil
namespace Go.Proofs.YtobmdlcdemolpaaGreatDoor.callNilClosed
theorem both {a b : Bool} (h : a = true) (hb : b = true) : (a && b) = true := by rw [h, hb]; rfl
set_option maxHeartbeats 0 in
theorem closed : joinedFacts Tryz.prog 3 Tryz.f3 Rows.callNilSpec Rows.callNilRow = true := by
  unfold joinedFacts
  rw [callNilRows.laidOut]
  repeat' (with_reducible apply both)
  all_goals as_aux_lemma => kernel_rfl
theorem fits : Rows.callNilRow.wfByText (OpenSpec.ofChange Rows.callNilSpec) = true := by kernel_rfl
theorem main : Tryz.prog.mainIs = some (true, "eff772d3b18360b34e1e282c5ec6a18765641dc27c1c3a31505b3664b8d64d06".toList) := by kernel_rfl
theorem looks : true = Tryz.prog.looks [] := by kernel_rfl
theorem named : Tryz.prog.funcNamed Rows.callNilRow.func = some 3 := by kernel_rfl
theorem goes : false = Rows.callNilRow.goesBy Tryz.prog := callNilGoes.goes_none named rfl callNilGoes.none_goes
end Go.Proofs.YtobmdlcdemolpaaGreatDoor.callNilClosed
