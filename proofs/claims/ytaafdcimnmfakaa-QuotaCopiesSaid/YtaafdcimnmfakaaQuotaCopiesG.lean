/-
  What QuotaCopies is proved by: what is said of functions, and calls that are walked on their own.
-/
import Derived.Test.YtaafdcimnmfakaaRows
import Derived.Test.YtaafdcimnmfakaaSzPf
import Derived.Test.YtaafdcimnmfakaaSzMe
import Derived.WalkKit
import Derived.ProofKit
import Derived.OpenShut
import Derived.Test.YtaafdcimnmfakaaQuotaCopiesF
namespace Go.Proofs.Ytaafdcimnmfakaa.quotaCopies
open Go.Sx Go.ChangeShapes Go.WideShapes Go.ChangeAt Go.RowKit
set_option linter.unusedVariables false

def kn_mCBTTF : Kn := { cons := [fOf.con, fRoom.con] }
theorem known_mCBTTF : Known Try.prog kn_mCBTTF ⟨0, prd⟩ := ⟨fun f hf => (by cases hf), (all_cons (con_ok ok_fOf) (all_cons (con_ok ok_fRoom) all_nil))⟩
def cs_mCBTTF : List BE := [eqI (kindOf mCBTTF) (.lit 1), eqI (kindOf mCBTTF) (.lit 2), eqI (kindOf mCBTTF) (.lit 3)]
def case_mCBTTF_0 : List BE := ((parts cs_mCBTTF)[0]?).getD []
set_option maxRecDepth 100000 in
theorem ran_mCBTTF_0 : memoRunC Try.prog true kn_mCBTTF 300 60 (cfgC [true, true, false]) mCBTTF case_mCBTTF_0 = true := by kernel_rfl
def case_mCBTTF_1 : List BE := ((parts cs_mCBTTF)[1]?).getD []
set_option maxRecDepth 100000 in
theorem ran_mCBTTF_1 : memoRunC Try.prog true kn_mCBTTF 300 60 (cfgC [true, true, false]) mCBTTF case_mCBTTF_1 = true := by kernel_rfl
def case_mCBTTF_2 : List BE := ((parts cs_mCBTTF)[2]?).getD []
set_option maxRecDepth 100000 in
theorem ran_mCBTTF_2 : memoRunC Try.prog true kn_mCBTTF 300 60 (cfgC [true, true, false]) mCBTTF case_mCBTTF_2 = true := by kernel_rfl
def case_mCBTTF_3 : List BE := ((parts cs_mCBTTF)[3]?).getD []
set_option maxRecDepth 100000 in
theorem ran_mCBTTF_3 : memoRunC Try.prog true kn_mCBTTF 300 60 (cfgC [true, true, false]) mCBTTF case_mCBTTF_3 = true := by kernel_rfl
theorem ok_mCBTTF : ConOk Try.prog mCBTTF.con ⟨0, prd⟩ := memo_parts (dr := true) (kn := kn_mCBTTF) (fuel := 300) (d := 60) (cfg := cfgC [true, true, false]) (bs := cs_mCBTTF) (cs := [case_mCBTTF_0, case_mCBTTF_1, case_mCBTTF_2, case_mCBTTF_3]) (by kernel_rfl) plain known_mCBTTF (fun _ call hC => anyOk (by kernel_rfl) plain hC) (fun ι hp => rules_of rulesC_ok ι hp) (all_cons ran_mCBTTF_0 (all_cons ran_mCBTTF_1 (all_cons ran_mCBTTF_2 (all_cons ran_mCBTTF_3 all_nil))))

def kn_mC0TTT : Kn := { cons := [fOf.con, fRoom.con] }
theorem known_mC0TTT : Known Try.prog kn_mC0TTT ⟨0, prd⟩ := ⟨fun f hf => (by cases hf), (all_cons (con_ok ok_fOf) (all_cons (con_ok ok_fRoom) all_nil))⟩
def cs_mC0TTT : List BE := []
def case_mC0TTT_0 : List BE := ((parts cs_mC0TTT)[0]?).getD []
set_option maxRecDepth 100000 in
theorem ran_mC0TTT_0 : memoRunC Try.prog true kn_mC0TTT 300 60 (cfgC0 [true, true, true]) mC0TTT case_mC0TTT_0 = true := by kernel_rfl
theorem ok_mC0TTT : ConOk Try.prog mC0TTT.con ⟨0, prd⟩ := memo_parts (dr := true) (kn := kn_mC0TTT) (fuel := 300) (d := 60) (cfg := cfgC0 [true, true, true]) (bs := cs_mC0TTT) (cs := [case_mC0TTT_0]) (by kernel_rfl) plain known_mC0TTT (fun _ call hC => anyOk (by kernel_rfl) plain hC) (fun ι hp => rules_of rules_ok ι hp) (all_cons ran_mC0TTT_0 all_nil)

end Go.Proofs.Ytaafdcimnmfakaa.quotaCopies
