/-
  What QuotaCopies is proved by: what is said of functions, and calls that are walked on their own.
-/
import Derived.Test.YtaafdcimnmfakaaRows
import Derived.Test.YtaafdcimnmfakaaSzPf
import Derived.Test.YtaafdcimnmfakaaSzMe
import Derived.WalkKit
import Derived.ProofKit
import Derived.OpenShut
import Derived.Test.YtaafdcimnmfakaaQuotaCopiesC
namespace Go.Proofs.Ytaafdcimnmfakaa.quotaCopies
open Go.Sx Go.ChangeShapes Go.WideShapes Go.ChangeAt Go.RowKit
set_option linter.unusedVariables false

def kn_mCAFFT : Kn := { cons := [fOf.con, fRoom.con] }
theorem known_mCAFFT : Known Try.prog kn_mCAFFT ⟨0, prd⟩ := ⟨fun f hf => (by cases hf), (all_cons (con_ok ok_fOf) (all_cons (con_ok ok_fRoom) all_nil))⟩
def cs_mCAFFT : List BE := [eqI (kindOf mCAFFT) (.lit 1), eqI (kindOf mCAFFT) (.lit 2), eqI (kindOf mCAFFT) (.lit 3)]
def case_mCAFFT_0 : List BE := ((parts cs_mCAFFT)[0]?).getD []
set_option maxRecDepth 100000 in
theorem ran_mCAFFT_0 : memoRunC Try.prog true kn_mCAFFT 300 60 (cfgC [false, false, true]) mCAFFT case_mCAFFT_0 = true := by kernel_rfl
def case_mCAFFT_1 : List BE := ((parts cs_mCAFFT)[1]?).getD []
set_option maxRecDepth 100000 in
theorem ran_mCAFFT_1 : memoRunC Try.prog true kn_mCAFFT 300 60 (cfgC [false, false, true]) mCAFFT case_mCAFFT_1 = true := by kernel_rfl
def case_mCAFFT_2 : List BE := ((parts cs_mCAFFT)[2]?).getD []
set_option maxRecDepth 100000 in
theorem ran_mCAFFT_2 : memoRunC Try.prog true kn_mCAFFT 300 60 (cfgC [false, false, true]) mCAFFT case_mCAFFT_2 = true := by kernel_rfl
def case_mCAFFT_3 : List BE := ((parts cs_mCAFFT)[3]?).getD []
set_option maxRecDepth 100000 in
theorem ran_mCAFFT_3 : memoRunC Try.prog true kn_mCAFFT 300 60 (cfgC [false, false, true]) mCAFFT case_mCAFFT_3 = true := by kernel_rfl
theorem ok_mCAFFT : ConOk Try.prog mCAFFT.con ⟨0, prd⟩ := memo_parts (dr := true) (kn := kn_mCAFFT) (fuel := 300) (d := 60) (cfg := cfgC [false, false, true]) (bs := cs_mCAFFT) (cs := [case_mCAFFT_0, case_mCAFFT_1, case_mCAFFT_2, case_mCAFFT_3]) (by kernel_rfl) plain known_mCAFFT (fun _ call hC => anyOk (by kernel_rfl) plain hC) (fun ι hp => rules_of rulesC_ok ι hp) (all_cons ran_mCAFFT_0 (all_cons ran_mCAFFT_1 (all_cons ran_mCAFFT_2 (all_cons ran_mCAFFT_3 all_nil))))

def kn_mCBFTF : Kn := { cons := [fOf.con, fRoom.con] }
theorem known_mCBFTF : Known Try.prog kn_mCBFTF ⟨0, prd⟩ := ⟨fun f hf => (by cases hf), (all_cons (con_ok ok_fOf) (all_cons (con_ok ok_fRoom) all_nil))⟩
def cs_mCBFTF : List BE := [eqI (kindOf mCBFTF) (.lit 1), eqI (kindOf mCBFTF) (.lit 2), eqI (kindOf mCBFTF) (.lit 3)]
def case_mCBFTF_0 : List BE := ((parts cs_mCBFTF)[0]?).getD []
set_option maxRecDepth 100000 in
theorem ran_mCBFTF_0 : memoRunC Try.prog true kn_mCBFTF 300 60 (cfgC [false, true, false]) mCBFTF case_mCBFTF_0 = true := by kernel_rfl
def case_mCBFTF_1 : List BE := ((parts cs_mCBFTF)[1]?).getD []
set_option maxRecDepth 100000 in
theorem ran_mCBFTF_1 : memoRunC Try.prog true kn_mCBFTF 300 60 (cfgC [false, true, false]) mCBFTF case_mCBFTF_1 = true := by kernel_rfl
def case_mCBFTF_2 : List BE := ((parts cs_mCBFTF)[2]?).getD []
set_option maxRecDepth 100000 in
theorem ran_mCBFTF_2 : memoRunC Try.prog true kn_mCBFTF 300 60 (cfgC [false, true, false]) mCBFTF case_mCBFTF_2 = true := by kernel_rfl
def case_mCBFTF_3 : List BE := ((parts cs_mCBFTF)[3]?).getD []
set_option maxRecDepth 100000 in
theorem ran_mCBFTF_3 : memoRunC Try.prog true kn_mCBFTF 300 60 (cfgC [false, true, false]) mCBFTF case_mCBFTF_3 = true := by kernel_rfl
theorem ok_mCBFTF : ConOk Try.prog mCBFTF.con ⟨0, prd⟩ := memo_parts (dr := true) (kn := kn_mCBFTF) (fuel := 300) (d := 60) (cfg := cfgC [false, true, false]) (bs := cs_mCBFTF) (cs := [case_mCBFTF_0, case_mCBFTF_1, case_mCBFTF_2, case_mCBFTF_3]) (by kernel_rfl) plain known_mCBFTF (fun _ call hC => anyOk (by kernel_rfl) plain hC) (fun ι hp => rules_of rulesC_ok ι hp) (all_cons ran_mCBFTF_0 (all_cons ran_mCBFTF_1 (all_cons ran_mCBFTF_2 (all_cons ran_mCBFTF_3 all_nil))))

def kn_mCRFTT : Kn := { cons := [fOf.con, fRoom.con] }
theorem known_mCRFTT : Known Try.prog kn_mCRFTT ⟨0, prd⟩ := ⟨fun f hf => (by cases hf), (all_cons (con_ok ok_fOf) (all_cons (con_ok ok_fRoom) all_nil))⟩
def cs_mCRFTT : List BE := [eqI (kindOf mCRFTT) (.lit 1), eqI (kindOf mCRFTT) (.lit 2), eqI (kindOf mCRFTT) (.lit 3)]
def case_mCRFTT_0 : List BE := ((parts cs_mCRFTT)[0]?).getD []
set_option maxRecDepth 100000 in
theorem ran_mCRFTT_0 : memoRunC Try.prog true kn_mCRFTT 300 60 (cfgC0 [false, true, true]) mCRFTT case_mCRFTT_0 = true := by kernel_rfl
def case_mCRFTT_1 : List BE := ((parts cs_mCRFTT)[1]?).getD []
set_option maxRecDepth 100000 in
theorem ran_mCRFTT_1 : memoRunC Try.prog true kn_mCRFTT 300 60 (cfgC0 [false, true, true]) mCRFTT case_mCRFTT_1 = true := by kernel_rfl
def case_mCRFTT_2 : List BE := ((parts cs_mCRFTT)[2]?).getD []
set_option maxRecDepth 100000 in
theorem ran_mCRFTT_2 : memoRunC Try.prog true kn_mCRFTT 300 60 (cfgC0 [false, true, true]) mCRFTT case_mCRFTT_2 = true := by kernel_rfl
def case_mCRFTT_3 : List BE := ((parts cs_mCRFTT)[3]?).getD []
set_option maxRecDepth 100000 in
theorem ran_mCRFTT_3 : memoRunC Try.prog true kn_mCRFTT 300 60 (cfgC0 [false, true, true]) mCRFTT case_mCRFTT_3 = true := by kernel_rfl
theorem ok_mCRFTT : ConOk Try.prog mCRFTT.con ⟨0, prd⟩ := memo_parts (dr := true) (kn := kn_mCRFTT) (fuel := 300) (d := 60) (cfg := cfgC0 [false, true, true]) (bs := cs_mCRFTT) (cs := [case_mCRFTT_0, case_mCRFTT_1, case_mCRFTT_2, case_mCRFTT_3]) (by kernel_rfl) plain known_mCRFTT (fun _ call hC => anyOk (by kernel_rfl) plain hC) (fun ι hp => rules_of rules_ok ι hp) (all_cons ran_mCRFTT_0 (all_cons ran_mCRFTT_1 (all_cons ran_mCRFTT_2 (all_cons ran_mCRFTT_3 all_nil))))

end Go.Proofs.Ytaafdcimnmfakaa.quotaCopies
