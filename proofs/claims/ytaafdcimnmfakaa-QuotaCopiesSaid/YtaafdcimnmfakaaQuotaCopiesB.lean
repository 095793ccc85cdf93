/-
  What QuotaCopies is proved by: what is said of functions, and calls that are walked on their own.
-/
import Derived.Test.YtaafdcimnmfakaaRows
import Derived.Test.YtaafdcimnmfakaaSzPf
import Derived.Test.YtaafdcimnmfakaaSzMe
import Derived.WalkKit
import Derived.ProofKit
import Derived.OpenShut
import Derived.Test.YtaafdcimnmfakaaQuotaCopiesA
namespace Go.Proofs.Ytaafdcimnmfakaa.quotaCopies
open Go.Sx Go.ChangeShapes Go.WideShapes Go.ChangeAt Go.RowKit
set_option linter.unusedVariables false

def kn_mCRFFF : Kn := { cons := [fOf.con, fRoom.con] }
theorem known_mCRFFF : Known Try.prog kn_mCRFFF ⟨0, prd⟩ := ⟨fun f hf => (by cases hf), (all_cons (con_ok ok_fOf) (all_cons (con_ok ok_fRoom) all_nil))⟩
def cs_mCRFFF : List BE := [eqI (kindOf mCRFFF) (.lit 1), eqI (kindOf mCRFFF) (.lit 2), eqI (kindOf mCRFFF) (.lit 3)]
def case_mCRFFF_0 : List BE := ((parts cs_mCRFFF)[0]?).getD []
set_option maxRecDepth 100000 in
theorem ran_mCRFFF_0 : memoRunC Try.prog true kn_mCRFFF 300 60 (cfgC0 [false, false, false]) mCRFFF case_mCRFFF_0 = true := by kernel_rfl
def case_mCRFFF_1 : List BE := ((parts cs_mCRFFF)[1]?).getD []
set_option maxRecDepth 100000 in
theorem ran_mCRFFF_1 : memoRunC Try.prog true kn_mCRFFF 300 60 (cfgC0 [false, false, false]) mCRFFF case_mCRFFF_1 = true := by kernel_rfl
def case_mCRFFF_2 : List BE := ((parts cs_mCRFFF)[2]?).getD []
set_option maxRecDepth 100000 in
theorem ran_mCRFFF_2 : memoRunC Try.prog true kn_mCRFFF 300 60 (cfgC0 [false, false, false]) mCRFFF case_mCRFFF_2 = true := by kernel_rfl
def case_mCRFFF_3 : List BE := ((parts cs_mCRFFF)[3]?).getD []
set_option maxRecDepth 100000 in
theorem ran_mCRFFF_3 : memoRunC Try.prog true kn_mCRFFF 300 60 (cfgC0 [false, false, false]) mCRFFF case_mCRFFF_3 = true := by kernel_rfl
theorem ok_mCRFFF : ConOk Try.prog mCRFFF.con ⟨0, prd⟩ := memo_parts (dr := true) (kn := kn_mCRFFF) (fuel := 300) (d := 60) (cfg := cfgC0 [false, false, false]) (bs := cs_mCRFFF) (cs := [case_mCRFFF_0, case_mCRFFF_1, case_mCRFFF_2, case_mCRFFF_3]) (by kernel_rfl) plain known_mCRFFF (fun _ call hC => anyOk (by kernel_rfl) plain hC) (fun ι hp => rules_of rules_ok ι hp) (all_cons ran_mCRFFF_0 (all_cons ran_mCRFFF_1 (all_cons ran_mCRFFF_2 (all_cons ran_mCRFFF_3 all_nil))))

def kn_mC0FFF : Kn := { cons := [fOf.con, fRoom.con, mCRFFF.con] }
theorem known_mC0FFF : Known Try.prog kn_mC0FFF ⟨0, prd⟩ := ⟨fun f hf => (by cases hf), (all_cons (con_ok ok_fOf) (all_cons (con_ok ok_fRoom) (all_cons ok_mCRFFF all_nil)))⟩
def cs_mC0FFF : List BE := []
def case_mC0FFF_0 : List BE := ((parts cs_mC0FFF)[0]?).getD []
set_option maxRecDepth 100000 in
theorem ran_mC0FFF_0 : memoRunC Try.prog true kn_mC0FFF 300 60 (cfgC0 [false, false, false]) mC0FFF case_mC0FFF_0 = true := by kernel_rfl
theorem ok_mC0FFF : ConOk Try.prog mC0FFF.con ⟨0, prd⟩ := memo_parts (dr := true) (kn := kn_mC0FFF) (fuel := 300) (d := 60) (cfg := cfgC0 [false, false, false]) (bs := cs_mC0FFF) (cs := [case_mC0FFF_0]) (by kernel_rfl) plain known_mC0FFF (fun _ call hC => anyOk (by kernel_rfl) plain hC) (fun ι hp => rules_of rules_ok ι hp) (all_cons ran_mC0FFF_0 all_nil)

def kn_mCAFFF : Kn := { cons := [fOf.con, fRoom.con] }
theorem known_mCAFFF : Known Try.prog kn_mCAFFF ⟨0, prd⟩ := ⟨fun f hf => (by cases hf), (all_cons (con_ok ok_fOf) (all_cons (con_ok ok_fRoom) all_nil))⟩
def cs_mCAFFF : List BE := [eqI (kindOf mCAFFF) (.lit 1), eqI (kindOf mCAFFF) (.lit 2), eqI (kindOf mCAFFF) (.lit 3)]
def case_mCAFFF_0 : List BE := ((parts cs_mCAFFF)[0]?).getD []
set_option maxRecDepth 100000 in
theorem ran_mCAFFF_0 : memoRunC Try.prog true kn_mCAFFF 300 60 (cfgC [false, false, false]) mCAFFF case_mCAFFF_0 = true := by kernel_rfl
def case_mCAFFF_1 : List BE := ((parts cs_mCAFFF)[1]?).getD []
set_option maxRecDepth 100000 in
theorem ran_mCAFFF_1 : memoRunC Try.prog true kn_mCAFFF 300 60 (cfgC [false, false, false]) mCAFFF case_mCAFFF_1 = true := by kernel_rfl
def case_mCAFFF_2 : List BE := ((parts cs_mCAFFF)[2]?).getD []
set_option maxRecDepth 100000 in
theorem ran_mCAFFF_2 : memoRunC Try.prog true kn_mCAFFF 300 60 (cfgC [false, false, false]) mCAFFF case_mCAFFF_2 = true := by kernel_rfl
def case_mCAFFF_3 : List BE := ((parts cs_mCAFFF)[3]?).getD []
set_option maxRecDepth 100000 in
theorem ran_mCAFFF_3 : memoRunC Try.prog true kn_mCAFFF 300 60 (cfgC [false, false, false]) mCAFFF case_mCAFFF_3 = true := by kernel_rfl
theorem ok_mCAFFF : ConOk Try.prog mCAFFF.con ⟨0, prd⟩ := memo_parts (dr := true) (kn := kn_mCAFFF) (fuel := 300) (d := 60) (cfg := cfgC [false, false, false]) (bs := cs_mCAFFF) (cs := [case_mCAFFF_0, case_mCAFFF_1, case_mCAFFF_2, case_mCAFFF_3]) (by kernel_rfl) plain known_mCAFFF (fun _ call hC => anyOk (by kernel_rfl) plain hC) (fun ι hp => rules_of rulesC_ok ι hp) (all_cons ran_mCAFFF_0 (all_cons ran_mCAFFF_1 (all_cons ran_mCAFFF_2 (all_cons ran_mCAFFF_3 all_nil))))

end Go.Proofs.Ytaafdcimnmfakaa.quotaCopies
