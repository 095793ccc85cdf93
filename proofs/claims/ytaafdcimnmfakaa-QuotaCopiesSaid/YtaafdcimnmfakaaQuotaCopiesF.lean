/-
  What QuotaCopies is proved by: what is said of functions, and calls that are walked on their own.
-/
import Derived.Test.YtaafdcimnmfakaaRows
import Derived.Test.YtaafdcimnmfakaaSzPf
import Derived.Test.YtaafdcimnmfakaaSzMe
import Derived.WalkKit
import Derived.ProofKit
import Derived.OpenShut
import Derived.Test.YtaafdcimnmfakaaQuotaCopiesE
namespace Go.Proofs.Ytaafdcimnmfakaa.quotaCopies
open Go.Sx Go.ChangeShapes Go.WideShapes Go.ChangeAt Go.RowKit
set_option linter.unusedVariables false

def kn_mCBTFF : Kn := { cons := [fOf.con, fRoom.con] }
theorem known_mCBTFF : Known Try.prog kn_mCBTFF ⟨0, prd⟩ := ⟨fun f hf => (by cases hf), (all_cons (con_ok ok_fOf) (all_cons (con_ok ok_fRoom) all_nil))⟩
def cs_mCBTFF : List BE := [eqI (kindOf mCBTFF) (.lit 1), eqI (kindOf mCBTFF) (.lit 2), eqI (kindOf mCBTFF) (.lit 3)]
def case_mCBTFF_0 : List BE := ((parts cs_mCBTFF)[0]?).getD []
set_option maxRecDepth 100000 in
theorem ran_mCBTFF_0 : memoRunC Try.prog true kn_mCBTFF 300 60 (cfgC [true, false, false]) mCBTFF case_mCBTFF_0 = true := by kernel_rfl
def case_mCBTFF_1 : List BE := ((parts cs_mCBTFF)[1]?).getD []
set_option maxRecDepth 100000 in
theorem ran_mCBTFF_1 : memoRunC Try.prog true kn_mCBTFF 300 60 (cfgC [true, false, false]) mCBTFF case_mCBTFF_1 = true := by kernel_rfl
def case_mCBTFF_2 : List BE := ((parts cs_mCBTFF)[2]?).getD []
set_option maxRecDepth 100000 in
theorem ran_mCBTFF_2 : memoRunC Try.prog true kn_mCBTFF 300 60 (cfgC [true, false, false]) mCBTFF case_mCBTFF_2 = true := by kernel_rfl
def case_mCBTFF_3 : List BE := ((parts cs_mCBTFF)[3]?).getD []
set_option maxRecDepth 100000 in
theorem ran_mCBTFF_3 : memoRunC Try.prog true kn_mCBTFF 300 60 (cfgC [true, false, false]) mCBTFF case_mCBTFF_3 = true := by kernel_rfl
theorem ok_mCBTFF : ConOk Try.prog mCBTFF.con ⟨0, prd⟩ := memo_parts (dr := true) (kn := kn_mCBTFF) (fuel := 300) (d := 60) (cfg := cfgC [true, false, false]) (bs := cs_mCBTFF) (cs := [case_mCBTFF_0, case_mCBTFF_1, case_mCBTFF_2, case_mCBTFF_3]) (by kernel_rfl) plain known_mCBTFF (fun _ call hC => anyOk (by kernel_rfl) plain hC) (fun ι hp => rules_of rulesC_ok ι hp) (all_cons ran_mCBTFF_0 (all_cons ran_mCBTFF_1 (all_cons ran_mCBTFF_2 (all_cons ran_mCBTFF_3 all_nil))))

def kn_mC0TFT : Kn := { cons := [fOf.con, fRoom.con] }
theorem known_mC0TFT : Known Try.prog kn_mC0TFT ⟨0, prd⟩ := ⟨fun f hf => (by cases hf), (all_cons (con_ok ok_fOf) (all_cons (con_ok ok_fRoom) all_nil))⟩
def cs_mC0TFT : List BE := []
def case_mC0TFT_0 : List BE := ((parts cs_mC0TFT)[0]?).getD []
set_option maxRecDepth 100000 in
theorem ran_mC0TFT_0 : memoRunC Try.prog true kn_mC0TFT 300 60 (cfgC0 [true, false, true]) mC0TFT case_mC0TFT_0 = true := by kernel_rfl
theorem ok_mC0TFT : ConOk Try.prog mC0TFT.con ⟨0, prd⟩ := memo_parts (dr := true) (kn := kn_mC0TFT) (fuel := 300) (d := 60) (cfg := cfgC0 [true, false, true]) (bs := cs_mC0TFT) (cs := [case_mC0TFT_0]) (by kernel_rfl) plain known_mC0TFT (fun _ call hC => anyOk (by kernel_rfl) plain hC) (fun ι hp => rules_of rules_ok ι hp) (all_cons ran_mC0TFT_0 all_nil)

def kn_mCATFT : Kn := { cons := [fOf.con, fRoom.con] }
theorem known_mCATFT : Known Try.prog kn_mCATFT ⟨0, prd⟩ := ⟨fun f hf => (by cases hf), (all_cons (con_ok ok_fOf) (all_cons (con_ok ok_fRoom) all_nil))⟩
def cs_mCATFT : List BE := [eqI (kindOf mCATFT) (.lit 1), eqI (kindOf mCATFT) (.lit 2), eqI (kindOf mCATFT) (.lit 3)]
def case_mCATFT_0 : List BE := ((parts cs_mCATFT)[0]?).getD []
set_option maxRecDepth 100000 in
theorem ran_mCATFT_0 : memoRunC Try.prog true kn_mCATFT 300 60 (cfgC [true, false, true]) mCATFT case_mCATFT_0 = true := by kernel_rfl
def case_mCATFT_1 : List BE := ((parts cs_mCATFT)[1]?).getD []
set_option maxRecDepth 100000 in
theorem ran_mCATFT_1 : memoRunC Try.prog true kn_mCATFT 300 60 (cfgC [true, false, true]) mCATFT case_mCATFT_1 = true := by kernel_rfl
def case_mCATFT_2 : List BE := ((parts cs_mCATFT)[2]?).getD []
set_option maxRecDepth 100000 in
theorem ran_mCATFT_2 : memoRunC Try.prog true kn_mCATFT 300 60 (cfgC [true, false, true]) mCATFT case_mCATFT_2 = true := by kernel_rfl
def case_mCATFT_3 : List BE := ((parts cs_mCATFT)[3]?).getD []
set_option maxRecDepth 100000 in
theorem ran_mCATFT_3 : memoRunC Try.prog true kn_mCATFT 300 60 (cfgC [true, false, true]) mCATFT case_mCATFT_3 = true := by kernel_rfl
theorem ok_mCATFT : ConOk Try.prog mCATFT.con ⟨0, prd⟩ := memo_parts (dr := true) (kn := kn_mCATFT) (fuel := 300) (d := 60) (cfg := cfgC [true, false, true]) (bs := cs_mCATFT) (cs := [case_mCATFT_0, case_mCATFT_1, case_mCATFT_2, case_mCATFT_3]) (by kernel_rfl) plain known_mCATFT (fun _ call hC => anyOk (by kernel_rfl) plain hC) (fun ι hp => rules_of rulesC_ok ι hp) (all_cons ran_mCATFT_0 (all_cons ran_mCATFT_1 (all_cons ran_mCATFT_2 (all_cons ran_mCATFT_3 all_nil))))

end Go.Proofs.Ytaafdcimnmfakaa.quotaCopies
