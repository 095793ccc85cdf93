/-
  What QuotaCopies is proved by: what is said of functions, and calls that are walked on their own.
-/
import Derived.Test.YtaafdcimnmfakaaRows
import Derived.Test.YtaafdcimnmfakaaSzPf
import Derived.Test.YtaafdcimnmfakaaSzMe
import Derived.WalkKit
import Derived.ProofKit
import Derived.OpenShut
import Derived.Test.YtaafdcimnmfakaaQuotaCopiesD
namespace Go.Proofs.Ytaafdcimnmfakaa.quotaCopies
open Go.Sx Go.ChangeShapes Go.WideShapes Go.ChangeAt Go.RowKit
set_option linter.unusedVariables false

def kn_mC0FTT : Kn := { cons := [fOf.con, fRoom.con, mCRFTT.con] }
theorem known_mC0FTT : Known Try.prog kn_mC0FTT ⟨0, prd⟩ := ⟨fun f hf => (by cases hf), (all_cons (con_ok ok_fOf) (all_cons (con_ok ok_fRoom) (all_cons ok_mCRFTT all_nil)))⟩
def cs_mC0FTT : List BE := []
def case_mC0FTT_0 : List BE := ((parts cs_mC0FTT)[0]?).getD []
set_option maxRecDepth 100000 in
theorem ran_mC0FTT_0 : memoRunC Try.prog true kn_mC0FTT 300 60 (cfgC0 [false, true, true]) mC0FTT case_mC0FTT_0 = true := by kernel_rfl
theorem ok_mC0FTT : ConOk Try.prog mC0FTT.con ⟨0, prd⟩ := memo_parts (dr := true) (kn := kn_mC0FTT) (fuel := 300) (d := 60) (cfg := cfgC0 [false, true, true]) (bs := cs_mC0FTT) (cs := [case_mC0FTT_0]) (by kernel_rfl) plain known_mC0FTT (fun _ call hC => anyOk (by kernel_rfl) plain hC) (fun ι hp => rules_of rules_ok ι hp) (all_cons ran_mC0FTT_0 all_nil)

def kn_mC0TFF : Kn := { cons := [fOf.con, fRoom.con] }
theorem known_mC0TFF : Known Try.prog kn_mC0TFF ⟨0, prd⟩ := ⟨fun f hf => (by cases hf), (all_cons (con_ok ok_fOf) (all_cons (con_ok ok_fRoom) all_nil))⟩
def cs_mC0TFF : List BE := []
def case_mC0TFF_0 : List BE := ((parts cs_mC0TFF)[0]?).getD []
set_option maxRecDepth 100000 in
theorem ran_mC0TFF_0 : memoRunC Try.prog true kn_mC0TFF 300 60 (cfgC0 [true, false, false]) mC0TFF case_mC0TFF_0 = true := by kernel_rfl
theorem ok_mC0TFF : ConOk Try.prog mC0TFF.con ⟨0, prd⟩ := memo_parts (dr := true) (kn := kn_mC0TFF) (fuel := 300) (d := 60) (cfg := cfgC0 [true, false, false]) (bs := cs_mC0TFF) (cs := [case_mC0TFF_0]) (by kernel_rfl) plain known_mC0TFF (fun _ call hC => anyOk (by kernel_rfl) plain hC) (fun ι hp => rules_of rules_ok ι hp) (all_cons ran_mC0TFF_0 all_nil)

def kn_mCATFF : Kn := { cons := [fOf.con, fRoom.con] }
theorem known_mCATFF : Known Try.prog kn_mCATFF ⟨0, prd⟩ := ⟨fun f hf => (by cases hf), (all_cons (con_ok ok_fOf) (all_cons (con_ok ok_fRoom) all_nil))⟩
def cs_mCATFF : List BE := [eqI (kindOf mCATFF) (.lit 1), eqI (kindOf mCATFF) (.lit 2), eqI (kindOf mCATFF) (.lit 3)]
def case_mCATFF_0 : List BE := ((parts cs_mCATFF)[0]?).getD []
set_option maxRecDepth 100000 in
theorem ran_mCATFF_0 : memoRunC Try.prog true kn_mCATFF 300 60 (cfgC [true, false, false]) mCATFF case_mCATFF_0 = true := by kernel_rfl
def case_mCATFF_1 : List BE := ((parts cs_mCATFF)[1]?).getD []
set_option maxRecDepth 100000 in
theorem ran_mCATFF_1 : memoRunC Try.prog true kn_mCATFF 300 60 (cfgC [true, false, false]) mCATFF case_mCATFF_1 = true := by kernel_rfl
def case_mCATFF_2 : List BE := ((parts cs_mCATFF)[2]?).getD []
set_option maxRecDepth 100000 in
theorem ran_mCATFF_2 : memoRunC Try.prog true kn_mCATFF 300 60 (cfgC [true, false, false]) mCATFF case_mCATFF_2 = true := by kernel_rfl
def case_mCATFF_3 : List BE := ((parts cs_mCATFF)[3]?).getD []
set_option maxRecDepth 100000 in
theorem ran_mCATFF_3 : memoRunC Try.prog true kn_mCATFF 300 60 (cfgC [true, false, false]) mCATFF case_mCATFF_3 = true := by kernel_rfl
theorem ok_mCATFF : ConOk Try.prog mCATFF.con ⟨0, prd⟩ := memo_parts (dr := true) (kn := kn_mCATFF) (fuel := 300) (d := 60) (cfg := cfgC [true, false, false]) (bs := cs_mCATFF) (cs := [case_mCATFF_0, case_mCATFF_1, case_mCATFF_2, case_mCATFF_3]) (by kernel_rfl) plain known_mCATFF (fun _ call hC => anyOk (by kernel_rfl) plain hC) (fun ι hp => rules_of rulesC_ok ι hp) (all_cons ran_mCATFF_0 (all_cons ran_mCATFF_1 (all_cons ran_mCATFF_2 (all_cons ran_mCATFF_3 all_nil))))

end Go.Proofs.Ytaafdcimnmfakaa.quotaCopies
