/-
  What QuotaCopies is proved by: what is said of functions, and calls that are walked on their own.
-/
import Derived.Test.YtaafdcimnmfakaaRows
import Derived.Test.YtaafdcimnmfakaaSzPf
import Derived.Test.YtaafdcimnmfakaaSzMe
import Derived.WalkKit
import Derived.ProofKit
import Derived.OpenShut
import Derived.Test.YtaafdcimnmfakaaQuotaCopiesB
namespace Go.Proofs.Ytaafdcimnmfakaa.quotaCopies
open Go.Sx Go.ChangeShapes Go.WideShapes Go.ChangeAt Go.RowKit
set_option linter.unusedVariables false

def kn_mCBFFF : Kn := { cons := [fOf.con, fRoom.con] }
theorem known_mCBFFF : Known Try.prog kn_mCBFFF ⟨0, prd⟩ := ⟨fun f hf => (by cases hf), (all_cons (con_ok ok_fOf) (all_cons (con_ok ok_fRoom) all_nil))⟩
def cs_mCBFFF : List BE := [eqI (kindOf mCBFFF) (.lit 1), eqI (kindOf mCBFFF) (.lit 2), eqI (kindOf mCBFFF) (.lit 3)]
def case_mCBFFF_0 : List BE := ((parts cs_mCBFFF)[0]?).getD []
set_option maxRecDepth 100000 in
theorem ran_mCBFFF_0 : memoRunC Try.prog true kn_mCBFFF 300 60 (cfgC [false, false, false]) mCBFFF case_mCBFFF_0 = true := by kernel_rfl
def case_mCBFFF_1 : List BE := ((parts cs_mCBFFF)[1]?).getD []
set_option maxRecDepth 100000 in
theorem ran_mCBFFF_1 : memoRunC Try.prog true kn_mCBFFF 300 60 (cfgC [false, false, false]) mCBFFF case_mCBFFF_1 = true := by kernel_rfl
def case_mCBFFF_2 : List BE := ((parts cs_mCBFFF)[2]?).getD []
set_option maxRecDepth 100000 in
theorem ran_mCBFFF_2 : memoRunC Try.prog true kn_mCBFFF 300 60 (cfgC [false, false, false]) mCBFFF case_mCBFFF_2 = true := by kernel_rfl
def case_mCBFFF_3 : List BE := ((parts cs_mCBFFF)[3]?).getD []
set_option maxRecDepth 100000 in
theorem ran_mCBFFF_3 : memoRunC Try.prog true kn_mCBFFF 300 60 (cfgC [false, false, false]) mCBFFF case_mCBFFF_3 = true := by kernel_rfl
theorem ok_mCBFFF : ConOk Try.prog mCBFFF.con ⟨0, prd⟩ := memo_parts (dr := true) (kn := kn_mCBFFF) (fuel := 300) (d := 60) (cfg := cfgC [false, false, false]) (bs := cs_mCBFFF) (cs := [case_mCBFFF_0, case_mCBFFF_1, case_mCBFFF_2, case_mCBFFF_3]) (by kernel_rfl) plain known_mCBFFF (fun _ call hC => anyOk (by kernel_rfl) plain hC) (fun ι hp => rules_of rulesC_ok ι hp) (all_cons ran_mCBFFF_0 (all_cons ran_mCBFFF_1 (all_cons ran_mCBFFF_2 (all_cons ran_mCBFFF_3 all_nil))))

def kn_mCRFFT : Kn := { cons := [fOf.con, fRoom.con] }
theorem known_mCRFFT : Known Try.prog kn_mCRFFT ⟨0, prd⟩ := ⟨fun f hf => (by cases hf), (all_cons (con_ok ok_fOf) (all_cons (con_ok ok_fRoom) all_nil))⟩
def cs_mCRFFT : List BE := [eqI (kindOf mCRFFT) (.lit 1), eqI (kindOf mCRFFT) (.lit 2), eqI (kindOf mCRFFT) (.lit 3)]
def case_mCRFFT_0 : List BE := ((parts cs_mCRFFT)[0]?).getD []
set_option maxRecDepth 100000 in
theorem ran_mCRFFT_0 : memoRunC Try.prog true kn_mCRFFT 300 60 (cfgC0 [false, false, true]) mCRFFT case_mCRFFT_0 = true := by kernel_rfl
def case_mCRFFT_1 : List BE := ((parts cs_mCRFFT)[1]?).getD []
set_option maxRecDepth 100000 in
theorem ran_mCRFFT_1 : memoRunC Try.prog true kn_mCRFFT 300 60 (cfgC0 [false, false, true]) mCRFFT case_mCRFFT_1 = true := by kernel_rfl
def case_mCRFFT_2 : List BE := ((parts cs_mCRFFT)[2]?).getD []
set_option maxRecDepth 100000 in
theorem ran_mCRFFT_2 : memoRunC Try.prog true kn_mCRFFT 300 60 (cfgC0 [false, false, true]) mCRFFT case_mCRFFT_2 = true := by kernel_rfl
def case_mCRFFT_3 : List BE := ((parts cs_mCRFFT)[3]?).getD []
set_option maxRecDepth 100000 in
theorem ran_mCRFFT_3 : memoRunC Try.prog true kn_mCRFFT 300 60 (cfgC0 [false, false, true]) mCRFFT case_mCRFFT_3 = true := by kernel_rfl
theorem ok_mCRFFT : ConOk Try.prog mCRFFT.con ⟨0, prd⟩ := memo_parts (dr := true) (kn := kn_mCRFFT) (fuel := 300) (d := 60) (cfg := cfgC0 [false, false, true]) (bs := cs_mCRFFT) (cs := [case_mCRFFT_0, case_mCRFFT_1, case_mCRFFT_2, case_mCRFFT_3]) (by kernel_rfl) plain known_mCRFFT (fun _ call hC => anyOk (by kernel_rfl) plain hC) (fun ι hp => rules_of rules_ok ι hp) (all_cons ran_mCRFFT_0 (all_cons ran_mCRFFT_1 (all_cons ran_mCRFFT_2 (all_cons ran_mCRFFT_3 all_nil))))

def kn_mC0FFT : Kn := { cons := [fOf.con, fRoom.con, mCRFFT.con] }
theorem known_mC0FFT : Known Try.prog kn_mC0FFT ⟨0, prd⟩ := ⟨fun f hf => (by cases hf), (all_cons (con_ok ok_fOf) (all_cons (con_ok ok_fRoom) (all_cons ok_mCRFFT all_nil)))⟩
def cs_mC0FFT : List BE := []
def case_mC0FFT_0 : List BE := ((parts cs_mC0FFT)[0]?).getD []
set_option maxRecDepth 100000 in
theorem ran_mC0FFT_0 : memoRunC Try.prog true kn_mC0FFT 300 60 (cfgC0 [false, false, true]) mC0FFT case_mC0FFT_0 = true := by kernel_rfl
theorem ok_mC0FFT : ConOk Try.prog mC0FFT.con ⟨0, prd⟩ := memo_parts (dr := true) (kn := kn_mC0FFT) (fuel := 300) (d := 60) (cfg := cfgC0 [false, false, true]) (bs := cs_mC0FFT) (cs := [case_mC0FFT_0]) (by kernel_rfl) plain known_mC0FFT (fun _ call hC => anyOk (by kernel_rfl) plain hC) (fun ι hp => rules_of rules_ok ι hp) (all_cons ran_mC0FFT_0 all_nil)

end Go.Proofs.Ytaafdcimnmfakaa.quotaCopies
