/-
  Some of the runs of NodeLooks.
-/
import Derived.Test.YteiahcfamadkoaaDoorNodeLooksQ
namespace Go.Proofs.YteiahcfamadkoaaDoor.nodeLooks
open Go.Sx Go.ChangeShapes Go.WideShapes Go.ChangeAt Go.RowKit
set_option linter.unusedVariables false

set_option maxRecDepth 100000 in
theorem ranG48 : (looksGrp 48).all (fun fs => runFl Tryd.prog true knLaw 300 60 5 [31] [] (lawCfg []) fs) = true := by kernel_rfl
set_option maxRecDepth 100000 in
theorem ranG49 : (looksGrp 49).all (fun fs => runFl Tryd.prog true knLaw 300 60 5 [31] [] (lawCfg []) fs) = true := by kernel_rfl
set_option maxRecDepth 100000 in
theorem ranG50 : (looksGrp 50).all (fun fs => runFl Tryd.prog true knLaw 300 60 5 [31] [] (lawCfg []) fs) = true := by kernel_rfl
set_option maxRecDepth 100000 in
theorem ranG51 : (looksGrp 51).all (fun fs => runFl Tryd.prog true knLaw 300 60 5 [31] [] (lawCfg []) fs) = true := by kernel_rfl
set_option maxRecDepth 100000 in
theorem ranG52 : (looksGrp 52).all (fun fs => runFl Tryd.prog true knLaw 300 60 5 [31] [] (lawCfg []) fs) = true := by kernel_rfl
set_option maxRecDepth 100000 in
theorem ranG53 : (looksGrp 53).all (fun fs => runFl Tryd.prog true knLaw 300 60 5 [31] [] (lawCfg []) fs) = true := by kernel_rfl
end Go.Proofs.YteiahcfamadkoaaDoor.nodeLooks
