/-
  Some of the runs of NodeLooks.
-/
import Derived.Test.YteiahcfamadkoaaDoorNodeLooksQ
namespace Go.Proofs.YteiahcfamadkoaaDoor.nodeLooks
open Go.Sx Go.ChangeShapes Go.WideShapes Go.ChangeAt Go.RowKit
set_option linter.unusedVariables false

set_option maxRecDepth 100000 in
theorem ranG30 : (looksGrp 30).all (fun fs => runFl Tryd.prog true knLaw 300 60 5 [31] [] (lawCfg []) fs) = true := by kernel_rfl
set_option maxRecDepth 100000 in
theorem ranG31 : (looksGrp 31).all (fun fs => runFl Tryd.prog true knLaw 300 60 5 [31] [] (lawCfg []) fs) = true := by kernel_rfl
set_option maxRecDepth 100000 in
theorem ranG32 : (looksGrp 32).all (fun fs => runFl Tryd.prog true knLaw 300 60 5 [31] [] (lawCfg []) fs) = true := by kernel_rfl
set_option maxRecDepth 100000 in
theorem ranG33 : (looksGrp 33).all (fun fs => runFl Tryd.prog true knLaw 300 60 5 [31] [] (lawCfg []) fs) = true := by kernel_rfl
set_option maxRecDepth 100000 in
theorem ranG34 : (looksGrp 34).all (fun fs => runFl Tryd.prog true knLaw 300 60 5 [31] [] (lawCfg []) fs) = true := by kernel_rfl
set_option maxRecDepth 100000 in
theorem ranG35 : (looksGrp 35).all (fun fs => runFl Tryd.prog true knLaw 300 60 5 [31] [] (lawCfg []) fs) = true := by kernel_rfl
end Go.Proofs.YteiahcfamadkoaaDoor.nodeLooks
