/-
  Some of the runs of NodeLooks.
-/
import Derived.Test.YteiahcfamadkoaaDoorNodeLooksQ
namespace Go.Proofs.YteiahcfamadkoaaDoor.nodeLooks
open Go.Sx Go.ChangeShapes Go.WideShapes Go.ChangeAt Go.RowKit
set_option linter.unusedVariables false

set_option maxRecDepth 100000 in
theorem ranG36 : (looksGrp 36).all (fun fs => runFl Tryd.prog true knLaw 300 60 5 [31] [] (lawCfg []) fs) = true := by kernel_rfl
set_option maxRecDepth 100000 in
theorem ranG37 : (looksGrp 37).all (fun fs => runFl Tryd.prog true knLaw 300 60 5 [31] [] (lawCfg []) fs) = true := by kernel_rfl
set_option maxRecDepth 100000 in
theorem ranG38 : (looksGrp 38).all (fun fs => runFl Tryd.prog true knLaw 300 60 5 [31] [] (lawCfg []) fs) = true := by kernel_rfl
set_option maxRecDepth 100000 in
theorem ranG39 : (looksGrp 39).all (fun fs => runFl Tryd.prog true knLaw 300 60 5 [31] [] (lawCfg []) fs) = true := by kernel_rfl
set_option maxRecDepth 100000 in
theorem ranG40 : (looksGrp 40).all (fun fs => runFl Tryd.prog true knLaw 300 60 5 [31] [] (lawCfg []) fs) = true := by kernel_rfl
set_option maxRecDepth 100000 in
theorem ranG41 : (looksGrp 41).all (fun fs => runFl Tryd.prog true knLaw 300 60 5 [31] [] (lawCfg []) fs) = true := by kernel_rfl
end Go.Proofs.YteiahcfamadkoaaDoor.nodeLooks
