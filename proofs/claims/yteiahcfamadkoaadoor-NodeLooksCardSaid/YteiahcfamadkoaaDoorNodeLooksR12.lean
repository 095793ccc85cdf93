/-
  Some of the runs of NodeLooks.
-/
import Derived.Test.YteiahcfamadkoaaDoorNodeLooksQ
namespace Go.Proofs.YteiahcfamadkoaaDoor.nodeLooks
open Go.Sx Go.ChangeShapes Go.WideShapes Go.ChangeAt Go.RowKit
set_option linter.unusedVariables false

set_option maxRecDepth 100000 in
theorem ranG12 : (looksGrp 12).all (fun fs => runFl Tryd.prog true knLaw 300 60 5 [31] [] (lawCfg []) fs) = true := by kernel_rfl
set_option maxRecDepth 100000 in
theorem ranG13 : (looksGrp 13).all (fun fs => runFl Tryd.prog true knLaw 300 60 5 [31] [] (lawCfg []) fs) = true := by kernel_rfl
set_option maxRecDepth 100000 in
theorem ranG14 : (looksGrp 14).all (fun fs => runFl Tryd.prog true knLaw 300 60 5 [31] [] (lawCfg []) fs) = true := by kernel_rfl
set_option maxRecDepth 100000 in
theorem ranG15 : (looksGrp 15).all (fun fs => runFl Tryd.prog true knLaw 300 60 5 [31] [] (lawCfg []) fs) = true := by kernel_rfl
set_option maxRecDepth 100000 in
theorem ranG16 : (looksGrp 16).all (fun fs => runFl Tryd.prog true knLaw 300 60 5 [31] [] (lawCfg []) fs) = true := by kernel_rfl
set_option maxRecDepth 100000 in
theorem ranG17 : (looksGrp 17).all (fun fs => runFl Tryd.prog true knLaw 300 60 5 [31] [] (lawCfg []) fs) = true := by kernel_rfl
end Go.Proofs.YteiahcfamadkoaaDoor.nodeLooks
