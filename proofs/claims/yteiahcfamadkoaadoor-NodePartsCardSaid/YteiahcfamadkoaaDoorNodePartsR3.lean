/-
  Some of the runs of NodeParts.
-/
import Derived.Test.YteiahcfamadkoaaDoorNodePartsQ
namespace Go.Proofs.YteiahcfamadkoaaDoor.nodeParts
open Go.Sx Go.ChangeShapes Go.WideShapes Go.ChangeAt Go.RowKit
set_option linter.unusedVariables false

set_option maxRecDepth 100000 in
theorem ranG3 : (partGrp 3).all (fun fs => runFl Tryd.prog true knLaw 300 60 4 [3, 3, 28, 3, 28] [] (lawCfg []) fs) = true := by kernel_rfl
set_option maxRecDepth 100000 in
theorem ranG4 : (partGrp 4).all (fun fs => runFl Tryd.prog true knLaw 300 60 4 [3, 3, 28, 3, 28] [] (lawCfg []) fs) = true := by kernel_rfl
set_option maxRecDepth 100000 in
theorem ranG5 : (partGrp 5).all (fun fs => runFl Tryd.prog true knLaw 300 60 4 [3, 3, 28, 3, 28] [] (lawCfg []) fs) = true := by kernel_rfl
end Go.Proofs.YteiahcfamadkoaaDoor.nodeParts
