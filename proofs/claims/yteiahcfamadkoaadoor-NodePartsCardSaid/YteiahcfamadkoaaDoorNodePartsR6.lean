/-
  Some of the runs of NodeParts.
-/
import Derived.Test.YteiahcfamadkoaaDoorNodePartsQ
namespace Go.Proofs.YteiahcfamadkoaaDoor.nodeParts
open Go.Sx Go.ChangeShapes Go.WideShapes Go.ChangeAt Go.RowKit
set_option linter.unusedVariables false

set_option maxRecDepth 100000 in
theorem ranG6 : (partGrp 6).all (fun fs => runFl Tryd.prog true knLaw 300 60 4 [3, 3, 28, 3, 28] [] (lawCfg []) fs) = true := by kernel_rfl
set_option maxRecDepth 100000 in
theorem ranG7 : (partGrp 7).all (fun fs => runFl Tryd.prog true knLaw 300 60 4 [3, 3, 28, 3, 28] [] (lawCfg []) fs) = true := by kernel_rfl
set_option maxRecDepth 100000 in
theorem ranG8 : (partGrp 8).all (fun fs => runFl Tryd.prog true knLaw 300 60 4 [3, 3, 28, 3, 28] [] (lawCfg []) fs) = true := by kernel_rfl
end Go.Proofs.YteiahcfamadkoaaDoor.nodeParts
