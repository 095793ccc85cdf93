/-
  Some of the runs of ExtentBad.
-/
import Derived.Test.YtagippfhhaelcaaExtentBadQ
namespace Go.Proofs.Ytagippfhhaelcaa.extentBad
open Go.Sx Go.ChangeShapes Go.WideShapes Go.ChangeAt Go.RowKit
set_option linter.unusedVariables false

set_option maxRecDepth 100000 in
theorem ranG0 : (badGrp 0).all (fun fs => runFl Try.prog true knLaw 300 60 5 [3, 4] [] (lawCfg []) fs) = true := by kernel_rfl
set_option maxRecDepth 100000 in
theorem ranG1 : (badGrp 1).all (fun fs => runFl Try.prog true knLaw 300 60 5 [3, 4] [] (lawCfg []) fs) = true := by kernel_rfl
set_option maxRecDepth 100000 in
theorem ranG2 : (badGrp 2).all (fun fs => runFl Try.prog true knLaw 300 60 5 [3, 4] [] (lawCfg []) fs) = true := by kernel_rfl
end Go.Proofs.Ytagippfhhaelcaa.extentBad
