/-
  Some of the runs of ExtentBad.
-/
import Derived.Test.YtagippfhhaelcaaExtentBadQ
namespace Go.Proofs.Ytagippfhhaelcaa.extentBad
open Go.Sx Go.ChangeShapes Go.WideShapes Go.ChangeAt Go.RowKit
set_option linter.unusedVariables false

set_option maxRecDepth 100000 in
theorem ranG12 : (badGrp 12).all (fun fs => runFl Try.prog true knLaw 300 60 5 [3, 4] [] (lawCfg []) fs) = true := by kernel_rfl
set_option maxRecDepth 100000 in
theorem ranG13 : (badGrp 13).all (fun fs => runFl Try.prog true knLaw 300 60 5 [3, 4] [] (lawCfg []) fs) = true := by kernel_rfl
set_option maxRecDepth 100000 in
theorem ranG14 : (badGrp 14).all (fun fs => runFl Try.prog true knLaw 300 60 5 [3, 4] [] (lawCfg []) fs) = true := by kernel_rfl
end Go.Proofs.Ytagippfhhaelcaa.extentBad
