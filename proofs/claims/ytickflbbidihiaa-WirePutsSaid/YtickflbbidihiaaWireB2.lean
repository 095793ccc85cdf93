import Derived.Test.YtickflbbidihiaaWireA
namespace Go.Proofs.Ytickflbbidihiaa.wirePuts
open Go.Sx Go.ChangeShapes Go.WideShapes Go.ChangeAt Go.RowKit
set_option linter.unusedVariables false
set_option maxRecDepth 100000 in
theorem ranF1 : runFl Try.prog true knLaw 300 60 3 [22, 3, 3, 23] [false] (lawCfg [false]) [ge (v 1) 1, ge wholeV 0, .not fitsV] = true := by kernel_rfl

set_option maxRecDepth 100000 in
theorem ranF3 : runFl Try.prog true knLaw 300 60 3 [22, 3, 3, 23] [false] (lawCfg [false]) [ge (v 1) 1, .not (ge wholeV 0), .not fitsV] = true := by kernel_rfl

set_option maxRecDepth 100000 in
theorem ranF5 : runFl Try.prog true knLaw 300 60 3 [22, 3, 3, 23] [false] (lawCfg [false]) [.not (ge (v 1) 1), ge wholeV 0, .not fitsV] = true := by kernel_rfl

set_option maxRecDepth 100000 in
theorem ranF7 : runFl Try.prog true knLaw 300 60 3 [22, 3, 3, 23] [false] (lawCfg [false]) [.not (ge (v 1) 1), .not (ge wholeV 0), .not fitsV] = true := by kernel_rfl

end Go.Proofs.Ytickflbbidihiaa.wirePuts
