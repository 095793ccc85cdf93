import Derived.Test.YtickflbbidihiaaWireA
namespace Go.Proofs.Ytickflbbidihiaa.wirePuts
open Go.Sx Go.ChangeShapes Go.WideShapes Go.ChangeAt Go.RowKit
set_option linter.unusedVariables false
set_option maxRecDepth 100000 in
theorem ranT0 : runFl Try.prog true knLaw 300 60 3 [22, 3, 3, 23] [true] (lawCfg [true]) [ge wholeV 0, fitsV] = true := by kernel_rfl

set_option maxRecDepth 100000 in
theorem ranT1 : runFl Try.prog true knLaw 300 60 3 [22, 3, 3, 23] [true] (lawCfg [true]) [ge wholeV 0, .not fitsV] = true := by kernel_rfl

set_option maxRecDepth 100000 in
theorem ranT2 : runFl Try.prog true knLaw 300 60 3 [22, 3, 3, 23] [true] (lawCfg [true]) [.not (ge wholeV 0), fitsV] = true := by kernel_rfl

set_option maxRecDepth 100000 in
theorem ranT3 : runFl Try.prog true knLaw 300 60 3 [22, 3, 3, 23] [true] (lawCfg [true]) [.not (ge wholeV 0), .not fitsV] = true := by kernel_rfl

end Go.Proofs.Ytickflbbidihiaa.wirePuts
