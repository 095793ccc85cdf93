import Derived.Test.YtickflbbidihiaaWireA
namespace Go.Proofs.Ytickflbbidihiaa.wirePuts
open Go.Sx Go.ChangeShapes Go.WideShapes Go.ChangeAt Go.RowKit
set_option linter.unusedVariables false
set_option maxRecDepth 100000 in
theorem ranF0b : runFl Try.prog true knLaw 300 60 3 [22, 3, 3, 23] [false] (lawCfg [false]) [ge (v 1) 1, ge wholeV 0, fitsV, .not (lt sizeV 2), lt sizeV 3] = true := by kernel_rfl

end Go.Proofs.Ytickflbbidihiaa.wirePuts
