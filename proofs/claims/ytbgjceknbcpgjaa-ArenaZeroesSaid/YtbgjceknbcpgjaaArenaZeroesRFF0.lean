/-
  Some of the runs of ArenaZeroes.
-/
import Derived.Test.YtbgjceknbcpgjaaArenaZeroesQ
namespace Go.Proofs.Ytbgjceknbcpgjaa.arenaZeroes
open Go.Sx Go.ChangeShapes Go.WideShapes Go.ChangeAt Go.RowKit
set_option linter.unusedVariables false

set_option maxRecDepth 100000 in
theorem ranGFF0 : (azGrp 0).all (fun fs => runFl Try.prog true knLaw 300 60 3 [3, 22, 22] [false, false] (lawCfg [false, false]) fs) = true := by kernel_rfl
end Go.Proofs.Ytbgjceknbcpgjaa.arenaZeroes
