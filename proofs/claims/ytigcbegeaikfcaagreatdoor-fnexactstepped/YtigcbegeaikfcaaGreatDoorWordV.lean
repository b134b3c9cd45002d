/- What the listed variables of the library hold when the call begins (the row's own condition), kept over whatever leaves alone what was there. -/
import Derived.Test.YtigcbegeaikfcaaGreatDoorRows
import Derived.Lib.AppendIntMem
import Derived.Lib.LaidTab
import Derived.Stop.LaidErr
import Derived.MakeChecks
import Derived.WalkKit
namespace Go.Proofs.YtigcbegeaikfcaaGreatDoor
open Go.RowKit
set_option linter.unusedVariables false

end Go.Proofs.YtigcbegeaikfcaaGreatDoor
