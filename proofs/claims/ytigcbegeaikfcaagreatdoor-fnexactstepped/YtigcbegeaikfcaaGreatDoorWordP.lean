/- Layer 5 (words): the program's ReadWord (strconv's ParseInt and FormatInt by the library's contracts), and the law FnExactReadWord's walk. Condition: the listed variables hold what the program's text lays (Vars). -/
import Derived.Test.YtigcbegeaikfcaaGreatDoorLowB
import Derived.Test.YtigcbegeaikfcaaGreatDoorWordV
import Derived.Test.YtigcbegeaikfcaaGreatDoorShelf
import Derived.Lib.AtoiErrMem
namespace Go.Proofs.YtigcbegeaikfcaaGreatDoor
open Go.RowKit
set_option linter.unusedVariables false

end Go.Proofs.YtigcbegeaikfcaaGreatDoor
