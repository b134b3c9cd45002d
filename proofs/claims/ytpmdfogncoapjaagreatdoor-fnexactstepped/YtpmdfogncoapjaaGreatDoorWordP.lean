/- Layer 5 (words): the program's ReadWord (strconv's ParseInt and FormatInt by the library's contracts), and the law FnExactReadWord's walk. Condition: the listed variables hold what the program's text lays (Vars). -/
import Derived.Test.YtpmdfogncoapjaaGreatDoorLowB
import Derived.Test.YtpmdfogncoapjaaGreatDoorWordV
import Derived.Test.YtpmdfogncoapjaaGreatDoorShelf
import Derived.Lib.AtoiErrMem
namespace Go.Proofs.YtpmdfogncoapjaaGreatDoor
open Go.RowKit
set_option linter.unusedVariables false

end Go.Proofs.YtpmdfogncoapjaaGreatDoor
