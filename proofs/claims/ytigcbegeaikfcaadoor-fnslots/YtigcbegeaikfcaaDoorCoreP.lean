/- Layer 9 (the player): the model's l6Set, exactly. No conditions but those typed. -/
import Derived.Test.YtigcbegeaikfcaaDoorCoreM
import Derived.Test.YtigcbegeaikfcaaDoorDrawV
namespace Go.Proofs.YtigcbegeaikfcaaDoor
open Go.RowKit
set_option linter.unusedVariables false

end Go.Proofs.YtigcbegeaikfcaaDoor
