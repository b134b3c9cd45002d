/- The draws of layer 6: the model's l6Set. Only bounds are kept. -/
import Derived.Test.YtigcbegeaikfcaaDoorDrawU
namespace Go.Proofs.YtigcbegeaikfcaaDoor
open Go.RowKit
set_option linter.unusedVariables false

end Go.Proofs.YtigcbegeaikfcaaDoor
