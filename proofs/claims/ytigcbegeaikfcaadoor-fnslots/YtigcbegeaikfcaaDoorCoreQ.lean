/- Layer 9 (the player): what the model's l9Do does, op by op. No conditions but those typed. Layer 9 (the player): what the model's l9Do does at push and load. No conditions but those typed. -/
import Derived.Test.YtigcbegeaikfcaaDoorCoreP
import Derived.Deep.CutRange
import Derived.Maps.AppendAt
namespace Go.Proofs.YtigcbegeaikfcaaDoor
open Go.RowKit
set_option linter.unusedVariables false

end Go.Proofs.YtigcbegeaikfcaaDoor

namespace Go.Proofs.YtigcbegeaikfcaaDoor
open Go.RowKit
set_option linter.unusedVariables false

end Go.Proofs.YtigcbegeaikfcaaDoor
