/- Layer 8 (steps): what the listed variable impl.opForms holds. The model's l1Words: texts with another one between. Layer 8 (steps): OpOk and ShowCode, of the program and of the model. Condition: the listed variable impl.opForms holds what the program's text lays (Forms). -/
import Derived.Test.YtigcbegeaikfcaaDoorWordV
import Derived.Test.YtigcbegeaikfcaaDoorLowA
import Derived.Test.YtigcbegeaikfcaaDoorRows
import Derived.Test.YtigcbegeaikfcaaDoorOpR
import Derived.Test.YtigcbegeaikfcaaDoorLowT
import Derived.Test.YtigcbegeaikfcaaDoorWordsA
import Derived.Lib.LaidTab
namespace Go.Proofs.YtigcbegeaikfcaaDoor
open Go.RowKit
set_option linter.unusedVariables false

theorem lit_eq {H : Type} {a b : Lit} (h : (DataW.lit a : DataW H) = .lit b) : a = b := by injection h

end Go.Proofs.YtigcbegeaikfcaaDoor

namespace Go.Proofs.YtigcbegeaikfcaaDoor
open Go.RowKit
set_option linter.unusedVariables false

end Go.Proofs.YtigcbegeaikfcaaDoor
