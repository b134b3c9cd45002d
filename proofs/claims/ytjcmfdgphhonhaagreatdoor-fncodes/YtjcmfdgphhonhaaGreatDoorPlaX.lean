/- The walk of FnPlays. Conditions: the listed variables hold what the program's text lays (Vars); internal/bytealg.MaxLen holds a number. -/
import Derived.Test.YtjcmfdgphhonhaaGreatDoorPlaR
namespace Go.Proofs.YtjcmfdgphhonhaaGreatDoor
open Go.RowKit
set_option linter.unusedVariables false

theorem SeeV.next {w w' : World} {v : Value} {xs : List Value} (h : SeeV w w.heap.size v xs) (b : Below w.heap.size w w') : SeeV w' w'.heap.size v xs := (h.below b).more b.size

end Go.Proofs.YtjcmfdgphhonhaaGreatDoor
