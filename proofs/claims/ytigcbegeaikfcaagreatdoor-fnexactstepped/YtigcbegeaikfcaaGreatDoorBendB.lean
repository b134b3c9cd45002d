/- The model's l1Bend. -/
import Derived.Test.YtigcbegeaikfcaaGreatDoorBelB
import Derived.Test.YtigcbegeaikfcaaGreatDoorBendA
namespace Go.Proofs.YtigcbegeaikfcaaGreatDoor
open Go.RowKit
set_option linter.unusedVariables false

/-- A text that was bent. -/
def BendOut (w : World) (g : Nat) (l : List UInt8) (e : Ending) (w' : World) : Prop := ∃ t : List UInt8, e = .returned (str t) ∧ t.length ≤ l.length + 2 ∧ Cur w' g ∧ w.grownBy w' (some g)
theorem Bw.see {w0 W : World} {g b c : Nat} {xs : List Value} (h : Bw w0 g b c xs W) (hl : xs.length ≤ 100000) : SeeV W W.heap.size (.slice (some ⟨b, 0, none⟩) xs.length c) xs :=
  ⟨by unfold maxLen; omega, _, _, rfl, h.row.cap, fun k x hx => ⟨b, 0, rfl, h.row.lt, by rw [Nat.zero_add]; exact h.row.cell k x hx⟩⟩

end Go.Proofs.YtigcbegeaikfcaaGreatDoor
