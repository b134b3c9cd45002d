/- The laws' own helpers on boxes: their size, a copy, whether two are equal; the walks of FnExactBoxesOk and FnExactValueIn. No conditions but those typed. -/
import Derived.Test.YtigcbegeaikfcaaDoorLowA
import Derived.Test.YtigcbegeaikfcaaDoorLowT
import Derived.Deep.OwnRows
namespace Go.Proofs.YtigcbegeaikfcaaDoor
open Go.RowKit
set_option linter.unusedVariables false

theorem boxes_two (bs : List Bx) : ∀ x ∈ bs.map boxV, x.length = 2 := by
  intro x hx
  obtain ⟨b, -, rfl⟩ := List.mem_map.1 hx
  rfl
def nmLens (bs : List Bx) : List Nat := bs.map fun b => b.1.length

/-- No name is longer than an int64 says. -/
def fitB (bs : List Bx) : Prop := ∀ b ∈ bs, b.1.length ≤ 9223372036854775807

def eqBx (a b : List Bx) : Bool := decide (a = b)
theorem eqBx_same (a : List Bx) : eqBx a a = true := by simp [eqBx]
theorem takes_more {α : Type} {xs ys : List α} {k : Nat} {x : α} (h : xs.take k = ys.take k) (hx : xs[k]? = some x) (hy : ys[k]? = some x) : xs.take (k + 1) = ys.take (k + 1) := by
  rw [List.take_add_one, List.take_add_one, h, hx, hy]

theorem sz_boxes {bs : List Bx} {left : Int} (h : 0 ≤ szL left (nmLens bs)) (h0 : 0 ≤ left) (h1 : left ≤ 1048576) : bs.length ≤ 1048576 ∧ shortB bs := by
  rcases szL_fits (ls := nmLens bs) h0 with e | ⟨_, _, e2, e3⟩
  · omega
  · refine ⟨by have : (nmLens bs).length = bs.length := by simp [nmLens]
               omega, fun b hb => ?_⟩
    have := e3 b.1.length (by unfold nmLens; exact List.mem_map_of_mem hb)
    omega

end Go.Proofs.YtigcbegeaikfcaaDoor
