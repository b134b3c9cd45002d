/- The walks of the laws FnExactOrderOk, FnExactBelow, FnExactDownsOf, FnExactIsChain. -/
import Derived.Test.YtigcbegeaikfcaaOrdG
import Derived.Deep.RegionHeld3
namespace Go.Proofs.Ytigcbegeaikfcaa
open Go.RowKit
set_option linter.unusedVariables false

/-- The laws' last step: the argument is held against what it was. 'eqOrder(x0, toOrder(aO))'. -/
theorem eq_copy (B : Nat) (va vb : Value) (us : List Int) (w : World) (hB : B ≤ w.heap.size) (ha : SeeI w B va us) (hb : SeeI w B vb us) : Calls Try.prog 32 #[.agg #[va], .agg #[vb]] w (BoolOf w true) := by
  have := eqOrder_any B va vb us us w hB ha hb
  rwa [eqI_same] at this

theorem held_on {W Wx w' : World} {p q : Addr} {x y : Value} (hp : W.cell? p = some x) (hq : W.cell? q = some y) (hb : Below Wx.heap.size Wx w') (h : Below W.heap.size W Wx) : w'.cell? p = some x ∧ w'.cell? q = some y ∧ Below W.heap.size W w' :=
  have k := below_then h hb (Nat.le_refl _)
  ⟨(k.cell (World.block_lt_of_cell? _ _ hp)).trans hp, (k.cell (World.block_lt_of_cell? _ _ hq)).trans hq, k⟩

end Go.Proofs.Ytigcbegeaikfcaa
