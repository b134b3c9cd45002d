/- The model's Below, DownsOf and IsChain. -/
import Derived.Test.YtkpaidadofmpfaaDoorOrdE
namespace Go.Proofs.YtkpaidadofmpfaaDoor
open Go.RowKit
set_option linter.unusedVariables false

def downK (us : List Int) (b k : Nat) : Nat → Bool := fun a => decide (a < k) && upB us a b
theorem downK_yes {us : List Int} {b k : Nat} (hk : k < 6) (h : upB us k b = true) : bits BinOp.or IntKind.i64 (setN (downK us b k)) (2 ^ k) = setN (downK us b (k + 1)) := by
  have := setN_or (downK us b k) k hk
  rw [show wrap64 (2 ^ k) = 2 ^ k from by have := (bit_small k (by omega) (by omega)).1; simpa using this] at this
  rw [this]
  refine setN_congr fun x hx => ?_
  simp only [downK]
  by_cases e : x = k
  · subst e; simp [h]
  · have : (x < k + 1) = (x < k) := propext ⟨fun _ => by omega, fun _ => by omega⟩
    have e2 : (x == k) = false := by simpa using e
    simp [this, e2]
theorem downK_no {us : List Int} {b k : Nat} (h : upB us k b = false) : setN (downK us b k) = setN (downK us b (k + 1)) := by
  refine setN_congr fun x hx => ?_
  simp only [downK]
  by_cases e : x = k
  · subst e; simp [h]
  · have : (x < k + 1) = (x < k) := propext ⟨fun _ => by omega, fun _ => by omega⟩
    simp [this]

end Go.Proofs.YtkpaidadofmpfaaDoor
