/- Layer 9 (the player): NewCore of the program and of the model; the walks of FnExactCoreOk, FnExactSameCore and FnExactNewCore. No conditions but those typed. -/
import Derived.Test.YtpmdfogncoapjaaGreatDoorCoreC
import Derived.Deep.RegionHeld3
import Derived.Deep.CutRange
namespace Go.Proofs.YtpmdfogncoapjaaGreatDoor
open Go.RowKit
set_option linter.unusedVariables false

theorem hold10 {W w' : World} {n m : Nat} {a0 a1 a2 a3 a4 b0 b1 b2 b3 b4 : Value} {t u : TypeId} (R : W.heap[n]? = some (.cells #[a0, a1, a2, a3, a4] t (0, 0))) (S : W.heap[m]? = some (.cells #[b0, b1, b2, b3, b4] u (0, 0))) (k : Below W.heap.size W w') :
    (w'.cell? ⟨n, 0, none⟩ = some a0 ∧ w'.cell? ⟨n, 1, none⟩ = some a1 ∧ w'.cell? ⟨n, 2, none⟩ = some a2 ∧ w'.cell? ⟨n, 3, none⟩ = some a3 ∧ w'.cell? ⟨n, 4, none⟩ = some a4) ∧
    (w'.cell? ⟨m, 0, none⟩ = some b0 ∧ w'.cell? ⟨m, 1, none⟩ = some b1 ∧ w'.cell? ⟨m, 2, none⟩ = some b2 ∧ w'.cell? ⟨m, 3, none⟩ = some b3 ∧ w'.cell? ⟨m, 4, none⟩ = some b4) ∧ Below W.heap.size W w' :=
  ⟨cells5 (row_later R k), cells5 (row_later S k), k⟩

end Go.Proofs.YtpmdfogncoapjaaGreatDoor
