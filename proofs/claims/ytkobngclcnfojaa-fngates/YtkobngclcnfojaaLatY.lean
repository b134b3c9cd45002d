/- The draws of an order with two ranks, and with a set. -/
import Derived.Test.YtkobngclcnfojaaDrawD
namespace Go.Proofs.Ytkobngclcnfojaa
open Go.RowKit
set_option linter.unusedVariables false

theorem see_other {w : World} {v v' : Value} {us : List Int} (h : SeeI w w.heap.size v us) {p : Addr} {A : Option Addr} {n c : Nat} (hp : w.cell? p = some (.slice A n c)) (u : Value) : SeeI (w.setCell p u) (w.setCell p u).heap.size v us := by
  obtain ⟨h0, A', c', rfl, h1⟩ := h
  refine ⟨h0, A', c', rfl, fun k hk' => ?_⟩
  obtain ⟨b, o, rfl, hq, hc⟩ := h1 k hk'
  exact ⟨b, o, rfl, by simpa using hq, (World.cell?_setCell_other w _ _ _ (fun e => by subst e; rw [hp] at hc; cases hc)).trans hc⟩

/-- An order and a set drawn. -/
def AllDrawn (w : World) (e : Ending) (w' : World) : Prop :=
  ∃ v us s, e = .returned (.tuple #[.agg #[v], .int .i64 s]) ∧ us.length ≤ 6 ∧ SeeI w' w'.heap.size v us ∧ Below w.heap.size w w'

end Go.Proofs.Ytkobngclcnfojaa
