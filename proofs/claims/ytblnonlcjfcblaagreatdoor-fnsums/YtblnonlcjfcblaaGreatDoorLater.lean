/- Regions that draw their order and hold calls that make memory, but turn nothing that was there, and hand back one value whatever the later world: walked once, in the text's order. -/
import Derived.Test.YtblnonlcjfcblaaGreatDoorBase
import Derived.Deep.QuietTactic
import Derived.BigQuiet
namespace Go.Proofs.YtblnonlcjfcblaaGreatDoor
open Go.RowKit
set_option linter.unusedVariables false

theorem below_then {B : Nat} {W0 Wx w' : World} (h : Below B W0 Wx) (hb : Below Wx.heap.size Wx w') (hB : B ≤ W0.heap.size) : Below B W0 w' := h.trans (hb.mono (Nat.le_trans hB h.size))
/-- A later world: what was there in W is as it was. -/
structure Later (W : World) where
  now : World
  old : Below W.heap.size W now
instance (W : World) : Nonempty (Later W) := ⟨⟨W, Below.refl _ _⟩⟩

theorem region_later {P : Program} {id : Nat} {Q : Exit → Act → World → Prop} {a : Act} {w : World} {l : List Oper} (hm : P.follows .mixedOrders = true) (hB : Region.lexB .any l.toArray = true)
    (h : wpQuiet P l.toArray (fun w' => ∃ i : Later w, w' = i.now) (fun a' => ∀ w', (∃ i : Later w, w' = i.now) → Q .normal a' w') l a) : (Code.region id l.toArray true).wp P Q a w :=
  wp_region_quiet (C := fun w' => ∃ i : Later w, w' = i.now) hm hB ⟨⟨_, (Below.refl _ _).drew⟩, rfl⟩ (by simpa using h)
theorem later_call {P : Program} {f : FuncId} {args : Array Value} {W : World} {i : Later W} {v : Value} (h : Calls P f args i.now fun e w' => e = .returned v ∧ Below i.now.heap.size i.now w') :
    Calls P f args i.now fun e w'' => e = .returned v ∧ ∃ j : Later W, w'' = j.now :=
  h.mono fun _ _ ⟨he, hb⟩ => ⟨he, ⟨_, below_then i.old hb (Nat.le_refl _)⟩, rfl⟩
theorem later_same {P : Program} {f : FuncId} {args : Array Value} {W : World} {i : Later W} {v : Value} (h : Calls P f args i.now fun e w' => e = .returned v ∧ i.now = w') :
    Calls P f args i.now fun e w'' => e = .returned v ∧ ∃ j : Later W, w'' = j.now :=
  h.mono fun _ _ ⟨he, hb⟩ => ⟨he, i, hb.symm⟩
theorem later_drew {P : Program} {f : FuncId} {args : Array Value} {W : World} {i : Later W} {v : Value} (h : Calls P f args i.now fun e w' => e = .returned v ∧ ∃ n, w' = i.now.drewN n) :
    Calls P f args i.now fun e w'' => e = .returned v ∧ ∃ j : Later W, w'' = j.now :=
  h.mono fun _ _ ⟨he, n, hb⟩ => ⟨he, ⟨_, below_drewN i.old n⟩, hb⟩
theorem later_cell {W : World} {b o : Nat} {v : Value} (h : W.cell? ⟨b, o, none⟩ = some v) (i : Later W) : i.now.cell? ⟨b, o, none⟩ = some v :=
  (i.old.cell (World.block_lt_of_cell? W ⟨b, o, none⟩ h)).trans h

end Go.Proofs.YtblnonlcjfcblaaGreatDoor
