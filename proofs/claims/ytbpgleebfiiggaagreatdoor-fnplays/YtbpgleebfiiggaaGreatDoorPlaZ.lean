/- What FnPlays' proof imports: its walk, and what the listed variables hold. -/
import Derived.Test.YtbpgleebfiiggaaGreatDoorPlaX
import Derived.Test.YtbpgleebfiiggaaGreatDoorPlayV
namespace Go.Proofs.YtbpgleebfiiggaaGreatDoor
open Go.RowKit

theorem plays_law (A : Option Addr) (n c : Nat) (m : Int) (w : World) (hs : SeeB w w.heap.size A n) (V : Vars w) (hm : w.cell? ⟨1, 0, none⟩ = some (.int .i64 m)) :
    Calls Tryz.prog 3 #[.slice A n c] w fun e w' => e = .returned (.bool true) ∧ Below w.heap.size w w' := plays_core A n c m w hs V hm

end Go.Proofs.YtbpgleebfiiggaaGreatDoor
