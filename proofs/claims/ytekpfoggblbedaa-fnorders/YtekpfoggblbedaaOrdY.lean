/- The walk of the law FnOrders. -/
import Derived.Test.YtekpfoggblbedaaOrdX
import Derived.Test.YtekpfoggblbedaaDrawD
namespace Go.Proofs.Ytekpfoggblbedaa
open Go.RowKit
theorem orders_law (A : Option Addr) (n c : Nat) (w : World) (hs : SeeB w w.heap.size A n) : Calls Try.prog 3 #[.slice A n c] w fun e w' => e = .returned (.bool true) ∧ Below w.heap.size w w' :=
  orders_core A n c w hs fun h => drawBelow_any A n c (by omega) w hs

end Go.Proofs.Ytekpfoggblbedaa
