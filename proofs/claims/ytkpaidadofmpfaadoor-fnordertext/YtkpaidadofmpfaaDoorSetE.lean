/- Contracts of SizeOf and what it calls (the library's OnesCount64 on a set among it), in the program and in the model, and the law FnExactSizeOf's walk. -/
import Derived.Test.YtkpaidadofmpfaaDoorSetD
namespace Go.Proofs.YtkpaidadofmpfaaDoor
open Go.RowKit
set_option linter.unusedVariables false

theorem of_fin {P : Nat → Prop} {m : Nat} (h : ∀ i : Fin m, P i) (n : Nat) (hn : n < m) : P n := h ⟨n, hn⟩
def cntB (s : Int) : Int := if inB s 0 63 then (sel (bitB s) 6).length else -1

end Go.Proofs.YtkpaidadofmpfaaDoor
