/- Contracts of the laws' own helpers on lists of int64: equal, marked, held. -/
import Derived.Test.YtekpfoggblbedaaRows
import Derived.Test.YtekpfoggblbedaaBase
import Derived.Deep.QuietTactic
import Derived.BigQuiet
namespace Go.Proofs.Ytekpfoggblbedaa
open Go.RowKit
set_option linter.unusedVariables false

def risTo (zs : List Int) (n : Nat) : Prop := ∀ k : Nat, k + 1 < n → zs.getD k 0 < zs.getD (k + 1) 0
open Classical in
noncomputable def risB (zs : List Int) : Bool := decide (risTo zs zs.length)

def hasI (zs : List Int) (x : Int) : Bool := decide (x ∈ zs)

end Go.Proofs.Ytekpfoggblbedaa
