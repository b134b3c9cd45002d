/-
  No cell of these rows narrows 'for every input' (looked for: loops, veiled, ifaces, maps, wideKeys, modest, calm, conditions, laid).
  DERIVED. THE GIVEN ROWS OF THIS SEAT. 5 by the template 'for every input the law returns true; each argument reads behind the call as it read before'; 0 by the template 'total and deterministic' (their statements: YtkobngclcnfojaaTotals.lean).
  GIVEN WITH THE SEED: the statements are not yours to turn. If you find one false, say at which input.
  Laid BY PROGRAM, IN A SANDBOX (cutbox-rows.mjs): the forced cells as the released guide's own fill.sh prints them over the translation ce4f0c7d7c0a1fc7… (all of the seat's roots in one cut). By AI agents, Wed Nov 11 2026. No macro, syntax, notation, axiom, sorry.
-/
import Derived.Test.YtkobngclcnfojaaChecked
import GoSem.Claim
import GoSem.ClaimJoined
import GoSem.ClaimMapViews
import Derived.JoinedTies
import Derived.KernelRfl
namespace Go.Proofs.Ytkobngclcnfojaa
/- THE CELL 'sum', in the pinned program and in every row, IS THE sha256 OF THE DUMP (.gsa) THAT YtkobngclcnfojaaProg.lean LOADS. Nothing in Lean hashes anything: it is a label: what it is worth is what the hold of that sum in a sandbox is worth. -/
noncomputable def Try.pinned : Pinned := { name := "ytkobngclcnfojaa", sum := "ce4f0c7d7c0a1fc7be0ad4ce90be3078c925e32239963e7cc8736f2698340e83", checked := Try.checked }
namespace Rows
def none {H : Type} : Left H := { results := [], args := [] }

/-- 'laws.FnGates': WHATEVER THE INPUT: true; the input reads as it did. -/
def fnGatesSpec : ChangeSpec := { name := "fnGates", fn := fun _ => fun
  | [d] => { results := [.lit (.bool true)], args := [d] }
  | _ => none }
def fnGatesRow : OpenClaim := { program := "ytkobngclcnfojaa", sum := "ce4f0c7d7c0a1fc7be0ad4ce90be3078c925e32239963e7cc8736f2698340e83", func := "loop.example/g00533/laws.FnGates", spec := "fnGates", unfollowed := true, recurses := true, apart := false }
def FnGatesSaid : Prop := fnGatesRow.holds Try.pinned (OpenSpec.ofChange fnGatesSpec)

/-- ITS FALSE NEIGHBOUR: 'it returns false'. Refute it at one input. -/
def fnGatesWrong : ChangeSpec := { name := "fnGates", fn := fun _ => fun
  | [d] => { results := [.lit (.bool false)], args := [d] }
  | _ => none }
def FnGatesWrongFalsely : Prop := fnGatesRow.holds Try.pinned (OpenSpec.ofChange fnGatesWrong)

/-- 'laws.FnExactGatesOk': WHATEVER THE INPUT: true; the input reads as it did. -/
def fnExactGatesOkSpec : ChangeSpec := { name := "fnExactGatesOk", fn := fun _ => fun
  | [d1, d2] => { results := [.lit (.bool true)], args := [d1, d2] }
  | _ => none }
def fnExactGatesOkRow : OpenClaim := { program := "ytkobngclcnfojaa", sum := "ce4f0c7d7c0a1fc7be0ad4ce90be3078c925e32239963e7cc8736f2698340e83", func := "loop.example/g00533/laws.FnExactGatesOk", spec := "fnExactGatesOk", unfollowed := true, recurses := true, apart := false }
def FnExactGatesOkSaid : Prop := fnExactGatesOkRow.holds Try.pinned (OpenSpec.ofChange fnExactGatesOkSpec)

/-- ITS FALSE NEIGHBOUR: 'it returns false'. Refute it at one input. -/
def fnExactGatesOkWrong : ChangeSpec := { name := "fnExactGatesOk", fn := fun _ => fun
  | [d1, d2] => { results := [.lit (.bool false)], args := [d1, d2] }
  | _ => none }
def FnExactGatesOkWrongFalsely : Prop := fnExactGatesOkRow.holds Try.pinned (OpenSpec.ofChange fnExactGatesOkWrong)

/-- 'laws.FnExactMaySee': WHATEVER THE INPUT: true; the input reads as it did. -/
def fnExactMaySeeSpec : ChangeSpec := { name := "fnExactMaySee", fn := fun _ => fun
  | [d1, d2, d3, d4] => { results := [.lit (.bool true)], args := [d1, d2, d3, d4] }
  | _ => none }
def fnExactMaySeeRow : OpenClaim := { program := "ytkobngclcnfojaa", sum := "ce4f0c7d7c0a1fc7be0ad4ce90be3078c925e32239963e7cc8736f2698340e83", func := "loop.example/g00533/laws.FnExactMaySee", spec := "fnExactMaySee", unfollowed := true, recurses := true, apart := false }
def FnExactMaySeeSaid : Prop := fnExactMaySeeRow.holds Try.pinned (OpenSpec.ofChange fnExactMaySeeSpec)

/-- ITS FALSE NEIGHBOUR: 'it returns false'. Refute it at one input. -/
def fnExactMaySeeWrong : ChangeSpec := { name := "fnExactMaySee", fn := fun _ => fun
  | [d1, d2, d3, d4] => { results := [.lit (.bool false)], args := [d1, d2, d3, d4] }
  | _ => none }
def FnExactMaySeeWrongFalsely : Prop := fnExactMaySeeRow.holds Try.pinned (OpenSpec.ofChange fnExactMaySeeWrong)

/-- 'laws.FnExactSeenBy': WHATEVER THE INPUT: true; the input reads as it did. -/
def fnExactSeenBySpec : ChangeSpec := { name := "fnExactSeenBy", fn := fun _ => fun
  | [d1, d2, d3] => { results := [.lit (.bool true)], args := [d1, d2, d3] }
  | _ => none }
def fnExactSeenByRow : OpenClaim := { program := "ytkobngclcnfojaa", sum := "ce4f0c7d7c0a1fc7be0ad4ce90be3078c925e32239963e7cc8736f2698340e83", func := "loop.example/g00533/laws.FnExactSeenBy", spec := "fnExactSeenBy", unfollowed := true, recurses := true, apart := false }
def FnExactSeenBySaid : Prop := fnExactSeenByRow.holds Try.pinned (OpenSpec.ofChange fnExactSeenBySpec)

/-- ITS FALSE NEIGHBOUR: 'it returns false'. Refute it at one input. -/
def fnExactSeenByWrong : ChangeSpec := { name := "fnExactSeenBy", fn := fun _ => fun
  | [d1, d2, d3] => { results := [.lit (.bool false)], args := [d1, d2, d3] }
  | _ => none }
def FnExactSeenByWrongFalsely : Prop := fnExactSeenByRow.holds Try.pinned (OpenSpec.ofChange fnExactSeenByWrong)

/-- 'laws.FnExactOwnOf': WHATEVER THE INPUT: true; the input reads as it did. -/
def fnExactOwnOfSpec : ChangeSpec := { name := "fnExactOwnOf", fn := fun _ => fun
  | [d1, d2, d3] => { results := [.lit (.bool true)], args := [d1, d2, d3] }
  | _ => none }
def fnExactOwnOfRow : OpenClaim := { program := "ytkobngclcnfojaa", sum := "ce4f0c7d7c0a1fc7be0ad4ce90be3078c925e32239963e7cc8736f2698340e83", func := "loop.example/g00533/laws.FnExactOwnOf", spec := "fnExactOwnOf", unfollowed := true, recurses := true, apart := false }
def FnExactOwnOfSaid : Prop := fnExactOwnOfRow.holds Try.pinned (OpenSpec.ofChange fnExactOwnOfSpec)

/-- ITS FALSE NEIGHBOUR: 'it returns false'. Refute it at one input. -/
def fnExactOwnOfWrong : ChangeSpec := { name := "fnExactOwnOf", fn := fun _ => fun
  | [d1, d2, d3] => { results := [.lit (.bool false)], args := [d1, d2, d3] }
  | _ => none }
def FnExactOwnOfWrongFalsely : Prop := fnExactOwnOfRow.holds Try.pinned (OpenSpec.ofChange fnExactOwnOfWrong)

/- THE SECOND FORM. 'bulk': how many values and letters a reading holds, each counted each time it is reached (what is shared counts as often as it is met; a slice's spare places count too). A statement '..UptoSaid' is the law's where the arguments, and the package variables that the reading takes, are together of bulk at most 1048576: NARROWER than '..Said'. Prove '..Said' where nothing that the law and all that it calls make is longer than what came in: it says more and counts as full. Else prove '..UptoSaid'. A law counts once. -/
mutual
def uptoBulk {H : Type} : DataW H → Nat
  | .lit (.string bytes) => bytes.length + 1
  | .lit _ => 1
  | .nil => 1
  | .ptr d => uptoBulk d + 1
  | .slice elems spare => uptoBulkAll elems + uptoBulkAll spare + 1
  | .agg parts => uptoBulkAll parts + 1
  | .iface _ d => uptoBulk d + 1
  | .map entries => uptoBulkEntries entries + 1
  | .held _ => 1
def uptoBulkAll {H : Type} : List (DataW H) → Nat
  | [] => 0
  | d :: r => uptoBulk d + uptoBulkAll r
def uptoBulkEntries {H : Type} : List (Lit × DataW H) → Nat
  | [] => 0
  | x :: r => uptoBulkEntry x + uptoBulkEntries r
def uptoBulkEntry {H : Type} : Lit × DataW H → Nat
  | (.string bytes, d) => bytes.length + uptoBulk d + 1
  | (_, d) => uptoBulk d + 1
 end
def uptoSmall : (H : Type) → List (DataW H) → Bool := fun _ ds => decide (uptoBulkAll ds ≤ 1048576)
def OpenSpec.upto (s : _root_.Go.ChangeSpec) : _root_.Go.OpenSpec := { _root_.Go.OpenSpec.ofChange s with cond := some uptoSmall }

/-- 'laws.FnGates', WHERE WHAT IT READS IS OF BULK AT MOST 1048576: true; the input reads as it did. -/
def fnGatesUptoRow : OpenClaim := { program := "ytkobngclcnfojaa", sum := "ce4f0c7d7c0a1fc7be0ad4ce90be3078c925e32239963e7cc8736f2698340e83", func := "loop.example/g00533/laws.FnGates", spec := "fnGates", unfollowed := true, recurses := true, apart := false, narrowed := true }
def FnGatesUptoSaid : Prop := fnGatesUptoRow.holds Try.pinned (OpenSpec.upto fnGatesSpec)

/-- 'laws.FnExactGatesOk', WHERE WHAT IT READS IS OF BULK AT MOST 1048576: true; the input reads as it did. -/
def fnExactGatesOkUptoRow : OpenClaim := { program := "ytkobngclcnfojaa", sum := "ce4f0c7d7c0a1fc7be0ad4ce90be3078c925e32239963e7cc8736f2698340e83", func := "loop.example/g00533/laws.FnExactGatesOk", spec := "fnExactGatesOk", unfollowed := true, recurses := true, apart := false, narrowed := true }
def FnExactGatesOkUptoSaid : Prop := fnExactGatesOkUptoRow.holds Try.pinned (OpenSpec.upto fnExactGatesOkSpec)

/-- 'laws.FnExactMaySee', WHERE WHAT IT READS IS OF BULK AT MOST 1048576: true; the input reads as it did. -/
def fnExactMaySeeUptoRow : OpenClaim := { program := "ytkobngclcnfojaa", sum := "ce4f0c7d7c0a1fc7be0ad4ce90be3078c925e32239963e7cc8736f2698340e83", func := "loop.example/g00533/laws.FnExactMaySee", spec := "fnExactMaySee", unfollowed := true, recurses := true, apart := false, narrowed := true }
def FnExactMaySeeUptoSaid : Prop := fnExactMaySeeUptoRow.holds Try.pinned (OpenSpec.upto fnExactMaySeeSpec)

/-- 'laws.FnExactSeenBy', WHERE WHAT IT READS IS OF BULK AT MOST 1048576: true; the input reads as it did. -/
def fnExactSeenByUptoRow : OpenClaim := { program := "ytkobngclcnfojaa", sum := "ce4f0c7d7c0a1fc7be0ad4ce90be3078c925e32239963e7cc8736f2698340e83", func := "loop.example/g00533/laws.FnExactSeenBy", spec := "fnExactSeenBy", unfollowed := true, recurses := true, apart := false, narrowed := true }
def FnExactSeenByUptoSaid : Prop := fnExactSeenByUptoRow.holds Try.pinned (OpenSpec.upto fnExactSeenBySpec)

/-- 'laws.FnExactOwnOf', WHERE WHAT IT READS IS OF BULK AT MOST 1048576: true; the input reads as it did. -/
def fnExactOwnOfUptoRow : OpenClaim := { program := "ytkobngclcnfojaa", sum := "ce4f0c7d7c0a1fc7be0ad4ce90be3078c925e32239963e7cc8736f2698340e83", func := "loop.example/g00533/laws.FnExactOwnOf", spec := "fnExactOwnOf", unfollowed := true, recurses := true, apart := false, narrowed := true }
def FnExactOwnOfUptoSaid : Prop := fnExactOwnOfUptoRow.holds Try.pinned (OpenSpec.upto fnExactOwnOfSpec)

end Rows
end Go.Proofs.Ytkobngclcnfojaa
