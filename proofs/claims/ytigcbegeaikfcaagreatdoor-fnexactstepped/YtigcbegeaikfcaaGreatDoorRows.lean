/-
  NARROWER THAN 'FOR EVERY INPUT', by the rows' own cells (each row's printed sentence says how): FnSteps: laid · FnNeverBad: laid · FnExactStepped: laid.
  DERIVED. THE GIVEN ROWS OF THIS SEAT. 3 by the template 'for every input the law returns true; each argument reads behind the call as it read before'; 0 by the template 'total and deterministic' (their statements: YtigcbegeaikfcaaGreatDoorTotals.lean).
  GIVEN WITH THE SEED: the statements are not yours to turn. If you find one false, say at which input.
  Laid BY PROGRAM, IN A SANDBOX (cutbox-rows.mjs): the forced cells as the released guide's own fill.sh prints them over the translation bfa49555008ff935… (all of the seat's roots in one cut). By AI agents, Wed Nov 11 2026. No macro, syntax, notation, axiom, sorry.
-/
import Derived.Test.YtigcbegeaikfcaaGreatDoorChecked
import GoSem.Claim
import GoSem.ClaimJoined
import GoSem.ClaimMapViews
import Derived.JoinedTies
import Derived.KernelRfl
namespace Go.Proofs.YtigcbegeaikfcaaGreatDoor
/- THE CELL 'sum', in the pinned program and in every row, IS THE sha256 OF THE DUMP (.gsa) THAT YtigcbegeaikfcaaGreatDoorProg.lean LOADS. Nothing in Lean hashes anything: it is a label: what it is worth is what the hold of that sum in a sandbox is worth. -/
noncomputable def Tryz.pinned : Pinned := { name := "ytigcbegeaikfcaagreatdoor", sum := "bfa49555008ff9354bde82904cbeed8c89b9d61c1aa8f1cae9eb2379e0683961", checked := Tryz.checked }
namespace Rows
def none {H : Type} : Left H := { results := [], args := [] }

/- WHAT THE LISTED PACKAGE-LEVEL VARIABLES READ AS WHEN THE CALL BEGINS. Each datum BY PROGRAM (the guide's laid-datum.mjs) off the statement by which the dump's own 'gosem.cut.vars' lays the variable. In a bare row this is a premise. The card (YtigcbegeaikfcaaGreatDoorCards.lean) ties it to the program's text. -/
def laid_loop_example_g00533_impl_opForms {H : Type} : DataW H := .agg [.agg [.lit (.string []), .lit (.bool false), .lit (.int .i64 0), .lit (.int .i64 0)], .agg [.lit (.string [112, 117, 115, 104]), .lit (.bool false), .lit (.int .i64 (-2147483648)), .lit (.int .i64 2147483647)], .agg [.lit (.string [108, 111, 97, 100]), .lit (.bool true), .lit (.int .i64 0), .lit (.int .i64 0)], .agg [.lit (.string [100, 111]), .lit (.bool false), .lit (.int .i64 1), .lit (.int .i64 6)], .agg [.lit (.string [115, 101, 116]), .lit (.bool true), .lit (.int .i64 0), .lit (.int .i64 0)], .agg [.lit (.string [105, 110]), .lit (.bool true), .lit (.int .i64 0), .lit (.int .i64 3)], .agg [.lit (.string [111, 117, 116]), .lit (.bool false), .lit (.int .i64 0), .lit (.int .i64 3)], .agg [.lit (.string [103, 111]), .lit (.bool false), .lit (.int .i64 0), .lit (.int .i64 300)], .agg [.lit (.string [117, 110, 108, 101, 115, 115]), .lit (.bool false), .lit (.int .i64 0), .lit (.int .i64 300)], .agg [.lit (.string [115, 116, 111, 112]), .lit (.bool false), .lit (.int .i64 0), .lit (.int .i64 0)], .agg [.lit (.string [101, 110, 100]), .lit (.bool false), .lit (.int .i64 0), .lit (.int .i64 0)]]

/-- 'laws.FnSteps': WHATEVER THE INPUT: true; the input reads as it did. -/
def fnStepsSpec : ChangeSpec := { name := "fnSteps", vars := ["loop.example/g00533/impl.opForms"], fn := fun _ => fun
  | [d, g1] => { results := [.lit (.bool true)], args := [d], vars := [g1] }
  | _ => none }
def fnStepsRow : OpenClaim := { program := "ytigcbegeaikfcaagreatdoor", sum := "bfa49555008ff9354bde82904cbeed8c89b9d61c1aa8f1cae9eb2379e0683961", func := "loop.example/g00533/laws.FnSteps", spec := "fnSteps", inPlace := ["slices.overlaps[loop.example/g00533/impl.Box]"], unfollowed := true, recurses := true, named := ["loop.example/g00533/impl.opForms"], apart := false, laid := [("loop.example/g00533/impl.opForms", laid_loop_example_g00533_impl_opForms)] }
def FnStepsSaid : Prop := fnStepsRow.holds Tryz.pinned (OpenSpec.ofChange fnStepsSpec)

/-- ITS FALSE NEIGHBOUR: 'it returns false'. Refute it at one input. -/
def fnStepsWrong : ChangeSpec := { name := "fnSteps", vars := ["loop.example/g00533/impl.opForms"], fn := fun _ => fun
  | [d, g1] => { results := [.lit (.bool false)], args := [d], vars := [g1] }
  | _ => none }
def FnStepsWrongFalsely : Prop := fnStepsRow.holds Tryz.pinned (OpenSpec.ofChange fnStepsWrong)

/-- 'laws.FnNeverBad': WHATEVER THE INPUT: true; the input reads as it did. -/
def fnNeverBadSpec : ChangeSpec := { name := "fnNeverBad", vars := ["loop.example/g00533/impl.opForms"], fn := fun _ => fun
  | [d, g1] => { results := [.lit (.bool true)], args := [d], vars := [g1] }
  | _ => none }
def fnNeverBadRow : OpenClaim := { program := "ytigcbegeaikfcaagreatdoor", sum := "bfa49555008ff9354bde82904cbeed8c89b9d61c1aa8f1cae9eb2379e0683961", func := "loop.example/g00533/laws.FnNeverBad", spec := "fnNeverBad", inPlace := ["slices.overlaps[loop.example/g00533/impl.Box]"], unfollowed := true, recurses := true, named := ["loop.example/g00533/impl.opForms"], apart := false, laid := [("loop.example/g00533/impl.opForms", laid_loop_example_g00533_impl_opForms)] }
def FnNeverBadSaid : Prop := fnNeverBadRow.holds Tryz.pinned (OpenSpec.ofChange fnNeverBadSpec)

/-- ITS FALSE NEIGHBOUR: 'it returns false'. Refute it at one input. -/
def fnNeverBadWrong : ChangeSpec := { name := "fnNeverBad", vars := ["loop.example/g00533/impl.opForms"], fn := fun _ => fun
  | [d, g1] => { results := [.lit (.bool false)], args := [d], vars := [g1] }
  | _ => none }
def FnNeverBadWrongFalsely : Prop := fnNeverBadRow.holds Tryz.pinned (OpenSpec.ofChange fnNeverBadWrong)

/-- 'laws.FnExactStepped': WHATEVER THE INPUT: true; the input reads as it did. -/
def fnExactSteppedSpec : ChangeSpec := { name := "fnExactStepped", vars := ["loop.example/g00533/impl.opForms"], fn := fun _ => fun
  | [d1, d2, d3, g1] => { results := [.lit (.bool true)], args := [d1, d2, d3], vars := [g1] }
  | _ => none }
def fnExactSteppedRow : OpenClaim := { program := "ytigcbegeaikfcaagreatdoor", sum := "bfa49555008ff9354bde82904cbeed8c89b9d61c1aa8f1cae9eb2379e0683961", func := "loop.example/g00533/laws.FnExactStepped", spec := "fnExactStepped", inPlace := ["slices.overlaps[loop.example/g00533/impl.Box]"], unfollowed := true, recurses := true, named := ["loop.example/g00533/impl.opForms"], apart := false, laid := [("loop.example/g00533/impl.opForms", laid_loop_example_g00533_impl_opForms)] }
def FnExactSteppedSaid : Prop := fnExactSteppedRow.holds Tryz.pinned (OpenSpec.ofChange fnExactSteppedSpec)

/-- ITS FALSE NEIGHBOUR: 'it returns false'. Refute it at one input. -/
def fnExactSteppedWrong : ChangeSpec := { name := "fnExactStepped", vars := ["loop.example/g00533/impl.opForms"], fn := fun _ => fun
  | [d1, d2, d3, g1] => { results := [.lit (.bool false)], args := [d1, d2, d3], vars := [g1] }
  | _ => none }
def FnExactSteppedWrongFalsely : Prop := fnExactSteppedRow.holds Tryz.pinned (OpenSpec.ofChange fnExactSteppedWrong)

/- THE SECOND FORM. 'bulk': how many values and letters a reading holds, each counted each time it is reached (what is shared counts as often as it is met; a slice's spare places count too). A statement '..UptoSaid' is the law's where the arguments, and the package variables that the reading takes, are together of bulk at most 1048576: NARROWER than '..Said'. Prove '..Said' where nothing that the law and all that it calls make is longer than what came in: it says more and counts as full. Else prove '..UptoSaid'. A law counts once. -/
mutual
def uptoBulk {H : Type} : DataW H → Nat
  | .lit (.string bytes) => bytes.length + 1
  | .lit _ => 1
  | .nil => 1
  | .ptr d => uptoBulk d + 1
  | .slice elems spare => uptoBulkAll elems + uptoBulkAll spare + 1
  | .agg parts => uptoBulkAll parts + 1
  | .iface _ d => uptoBulk d + 1
  | .map entries => uptoBulkEntries entries + 1
  | .held _ => 1
def uptoBulkAll {H : Type} : List (DataW H) → Nat
  | [] => 0
  | d :: r => uptoBulk d + uptoBulkAll r
def uptoBulkEntries {H : Type} : List (Lit × DataW H) → Nat
  | [] => 0
  | x :: r => uptoBulkEntry x + uptoBulkEntries r
def uptoBulkEntry {H : Type} : Lit × DataW H → Nat
  | (.string bytes, d) => bytes.length + uptoBulk d + 1
  | (_, d) => uptoBulk d + 1
 end
def uptoSmall : (H : Type) → List (DataW H) → Bool := fun _ ds => decide (uptoBulkAll ds ≤ 1048576)
def OpenSpec.upto (s : _root_.Go.ChangeSpec) : _root_.Go.OpenSpec := { _root_.Go.OpenSpec.ofChange s with cond := some uptoSmall }

/-- 'laws.FnSteps', WHERE WHAT IT READS IS OF BULK AT MOST 1048576: true; the input reads as it did. -/
def fnStepsUptoRow : OpenClaim := { program := "ytigcbegeaikfcaagreatdoor", sum := "bfa49555008ff9354bde82904cbeed8c89b9d61c1aa8f1cae9eb2379e0683961", func := "loop.example/g00533/laws.FnSteps", spec := "fnSteps", inPlace := ["slices.overlaps[loop.example/g00533/impl.Box]"], unfollowed := true, recurses := true, named := ["loop.example/g00533/impl.opForms"], apart := false, laid := [("loop.example/g00533/impl.opForms", laid_loop_example_g00533_impl_opForms)], narrowed := true }
def FnStepsUptoSaid : Prop := fnStepsUptoRow.holds Tryz.pinned (OpenSpec.upto fnStepsSpec)

/-- 'laws.FnNeverBad', WHERE WHAT IT READS IS OF BULK AT MOST 1048576: true; the input reads as it did. -/
def fnNeverBadUptoRow : OpenClaim := { program := "ytigcbegeaikfcaagreatdoor", sum := "bfa49555008ff9354bde82904cbeed8c89b9d61c1aa8f1cae9eb2379e0683961", func := "loop.example/g00533/laws.FnNeverBad", spec := "fnNeverBad", inPlace := ["slices.overlaps[loop.example/g00533/impl.Box]"], unfollowed := true, recurses := true, named := ["loop.example/g00533/impl.opForms"], apart := false, laid := [("loop.example/g00533/impl.opForms", laid_loop_example_g00533_impl_opForms)], narrowed := true }
def FnNeverBadUptoSaid : Prop := fnNeverBadUptoRow.holds Tryz.pinned (OpenSpec.upto fnNeverBadSpec)

/-- 'laws.FnExactStepped', WHERE WHAT IT READS IS OF BULK AT MOST 1048576: true; the input reads as it did. -/
def fnExactSteppedUptoRow : OpenClaim := { program := "ytigcbegeaikfcaagreatdoor", sum := "bfa49555008ff9354bde82904cbeed8c89b9d61c1aa8f1cae9eb2379e0683961", func := "loop.example/g00533/laws.FnExactStepped", spec := "fnExactStepped", inPlace := ["slices.overlaps[loop.example/g00533/impl.Box]"], unfollowed := true, recurses := true, named := ["loop.example/g00533/impl.opForms"], apart := false, laid := [("loop.example/g00533/impl.opForms", laid_loop_example_g00533_impl_opForms)], narrowed := true }
def FnExactSteppedUptoSaid : Prop := fnExactSteppedUptoRow.holds Tryz.pinned (OpenSpec.upto fnExactSteppedSpec)

end Rows
end Go.Proofs.YtigcbegeaikfcaaGreatDoor
