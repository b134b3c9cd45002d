/-
  DERIVED. GIVEN WITH THE SEED: THE CARDS: each row of YtjcmfdgphhonhaaGreatDoorRows.lean that lists a variable, with what it lists TIED to the program's text (the seventh form; the later family's looks); each row that meets fmt, with fmt's text TOLD by the authors' own Lean function (tested against real Go, not proved from fmt's source: count such statements apart). THE CARD IS WHAT COUNTS. Prove the row's statement (the work); the ties are given (YtjcmfdgphhonhaaGreatDoorTie.lean); close each card by the builder's one call (the guide's Derived/Test/ToyasCard.lean, 'card_holds'). Laid BY PROGRAM, IN A SANDBOX (cutbox-door.mjs). By AI agents, Wed Nov 11 2026. No macro, syntax, notation, axiom, sorry.
-/
import Derived.Test.YtjcmfdgphhonhaaGreatDoorRows
import GoSem.ClaimSeven
namespace Go.Proofs.YtjcmfdgphhonhaaGreatDoor
namespace Rows

/-- THE TIED CARD OF 'laws.FnCodes'. -/
def fnCodesCard : Claim7 := { stood := { row := fnCodesRow, standIns := [], harness := (true, "5eec627dda1e7e842fa9b006c8b52eb351e1ea66760d618a7f90d9a8acc3bb47"), looks := true }, kinds := [], alts := [], laidByText := true, laidKinds := [.data, .data, .data, .sentinel, .sentinel, .data], laidTests := true, laidLooks := .later }
def FnCodesCardSaid : Prop := Claim7.holds Tryz.pinned (.plain (OpenSpec.ofChange fnCodesSpec)) fnCodesCard

/-- THE TIED CARD OF 'laws.FnSteps'. -/
def fnStepsCard : Claim7 := { stood := { row := fnStepsRow, standIns := [], harness := (true, "5eec627dda1e7e842fa9b006c8b52eb351e1ea66760d618a7f90d9a8acc3bb47"), looks := true }, kinds := [], alts := [], laidByText := true, laidKinds := [.data], laidTests := true, laidLooks := .later }
def FnStepsCardSaid : Prop := Claim7.holds Tryz.pinned (.plain (OpenSpec.ofChange fnStepsSpec)) fnStepsCard

/-- THE TIED CARD OF 'laws.FnNeverBad'. -/
def fnNeverBadCard : Claim7 := { stood := { row := fnNeverBadRow, standIns := [], harness := (true, "5eec627dda1e7e842fa9b006c8b52eb351e1ea66760d618a7f90d9a8acc3bb47"), looks := true }, kinds := [], alts := [], laidByText := true, laidKinds := [.data], laidTests := true, laidLooks := .later }
def FnNeverBadCardSaid : Prop := Claim7.holds Tryz.pinned (.plain (OpenSpec.ofChange fnNeverBadSpec)) fnNeverBadCard

/-- THE TIED CARD OF 'laws.FnExactStepped'. -/
def fnExactSteppedCard : Claim7 := { stood := { row := fnExactSteppedRow, standIns := [], harness := (true, "5eec627dda1e7e842fa9b006c8b52eb351e1ea66760d618a7f90d9a8acc3bb47"), looks := true }, kinds := [], alts := [], laidByText := true, laidKinds := [.data], laidTests := true, laidLooks := .later }
def FnExactSteppedCardSaid : Prop := Claim7.holds Tryz.pinned (.plain (OpenSpec.ofChange fnExactSteppedSpec)) fnExactSteppedCard

/-- THE SECOND FORM's CARD OF 'laws.FnCodes'. -/
def fnCodesUptoCard : Claim7 := { stood := { row := fnCodesUptoRow, standIns := [], harness := (true, "5eec627dda1e7e842fa9b006c8b52eb351e1ea66760d618a7f90d9a8acc3bb47"), looks := true }, kinds := [], alts := [], laidByText := true, laidKinds := [.data, .data, .data, .sentinel, .sentinel, .data], laidTests := true, laidLooks := .later }
def FnCodesUptoCardSaid : Prop := Claim7.holds Tryz.pinned (.plain (OpenSpec.upto fnCodesSpec)) fnCodesUptoCard

/-- THE SECOND FORM's CARD OF 'laws.FnSteps'. -/
def fnStepsUptoCard : Claim7 := { stood := { row := fnStepsUptoRow, standIns := [], harness := (true, "5eec627dda1e7e842fa9b006c8b52eb351e1ea66760d618a7f90d9a8acc3bb47"), looks := true }, kinds := [], alts := [], laidByText := true, laidKinds := [.data], laidTests := true, laidLooks := .later }
def FnStepsUptoCardSaid : Prop := Claim7.holds Tryz.pinned (.plain (OpenSpec.upto fnStepsSpec)) fnStepsUptoCard

/-- THE SECOND FORM's CARD OF 'laws.FnNeverBad'. -/
def fnNeverBadUptoCard : Claim7 := { stood := { row := fnNeverBadUptoRow, standIns := [], harness := (true, "5eec627dda1e7e842fa9b006c8b52eb351e1ea66760d618a7f90d9a8acc3bb47"), looks := true }, kinds := [], alts := [], laidByText := true, laidKinds := [.data], laidTests := true, laidLooks := .later }
def FnNeverBadUptoCardSaid : Prop := Claim7.holds Tryz.pinned (.plain (OpenSpec.upto fnNeverBadSpec)) fnNeverBadUptoCard

/-- THE SECOND FORM's CARD OF 'laws.FnExactStepped'. -/
def fnExactSteppedUptoCard : Claim7 := { stood := { row := fnExactSteppedUptoRow, standIns := [], harness := (true, "5eec627dda1e7e842fa9b006c8b52eb351e1ea66760d618a7f90d9a8acc3bb47"), looks := true }, kinds := [], alts := [], laidByText := true, laidKinds := [.data], laidTests := true, laidLooks := .later }
def FnExactSteppedUptoCardSaid : Prop := Claim7.holds Tryz.pinned (.plain (OpenSpec.upto fnExactSteppedSpec)) fnExactSteppedUptoCard
end Rows
end Go.Proofs.YtjcmfdgphhonhaaGreatDoor
