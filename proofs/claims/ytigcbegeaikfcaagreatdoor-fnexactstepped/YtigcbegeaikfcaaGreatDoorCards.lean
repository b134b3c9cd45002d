/-
  DERIVED. GIVEN WITH THE SEED: THE CARDS: each row of YtigcbegeaikfcaaGreatDoorRows.lean that lists a variable, with what it lists TIED to the program's text (the seventh form; the later family's looks); each row that meets fmt, with fmt's text TOLD by the authors' own Lean function (tested against real Go, not proved from fmt's source: count such statements apart). THE CARD IS WHAT COUNTS. Prove the row's statement (the work); the ties are given (YtigcbegeaikfcaaGreatDoorTie.lean); close each card by the builder's one call (the guide's Derived/Test/ToyasCard.lean, 'card_holds'). Laid BY PROGRAM, IN A SANDBOX (cutbox-door.mjs). By AI agents, Wed Nov 11 2026. No macro, syntax, notation, axiom, sorry.
-/
import Derived.Test.YtigcbegeaikfcaaGreatDoorRows
import GoSem.ClaimSeven
namespace Go.Proofs.YtigcbegeaikfcaaGreatDoor
namespace Rows

/-- THE TIED CARD OF 'laws.FnSteps'. -/
def fnStepsCard : Claim7 := { stood := { row := fnStepsRow, standIns := [], harness := (true, "5f47651b63b00c26649233d39ea9feb5b7c9513ab7fa5eebd3eb46918ff801b0"), looks := false }, kinds := [], alts := [], laidByText := true, laidKinds := [.data], laidTests := true, laidLooks := .later }
def FnStepsCardSaid : Prop := Claim7.holds Tryz.pinned (.plain (OpenSpec.ofChange fnStepsSpec)) fnStepsCard

/-- THE TIED CARD OF 'laws.FnNeverBad'. -/
def fnNeverBadCard : Claim7 := { stood := { row := fnNeverBadRow, standIns := [], harness := (true, "5f47651b63b00c26649233d39ea9feb5b7c9513ab7fa5eebd3eb46918ff801b0"), looks := false }, kinds := [], alts := [], laidByText := true, laidKinds := [.data], laidTests := true, laidLooks := .later }
def FnNeverBadCardSaid : Prop := Claim7.holds Tryz.pinned (.plain (OpenSpec.ofChange fnNeverBadSpec)) fnNeverBadCard

/-- THE TIED CARD OF 'laws.FnExactStepped'. -/
def fnExactSteppedCard : Claim7 := { stood := { row := fnExactSteppedRow, standIns := [], harness := (true, "5f47651b63b00c26649233d39ea9feb5b7c9513ab7fa5eebd3eb46918ff801b0"), looks := false }, kinds := [], alts := [], laidByText := true, laidKinds := [.data], laidTests := true, laidLooks := .later }
def FnExactSteppedCardSaid : Prop := Claim7.holds Tryz.pinned (.plain (OpenSpec.ofChange fnExactSteppedSpec)) fnExactSteppedCard

/-- THE SECOND FORM's CARD OF 'laws.FnSteps'. -/
def fnStepsUptoCard : Claim7 := { stood := { row := fnStepsUptoRow, standIns := [], harness := (true, "5f47651b63b00c26649233d39ea9feb5b7c9513ab7fa5eebd3eb46918ff801b0"), looks := false }, kinds := [], alts := [], laidByText := true, laidKinds := [.data], laidTests := true, laidLooks := .later }
def FnStepsUptoCardSaid : Prop := Claim7.holds Tryz.pinned (.plain (OpenSpec.upto fnStepsSpec)) fnStepsUptoCard

/-- THE SECOND FORM's CARD OF 'laws.FnNeverBad'. -/
def fnNeverBadUptoCard : Claim7 := { stood := { row := fnNeverBadUptoRow, standIns := [], harness := (true, "5f47651b63b00c26649233d39ea9feb5b7c9513ab7fa5eebd3eb46918ff801b0"), looks := false }, kinds := [], alts := [], laidByText := true, laidKinds := [.data], laidTests := true, laidLooks := .later }
def FnNeverBadUptoCardSaid : Prop := Claim7.holds Tryz.pinned (.plain (OpenSpec.upto fnNeverBadSpec)) fnNeverBadUptoCard

/-- THE SECOND FORM's CARD OF 'laws.FnExactStepped'. -/
def fnExactSteppedUptoCard : Claim7 := { stood := { row := fnExactSteppedUptoRow, standIns := [], harness := (true, "5f47651b63b00c26649233d39ea9feb5b7c9513ab7fa5eebd3eb46918ff801b0"), looks := false }, kinds := [], alts := [], laidByText := true, laidKinds := [.data], laidTests := true, laidLooks := .later }
def FnExactSteppedUptoCardSaid : Prop := Claim7.holds Tryz.pinned (.plain (OpenSpec.upto fnExactSteppedSpec)) fnExactSteppedUptoCard
end Rows
end Go.Proofs.YtigcbegeaikfcaaGreatDoor
