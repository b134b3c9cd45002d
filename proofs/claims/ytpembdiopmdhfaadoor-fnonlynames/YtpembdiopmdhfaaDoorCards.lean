/-
  DERIVED. GIVEN WITH THE SEED: THE CARDS: each row of YtpembdiopmdhfaaDoorRows.lean that lists a variable, with what it lists TIED to the program's text (the seventh form; the later family's looks); each row that meets fmt, with fmt's text TOLD by the authors' own Lean function (tested against real Go, not proved from fmt's source: count such statements apart). THE CARD IS WHAT COUNTS. Prove the row's statement (the work); the ties are given (YtpembdiopmdhfaaDoorTie.lean); close each card by the builder's one call (the guide's Derived/Test/ToyasCard.lean, 'card_holds'). Laid BY PROGRAM, IN A SANDBOX (cutbox-door.mjs). By AI agents, Wed Nov 11 2026. No macro, syntax, notation, axiom, sorry.
-/
import Derived.Test.YtpembdiopmdhfaaDoorRows
import GoSem.ClaimSeven
namespace Go.Proofs.YtpembdiopmdhfaaDoor
namespace Rows

/-- THE TIED CARD OF 'laws.FnOnlyNames'. -/
def fnOnlyNamesCard : Claim7 := { stood := { row := fnOnlyNamesRow, standIns := [], harness := (true, "4322a44ad4782e53dd0b4ddf555c1a1fe3c8f43dd6ab77b068fe558d83bd62d7"), looks := true }, kinds := [], alts := [], laidByText := true, laidKinds := [.data, .data, .data, .sentinel, .sentinel], laidTests := true, laidLooks := .later }
def FnOnlyNamesCardSaid : Prop := Claim7.holds Tryd.pinned (.plain (OpenSpec.ofChange fnOnlyNamesSpec)) fnOnlyNamesCard

/-- THE TIED CARD OF 'laws.FnExactSumEnd'. -/
def fnExactSumEndCard : Claim7 := { stood := { row := fnExactSumEndRow, standIns := [], harness := (true, "4322a44ad4782e53dd0b4ddf555c1a1fe3c8f43dd6ab77b068fe558d83bd62d7"), looks := true }, kinds := [], alts := [], laidByText := true, laidKinds := [.data, .data, .data, .sentinel, .sentinel], laidTests := true, laidLooks := .later }
def FnExactSumEndCardSaid : Prop := Claim7.holds Tryd.pinned (.plain (OpenSpec.ofChange fnExactSumEndSpec)) fnExactSumEndCard

/-- THE TIED CARD OF 'laws.FnExactNamesIn'. -/
def fnExactNamesInCard : Claim7 := { stood := { row := fnExactNamesInRow, standIns := [], harness := (true, "4322a44ad4782e53dd0b4ddf555c1a1fe3c8f43dd6ab77b068fe558d83bd62d7"), looks := true }, kinds := [], alts := [], laidByText := true, laidKinds := [.data, .data, .data, .sentinel, .sentinel], laidTests := true, laidLooks := .later }
def FnExactNamesInCardSaid : Prop := Claim7.holds Tryd.pinned (.plain (OpenSpec.ofChange fnExactNamesInSpec)) fnExactNamesInCard

/-- THE TIED CARD OF 'laws.FnExactMayFail'. -/
def fnExactMayFailCard : Claim7 := { stood := { row := fnExactMayFailRow, standIns := [], harness := (true, "4322a44ad4782e53dd0b4ddf555c1a1fe3c8f43dd6ab77b068fe558d83bd62d7"), looks := true }, kinds := [], alts := [], laidByText := true, laidKinds := [.data, .data, .data, .sentinel, .sentinel], laidTests := true, laidLooks := .later }
def FnExactMayFailCardSaid : Prop := Claim7.holds Tryd.pinned (.plain (OpenSpec.ofChange fnExactMayFailSpec)) fnExactMayFailCard

/-- THE TIED CARD OF 'laws.FnExactSumOf'. -/
def fnExactSumOfCard : Claim7 := { stood := { row := fnExactSumOfRow, standIns := [], harness := (true, "4322a44ad4782e53dd0b4ddf555c1a1fe3c8f43dd6ab77b068fe558d83bd62d7"), looks := true }, kinds := [], alts := [], laidByText := true, laidKinds := [.data, .data, .data, .sentinel, .sentinel], laidTests := true, laidLooks := .later }
def FnExactSumOfCardSaid : Prop := Claim7.holds Tryd.pinned (.plain (OpenSpec.ofChange fnExactSumOfSpec)) fnExactSumOfCard

/-- THE SECOND FORM's CARD OF 'laws.FnOnlyNames'. -/
def fnOnlyNamesUptoCard : Claim7 := { stood := { row := fnOnlyNamesUptoRow, standIns := [], harness := (true, "4322a44ad4782e53dd0b4ddf555c1a1fe3c8f43dd6ab77b068fe558d83bd62d7"), looks := true }, kinds := [], alts := [], laidByText := true, laidKinds := [.data, .data, .data, .sentinel, .sentinel], laidTests := true, laidLooks := .later }
def FnOnlyNamesUptoCardSaid : Prop := Claim7.holds Tryd.pinned (.plain (OpenSpec.upto fnOnlyNamesSpec)) fnOnlyNamesUptoCard

/-- THE SECOND FORM's CARD OF 'laws.FnExactSumEnd'. -/
def fnExactSumEndUptoCard : Claim7 := { stood := { row := fnExactSumEndUptoRow, standIns := [], harness := (true, "4322a44ad4782e53dd0b4ddf555c1a1fe3c8f43dd6ab77b068fe558d83bd62d7"), looks := true }, kinds := [], alts := [], laidByText := true, laidKinds := [.data, .data, .data, .sentinel, .sentinel], laidTests := true, laidLooks := .later }
def FnExactSumEndUptoCardSaid : Prop := Claim7.holds Tryd.pinned (.plain (OpenSpec.upto fnExactSumEndSpec)) fnExactSumEndUptoCard

/-- THE SECOND FORM's CARD OF 'laws.FnExactNamesIn'. -/
def fnExactNamesInUptoCard : Claim7 := { stood := { row := fnExactNamesInUptoRow, standIns := [], harness := (true, "4322a44ad4782e53dd0b4ddf555c1a1fe3c8f43dd6ab77b068fe558d83bd62d7"), looks := true }, kinds := [], alts := [], laidByText := true, laidKinds := [.data, .data, .data, .sentinel, .sentinel], laidTests := true, laidLooks := .later }
def FnExactNamesInUptoCardSaid : Prop := Claim7.holds Tryd.pinned (.plain (OpenSpec.upto fnExactNamesInSpec)) fnExactNamesInUptoCard

/-- THE SECOND FORM's CARD OF 'laws.FnExactMayFail'. -/
def fnExactMayFailUptoCard : Claim7 := { stood := { row := fnExactMayFailUptoRow, standIns := [], harness := (true, "4322a44ad4782e53dd0b4ddf555c1a1fe3c8f43dd6ab77b068fe558d83bd62d7"), looks := true }, kinds := [], alts := [], laidByText := true, laidKinds := [.data, .data, .data, .sentinel, .sentinel], laidTests := true, laidLooks := .later }
def FnExactMayFailUptoCardSaid : Prop := Claim7.holds Tryd.pinned (.plain (OpenSpec.upto fnExactMayFailSpec)) fnExactMayFailUptoCard

/-- THE SECOND FORM's CARD OF 'laws.FnExactSumOf'. -/
def fnExactSumOfUptoCard : Claim7 := { stood := { row := fnExactSumOfUptoRow, standIns := [], harness := (true, "4322a44ad4782e53dd0b4ddf555c1a1fe3c8f43dd6ab77b068fe558d83bd62d7"), looks := true }, kinds := [], alts := [], laidByText := true, laidKinds := [.data, .data, .data, .sentinel, .sentinel], laidTests := true, laidLooks := .later }
def FnExactSumOfUptoCardSaid : Prop := Claim7.holds Tryd.pinned (.plain (OpenSpec.upto fnExactSumOfSpec)) fnExactSumOfUptoCard
end Rows
end Go.Proofs.YtpembdiopmdhfaaDoor
