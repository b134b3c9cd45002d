/-
  DERIVED. GIVEN WITH THE SEED: THE CARDS: each row of YtblnonlcjfcblaaDoorRows.lean that lists a variable, with what it lists TIED to the program's text (the seventh form; the later family's looks); each row that meets fmt, with fmt's text TOLD by the authors' own Lean function (tested against real Go, not proved from fmt's source: count such statements apart). THE CARD IS WHAT COUNTS. Prove the row's statement (the work); the ties are given (YtblnonlcjfcblaaDoorTie.lean); close each card by the builder's one call (the guide's Derived/Test/ToyasCard.lean, 'card_holds'). Laid BY PROGRAM, IN A SANDBOX (cutbox-door.mjs). By AI agents, Wed Nov 11 2026. No macro, syntax, notation, axiom, sorry.
-/
import Derived.Test.YtblnonlcjfcblaaDoorRows
import GoSem.ClaimSeven
namespace Go.Proofs.YtblnonlcjfcblaaDoor
namespace Rows

/-- THE TIED CARD OF 'laws.FnExactNamesIn'. -/
def fnExactNamesInCard : Claim7 := { stood := { row := fnExactNamesInRow, standIns := [], harness := (true, "d641eee575b1bf3b14dea32e6feef4a9a51a097fda69898e9181c5e4c6569981"), looks := true }, kinds := [], alts := [], laidByText := true, laidKinds := [.data, .data, .data, .sentinel, .sentinel], laidTests := true, laidLooks := .later }
def FnExactNamesInCardSaid : Prop := Claim7.holds Tryd.pinned (.plain (OpenSpec.ofChange fnExactNamesInSpec)) fnExactNamesInCard

/-- THE TIED CARD OF 'laws.FnOnlyNames'. -/
def fnOnlyNamesCard : Claim7 := { stood := { row := fnOnlyNamesRow, standIns := [], harness := (true, "d641eee575b1bf3b14dea32e6feef4a9a51a097fda69898e9181c5e4c6569981"), looks := true }, kinds := [], alts := [], laidByText := true, laidKinds := [.data, .data, .data, .sentinel, .sentinel], laidTests := true, laidLooks := .later }
def FnOnlyNamesCardSaid : Prop := Claim7.holds Tryd.pinned (.plain (OpenSpec.ofChange fnOnlyNamesSpec)) fnOnlyNamesCard

/-- THE SECOND FORM's CARD OF 'laws.FnExactNamesIn'. -/
def fnExactNamesInUptoCard : Claim7 := { stood := { row := fnExactNamesInUptoRow, standIns := [], harness := (true, "d641eee575b1bf3b14dea32e6feef4a9a51a097fda69898e9181c5e4c6569981"), looks := true }, kinds := [], alts := [], laidByText := true, laidKinds := [.data, .data, .data, .sentinel, .sentinel], laidTests := true, laidLooks := .later }
def FnExactNamesInUptoCardSaid : Prop := Claim7.holds Tryd.pinned (.plain (OpenSpec.upto fnExactNamesInSpec)) fnExactNamesInUptoCard

/-- THE SECOND FORM's CARD OF 'laws.FnOnlyNames'. -/
def fnOnlyNamesUptoCard : Claim7 := { stood := { row := fnOnlyNamesUptoRow, standIns := [], harness := (true, "d641eee575b1bf3b14dea32e6feef4a9a51a097fda69898e9181c5e4c6569981"), looks := true }, kinds := [], alts := [], laidByText := true, laidKinds := [.data, .data, .data, .sentinel, .sentinel], laidTests := true, laidLooks := .later }
def FnOnlyNamesUptoCardSaid : Prop := Claim7.holds Tryd.pinned (.plain (OpenSpec.upto fnOnlyNamesSpec)) fnOnlyNamesUptoCard
end Rows
end Go.Proofs.YtblnonlcjfcblaaDoor
