/-
  DERIVED. GIVEN WITH THE SEED: THE CARDS: each row of YtigcbegeaikfcaaDoorRows.lean that lists a variable, with what it lists TIED to the program's text (the seventh form; the later family's looks); each row that meets fmt, with fmt's text TOLD by the authors' own Lean function (tested against real Go, not proved from fmt's source: count such statements apart). THE CARD IS WHAT COUNTS. Prove the row's statement (the work); the ties are given (YtigcbegeaikfcaaDoorTie.lean); close each card by the builder's one call (the guide's Derived/Test/ToyasCard.lean, 'card_holds'). Laid BY PROGRAM, IN A SANDBOX (cutbox-door.mjs). By AI agents, Wed Nov 11 2026. No macro, syntax, notation, axiom, sorry.
-/
import Derived.Test.YtigcbegeaikfcaaDoorRows
import GoSem.ClaimSeven
namespace Go.Proofs.YtigcbegeaikfcaaDoor
namespace Rows

/-- THE TIED CARD OF 'laws.FnSlots'. -/
def fnSlotsCard : Claim7 := { stood := { row := fnSlotsRow, standIns := [], harness := (true, "78c5281724acd85c39ad8453dc887fa9bfb18eab0fb8bfab7b8d181997d33c21"), looks := true }, kinds := [], alts := [], laidByText := true, laidKinds := [.data, .data, .data, .data, .sentinel, .sentinel, .pinned], laidTests := true, laidLooks := .later }
def FnSlotsCardSaid : Prop := Claim7.holds Tryd.pinned (.plain (OpenSpec.ofChange fnSlotsSpec)) fnSlotsCard

/-- THE TIED CARD OF 'laws.FnExactShowSlots'. -/
def fnExactShowSlotsCard : Claim7 := { stood := { row := fnExactShowSlotsRow, standIns := [], harness := (true, "78c5281724acd85c39ad8453dc887fa9bfb18eab0fb8bfab7b8d181997d33c21"), looks := true }, kinds := [], alts := [], laidByText := true, laidKinds := [.data, .data, .data], laidTests := true, laidLooks := .later }
def FnExactShowSlotsCardSaid : Prop := Claim7.holds Tryd.pinned (.plain (OpenSpec.ofChange fnExactShowSlotsSpec)) fnExactShowSlotsCard

/-- THE TIED CARD OF 'laws.FnExactReadSlots'. -/
def fnExactReadSlotsCard : Claim7 := { stood := { row := fnExactReadSlotsRow, standIns := [], harness := (true, "78c5281724acd85c39ad8453dc887fa9bfb18eab0fb8bfab7b8d181997d33c21"), looks := true }, kinds := [], alts := [], laidByText := true, laidKinds := [.data, .data, .data, .data, .sentinel, .sentinel, .pinned], laidTests := true, laidLooks := .later }
def FnExactReadSlotsCardSaid : Prop := Claim7.holds Tryd.pinned (.plain (OpenSpec.ofChange fnExactReadSlotsSpec)) fnExactReadSlotsCard

/-- THE SECOND FORM's CARD OF 'laws.FnSlots'. -/
def fnSlotsUptoCard : Claim7 := { stood := { row := fnSlotsUptoRow, standIns := [], harness := (true, "78c5281724acd85c39ad8453dc887fa9bfb18eab0fb8bfab7b8d181997d33c21"), looks := true }, kinds := [], alts := [], laidByText := true, laidKinds := [.data, .data, .data, .data, .sentinel, .sentinel, .pinned], laidTests := true, laidLooks := .later }
def FnSlotsUptoCardSaid : Prop := Claim7.holds Tryd.pinned (.plain (OpenSpec.upto fnSlotsSpec)) fnSlotsUptoCard

/-- THE SECOND FORM's CARD OF 'laws.FnExactShowSlots'. -/
def fnExactShowSlotsUptoCard : Claim7 := { stood := { row := fnExactShowSlotsUptoRow, standIns := [], harness := (true, "78c5281724acd85c39ad8453dc887fa9bfb18eab0fb8bfab7b8d181997d33c21"), looks := true }, kinds := [], alts := [], laidByText := true, laidKinds := [.data, .data, .data], laidTests := true, laidLooks := .later }
def FnExactShowSlotsUptoCardSaid : Prop := Claim7.holds Tryd.pinned (.plain (OpenSpec.upto fnExactShowSlotsSpec)) fnExactShowSlotsUptoCard

/-- THE SECOND FORM's CARD OF 'laws.FnExactReadSlots'. -/
def fnExactReadSlotsUptoCard : Claim7 := { stood := { row := fnExactReadSlotsUptoRow, standIns := [], harness := (true, "78c5281724acd85c39ad8453dc887fa9bfb18eab0fb8bfab7b8d181997d33c21"), looks := true }, kinds := [], alts := [], laidByText := true, laidKinds := [.data, .data, .data, .data, .sentinel, .sentinel, .pinned], laidTests := true, laidLooks := .later }
def FnExactReadSlotsUptoCardSaid : Prop := Claim7.holds Tryd.pinned (.plain (OpenSpec.upto fnExactReadSlotsSpec)) fnExactReadSlotsUptoCard
end Rows
end Go.Proofs.YtigcbegeaikfcaaDoor
