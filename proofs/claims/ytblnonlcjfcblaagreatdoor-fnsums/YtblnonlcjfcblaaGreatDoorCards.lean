/-
  DERIVED. GIVEN WITH THE SEED: THE CARDS: each row of YtblnonlcjfcblaaGreatDoorRows.lean that lists a variable, with what it lists TIED to the program's text (the seventh form; the later family's looks); each row that meets fmt, with fmt's text TOLD by the authors' own Lean function (tested against real Go, not proved from fmt's source: count such statements apart). THE CARD IS WHAT COUNTS. Prove the row's statement (the work); the ties are given (YtblnonlcjfcblaaGreatDoorTie.lean); close each card by the builder's one call (the guide's Derived/Test/ToyasCard.lean, 'card_holds'). Laid BY PROGRAM, IN A SANDBOX (cutbox-door.mjs). By AI agents, Wed Nov 11 2026. No macro, syntax, notation, axiom, sorry.
-/
import Derived.Test.YtblnonlcjfcblaaGreatDoorRows
import GoSem.ClaimSeven
namespace Go.Proofs.YtblnonlcjfcblaaGreatDoor
namespace Rows

/-- THE TIED CARD OF 'laws.FnExactPlayOk'. -/
def fnExactPlayOkCard : Claim7 := { stood := { row := fnExactPlayOkRow, standIns := [], harness := (true, "db81d4606249669b616b129e68a1a0497aee079e1aaed0920972bfd82b29ff3b"), looks := true }, kinds := [], alts := [], laidByText := true, laidKinds := [.data, .data, .data, .sentinel, .sentinel], laidTests := true, laidLooks := .later }
def FnExactPlayOkCardSaid : Prop := Claim7.holds Tryz.pinned (.plain (OpenSpec.ofChange fnExactPlayOkSpec)) fnExactPlayOkCard

/-- THE TIED CARD OF 'laws.FnExactShowPlay'. -/
def fnExactShowPlayCard : Claim7 := { stood := { row := fnExactShowPlayRow, standIns := [], harness := (true, "db81d4606249669b616b129e68a1a0497aee079e1aaed0920972bfd82b29ff3b"), looks := true }, kinds := [], alts := [], laidByText := true, laidKinds := [.data, .data, .data, .sentinel, .sentinel], laidTests := true, laidLooks := .later }
def FnExactShowPlayCardSaid : Prop := Claim7.holds Tryz.pinned (.plain (OpenSpec.ofChange fnExactShowPlaySpec)) fnExactShowPlayCard

/-- THE TIED CARD OF 'laws.FnExactReadPlay'. -/
def fnExactReadPlayCard : Claim7 := { stood := { row := fnExactReadPlayRow, standIns := [], harness := (true, "db81d4606249669b616b129e68a1a0497aee079e1aaed0920972bfd82b29ff3b"), looks := true }, kinds := [], alts := [], laidByText := true, laidKinds := [.data, .data, .data, .data, .sentinel, .sentinel, .pinned], laidTests := true, laidLooks := .later }
def FnExactReadPlayCardSaid : Prop := Claim7.holds Tryz.pinned (.plain (OpenSpec.ofChange fnExactReadPlaySpec)) fnExactReadPlayCard

/-- THE TIED CARD OF 'laws.FnExactAllNames'. -/
def fnExactAllNamesCard : Claim7 := { stood := { row := fnExactAllNamesRow, standIns := [], harness := (true, "db81d4606249669b616b129e68a1a0497aee079e1aaed0920972bfd82b29ff3b"), looks := true }, kinds := [], alts := [], laidByText := true, laidKinds := [.data, .data, .data, .sentinel, .sentinel], laidTests := true, laidLooks := .later }
def FnExactAllNamesCardSaid : Prop := Claim7.holds Tryz.pinned (.plain (OpenSpec.ofChange fnExactAllNamesSpec)) fnExactAllNamesCard

/-- THE TIED CARD OF 'laws.FnExactGatesIn'. -/
def fnExactGatesInCard : Claim7 := { stood := { row := fnExactGatesInRow, standIns := [], harness := (true, "db81d4606249669b616b129e68a1a0497aee079e1aaed0920972bfd82b29ff3b"), looks := true }, kinds := [], alts := [], laidByText := true, laidKinds := [.data, .data, .data, .sentinel, .sentinel], laidTests := true, laidLooks := .later }
def FnExactGatesInCardSaid : Prop := Claim7.holds Tryz.pinned (.plain (OpenSpec.ofChange fnExactGatesInSpec)) fnExactGatesInCard

/-- THE TIED CARD OF 'laws.FnPlays'. -/
def fnPlaysCard : Claim7 := { stood := { row := fnPlaysRow, standIns := [], harness := (true, "db81d4606249669b616b129e68a1a0497aee079e1aaed0920972bfd82b29ff3b"), looks := true }, kinds := [], alts := [], laidByText := true, laidKinds := [.data, .data, .data, .data, .sentinel, .sentinel, .pinned], laidTests := true, laidLooks := .later }
def FnPlaysCardSaid : Prop := Claim7.holds Tryz.pinned (.plain (OpenSpec.ofChange fnPlaysSpec)) fnPlaysCard

/-- THE TIED CARD OF 'laws.FnDeeds'. -/
def fnDeedsCard : Claim7 := { stood := { row := fnDeedsRow, standIns := [], harness := (true, "db81d4606249669b616b129e68a1a0497aee079e1aaed0920972bfd82b29ff3b"), looks := true }, kinds := [], alts := [], laidByText := true, laidKinds := [.data, .data, .data, .sentinel, .sentinel], laidTests := true, laidLooks := .later }
def FnDeedsCardSaid : Prop := Claim7.holds Tryz.pinned (.plain (OpenSpec.ofChange fnDeedsSpec)) fnDeedsCard

/-- THE TIED CARD OF 'laws.FnSums'. -/
def fnSumsCard : Claim7 := { stood := { row := fnSumsRow, standIns := [], harness := (true, "db81d4606249669b616b129e68a1a0497aee079e1aaed0920972bfd82b29ff3b"), looks := true }, kinds := [], alts := [], laidByText := true, laidKinds := [.data, .data, .data, .sentinel, .sentinel], laidTests := true, laidLooks := .later }
def FnSumsCardSaid : Prop := Claim7.holds Tryz.pinned (.plain (OpenSpec.ofChange fnSumsSpec)) fnSumsCard

/-- THE SECOND FORM's CARD OF 'laws.FnExactPlayOk'. -/
def fnExactPlayOkUptoCard : Claim7 := { stood := { row := fnExactPlayOkUptoRow, standIns := [], harness := (true, "db81d4606249669b616b129e68a1a0497aee079e1aaed0920972bfd82b29ff3b"), looks := true }, kinds := [], alts := [], laidByText := true, laidKinds := [.data, .data, .data, .sentinel, .sentinel], laidTests := true, laidLooks := .later }
def FnExactPlayOkUptoCardSaid : Prop := Claim7.holds Tryz.pinned (.plain (OpenSpec.upto fnExactPlayOkSpec)) fnExactPlayOkUptoCard

/-- THE SECOND FORM's CARD OF 'laws.FnExactShowPlay'. -/
def fnExactShowPlayUptoCard : Claim7 := { stood := { row := fnExactShowPlayUptoRow, standIns := [], harness := (true, "db81d4606249669b616b129e68a1a0497aee079e1aaed0920972bfd82b29ff3b"), looks := true }, kinds := [], alts := [], laidByText := true, laidKinds := [.data, .data, .data, .sentinel, .sentinel], laidTests := true, laidLooks := .later }
def FnExactShowPlayUptoCardSaid : Prop := Claim7.holds Tryz.pinned (.plain (OpenSpec.upto fnExactShowPlaySpec)) fnExactShowPlayUptoCard

/-- THE SECOND FORM's CARD OF 'laws.FnExactReadPlay'. -/
def fnExactReadPlayUptoCard : Claim7 := { stood := { row := fnExactReadPlayUptoRow, standIns := [], harness := (true, "db81d4606249669b616b129e68a1a0497aee079e1aaed0920972bfd82b29ff3b"), looks := true }, kinds := [], alts := [], laidByText := true, laidKinds := [.data, .data, .data, .data, .sentinel, .sentinel, .pinned], laidTests := true, laidLooks := .later }
def FnExactReadPlayUptoCardSaid : Prop := Claim7.holds Tryz.pinned (.plain (OpenSpec.upto fnExactReadPlaySpec)) fnExactReadPlayUptoCard

/-- THE SECOND FORM's CARD OF 'laws.FnExactAllNames'. -/
def fnExactAllNamesUptoCard : Claim7 := { stood := { row := fnExactAllNamesUptoRow, standIns := [], harness := (true, "db81d4606249669b616b129e68a1a0497aee079e1aaed0920972bfd82b29ff3b"), looks := true }, kinds := [], alts := [], laidByText := true, laidKinds := [.data, .data, .data, .sentinel, .sentinel], laidTests := true, laidLooks := .later }
def FnExactAllNamesUptoCardSaid : Prop := Claim7.holds Tryz.pinned (.plain (OpenSpec.upto fnExactAllNamesSpec)) fnExactAllNamesUptoCard

/-- THE SECOND FORM's CARD OF 'laws.FnExactGatesIn'. -/
def fnExactGatesInUptoCard : Claim7 := { stood := { row := fnExactGatesInUptoRow, standIns := [], harness := (true, "db81d4606249669b616b129e68a1a0497aee079e1aaed0920972bfd82b29ff3b"), looks := true }, kinds := [], alts := [], laidByText := true, laidKinds := [.data, .data, .data, .sentinel, .sentinel], laidTests := true, laidLooks := .later }
def FnExactGatesInUptoCardSaid : Prop := Claim7.holds Tryz.pinned (.plain (OpenSpec.upto fnExactGatesInSpec)) fnExactGatesInUptoCard

/-- THE SECOND FORM's CARD OF 'laws.FnPlays'. -/
def fnPlaysUptoCard : Claim7 := { stood := { row := fnPlaysUptoRow, standIns := [], harness := (true, "db81d4606249669b616b129e68a1a0497aee079e1aaed0920972bfd82b29ff3b"), looks := true }, kinds := [], alts := [], laidByText := true, laidKinds := [.data, .data, .data, .data, .sentinel, .sentinel, .pinned], laidTests := true, laidLooks := .later }
def FnPlaysUptoCardSaid : Prop := Claim7.holds Tryz.pinned (.plain (OpenSpec.upto fnPlaysSpec)) fnPlaysUptoCard

/-- THE SECOND FORM's CARD OF 'laws.FnDeeds'. -/
def fnDeedsUptoCard : Claim7 := { stood := { row := fnDeedsUptoRow, standIns := [], harness := (true, "db81d4606249669b616b129e68a1a0497aee079e1aaed0920972bfd82b29ff3b"), looks := true }, kinds := [], alts := [], laidByText := true, laidKinds := [.data, .data, .data, .sentinel, .sentinel], laidTests := true, laidLooks := .later }
def FnDeedsUptoCardSaid : Prop := Claim7.holds Tryz.pinned (.plain (OpenSpec.upto fnDeedsSpec)) fnDeedsUptoCard

/-- THE SECOND FORM's CARD OF 'laws.FnSums'. -/
def fnSumsUptoCard : Claim7 := { stood := { row := fnSumsUptoRow, standIns := [], harness := (true, "db81d4606249669b616b129e68a1a0497aee079e1aaed0920972bfd82b29ff3b"), looks := true }, kinds := [], alts := [], laidByText := true, laidKinds := [.data, .data, .data, .sentinel, .sentinel], laidTests := true, laidLooks := .later }
def FnSumsUptoCardSaid : Prop := Claim7.holds Tryz.pinned (.plain (OpenSpec.upto fnSumsSpec)) fnSumsUptoCard
end Rows
end Go.Proofs.YtblnonlcjfcblaaGreatDoor
