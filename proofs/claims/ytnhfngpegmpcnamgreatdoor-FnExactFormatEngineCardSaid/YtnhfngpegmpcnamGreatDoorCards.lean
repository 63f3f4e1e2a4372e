/-
  DERIVED. GIVEN WITH THE SEED: THE CARDS: each row of YtnhfngpegmpcnamGreatDoorRows.lean that lists a variable, with what it lists TIED to the program's text (the seventh form; the later family's looks); each row that meets fmt, with fmt's text TOLD by the authors' own Lean function (tested against real Go, not proved from fmt's source: count such statements apart). THE CARD IS WHAT COUNTS. Prove the row's statement (the work); the ties are given (YtnhfngpegmpcnamGreatDoorTie.lean); close each card by the builder's one call (the guide's Derived/Test/ToyasCard.lean, 'card_holds'). Laid BY PROGRAM, IN A SANDBOX (cutbox-door.mjs). By AI agents, Wed Nov 11 2026. No macro, syntax, notation, axiom, sorry.
-/
import Derived.Test.YtnhfngpegmpcnamGreatDoorRows
import GoSem.ClaimSeven
namespace Go.Proofs.YtnhfngpegmpcnamGreatDoor
namespace Rows

/-- THE TIED CARD OF 'laws.FnExactFormatEngine'. -/
def fnExactFormatEngineCard : Claim7 := { stood := { row := fnExactFormatEngineRow, standIns := [], harness := (true, "2c77eac0af46b1d93e82f3889e39d3def667421d89e9aa24b7836b34d5fe7cc5"), looks := false }, kinds := [], alts := [], laidByText := true, laidKinds := [.data, .data, .data, .data], laidTests := true, laidLooks := .later }
def FnExactFormatEngineCardSaid : Prop := Claim7.holds Tryz.pinned (.plain (OpenSpec.ofChange fnExactFormatEngineSpec)) fnExactFormatEngineCard

/-- THE TIED CARD OF 'laws.FnExactOpenEngine'. -/
def fnExactOpenEngineCard : Claim7 := { stood := { row := fnExactOpenEngineRow, standIns := [], harness := (true, "2c77eac0af46b1d93e82f3889e39d3def667421d89e9aa24b7836b34d5fe7cc5"), looks := false }, kinds := [], alts := [], laidByText := true, laidKinds := [.data, .data, .data, .data], laidTests := true, laidLooks := .later }
def FnExactOpenEngineCardSaid : Prop := Claim7.holds Tryz.pinned (.plain (OpenSpec.ofChange fnExactOpenEngineSpec)) fnExactOpenEngineCard

/-- THE TIED CARD OF 'laws.FnExactEngineOk'. -/
def fnExactEngineOkCard : Claim7 := { stood := { row := fnExactEngineOkRow, standIns := [], harness := (true, "2c77eac0af46b1d93e82f3889e39d3def667421d89e9aa24b7836b34d5fe7cc5"), looks := false }, kinds := [], alts := [], laidByText := true, laidKinds := [.data, .data, .data, .data], laidTests := true, laidLooks := .later }
def FnExactEngineOkCardSaid : Prop := Claim7.holds Tryz.pinned (.plain (OpenSpec.ofChange fnExactEngineOkSpec)) fnExactEngineOkCard

/-- THE TIED CARD OF 'laws.FnExactUsed'. -/
def fnExactUsedCard : Claim7 := { stood := { row := fnExactUsedRow, standIns := [], harness := (true, "2c77eac0af46b1d93e82f3889e39d3def667421d89e9aa24b7836b34d5fe7cc5"), looks := false }, kinds := [], alts := [], laidByText := true, laidKinds := [.data, .data, .data, .data], laidTests := true, laidLooks := .later }
def FnExactUsedCardSaid : Prop := Claim7.holds Tryz.pinned (.plain (OpenSpec.ofChange fnExactUsedSpec)) fnExactUsedCard

/-- THE TIED CARD OF 'laws.FnExactGetValue'. -/
def fnExactGetValueCard : Claim7 := { stood := { row := fnExactGetValueRow, standIns := [], harness := (true, "2c77eac0af46b1d93e82f3889e39d3def667421d89e9aa24b7836b34d5fe7cc5"), looks := false }, kinds := [], alts := [], laidByText := true, laidKinds := [.data, .data, .data, .data], laidTests := true, laidLooks := .later }
def FnExactGetValueCardSaid : Prop := Claim7.holds Tryz.pinned (.plain (OpenSpec.ofChange fnExactGetValueSpec)) fnExactGetValueCard

/-- THE SECOND FORM's CARD OF 'laws.FnExactFormatEngine'. -/
def fnExactFormatEngineUptoCard : Claim7 := { stood := { row := fnExactFormatEngineUptoRow, standIns := [], harness := (true, "2c77eac0af46b1d93e82f3889e39d3def667421d89e9aa24b7836b34d5fe7cc5"), looks := false }, kinds := [], alts := [], laidByText := true, laidKinds := [.data, .data, .data, .data], laidTests := true, laidLooks := .later }
def FnExactFormatEngineUptoCardSaid : Prop := Claim7.holds Tryz.pinned (.plain (OpenSpec.upto fnExactFormatEngineSpec)) fnExactFormatEngineUptoCard

/-- THE SECOND FORM's CARD OF 'laws.FnExactOpenEngine'. -/
def fnExactOpenEngineUptoCard : Claim7 := { stood := { row := fnExactOpenEngineUptoRow, standIns := [], harness := (true, "2c77eac0af46b1d93e82f3889e39d3def667421d89e9aa24b7836b34d5fe7cc5"), looks := false }, kinds := [], alts := [], laidByText := true, laidKinds := [.data, .data, .data, .data], laidTests := true, laidLooks := .later }
def FnExactOpenEngineUptoCardSaid : Prop := Claim7.holds Tryz.pinned (.plain (OpenSpec.upto fnExactOpenEngineSpec)) fnExactOpenEngineUptoCard

/-- THE SECOND FORM's CARD OF 'laws.FnExactEngineOk'. -/
def fnExactEngineOkUptoCard : Claim7 := { stood := { row := fnExactEngineOkUptoRow, standIns := [], harness := (true, "2c77eac0af46b1d93e82f3889e39d3def667421d89e9aa24b7836b34d5fe7cc5"), looks := false }, kinds := [], alts := [], laidByText := true, laidKinds := [.data, .data, .data, .data], laidTests := true, laidLooks := .later }
def FnExactEngineOkUptoCardSaid : Prop := Claim7.holds Tryz.pinned (.plain (OpenSpec.upto fnExactEngineOkSpec)) fnExactEngineOkUptoCard

/-- THE SECOND FORM's CARD OF 'laws.FnExactUsed'. -/
def fnExactUsedUptoCard : Claim7 := { stood := { row := fnExactUsedUptoRow, standIns := [], harness := (true, "2c77eac0af46b1d93e82f3889e39d3def667421d89e9aa24b7836b34d5fe7cc5"), looks := false }, kinds := [], alts := [], laidByText := true, laidKinds := [.data, .data, .data, .data], laidTests := true, laidLooks := .later }
def FnExactUsedUptoCardSaid : Prop := Claim7.holds Tryz.pinned (.plain (OpenSpec.upto fnExactUsedSpec)) fnExactUsedUptoCard

/-- THE SECOND FORM's CARD OF 'laws.FnExactGetValue'. -/
def fnExactGetValueUptoCard : Claim7 := { stood := { row := fnExactGetValueUptoRow, standIns := [], harness := (true, "2c77eac0af46b1d93e82f3889e39d3def667421d89e9aa24b7836b34d5fe7cc5"), looks := false }, kinds := [], alts := [], laidByText := true, laidKinds := [.data, .data, .data, .data], laidTests := true, laidLooks := .later }
def FnExactGetValueUptoCardSaid : Prop := Claim7.holds Tryz.pinned (.plain (OpenSpec.upto fnExactGetValueSpec)) fnExactGetValueUptoCard
end Rows
end Go.Proofs.YtnhfngpegmpcnamGreatDoor
