/-
  DERIVED. GIVEN WITH THE SEED: THE CARDS: each row of YtomdpkahcbnlnalDoorRows.lean that lists a variable, with what it lists TIED to the program's text (the seventh form; the later family's looks); each row that meets fmt, with fmt's text TOLD by the authors' own Lean function (tested against real Go, not proved from fmt's source: count such statements apart). THE CARD IS WHAT COUNTS. Prove the row's statement (the work); the ties are given (YtomdpkahcbnlnalDoorTie.lean); close each card by the builder's one call (the guide's Derived/Test/ToyasCard.lean, 'card_holds'). Laid BY PROGRAM, IN A SANDBOX (cutbox-door.mjs). By AI agents, Wed Nov 11 2026. No macro, syntax, notation, axiom, sorry.
-/
import Derived.Test.YtomdpkahcbnlnalDoorRows
import GoSem.ClaimSeven
namespace Go.Proofs.YtomdpkahcbnlnalDoor
namespace Rows

/-- THE TIED CARD OF 'laws.FnExactSegments'. -/
def fnExactSegmentsCard : Claim7 := { stood := { row := fnExactSegmentsRow, standIns := [], harness := (true, "18e3907bd2555c8653023b7f60e5ac958159af36c904763165dbe18b4f3de773"), looks := false }, kinds := [], alts := [], laidByText := true, laidKinds := [.data, .data, .data, .data], laidTests := true, laidLooks := .later }
def FnExactSegmentsCardSaid : Prop := Claim7.holds Tryd.pinned (.plain (OpenSpec.ofChange fnExactSegmentsSpec)) fnExactSegmentsCard

/-- THE TIED CARD OF 'laws.FnExactSeqsRise'. -/
def fnExactSeqsRiseCard : Claim7 := { stood := { row := fnExactSeqsRiseRow, standIns := [], harness := (true, "18e3907bd2555c8653023b7f60e5ac958159af36c904763165dbe18b4f3de773"), looks := false }, kinds := [], alts := [], laidByText := true, laidKinds := [.data, .data, .data, .data], laidTests := true, laidLooks := .later }
def FnExactSeqsRiseCardSaid : Prop := Claim7.holds Tryd.pinned (.plain (OpenSpec.ofChange fnExactSeqsRiseSpec)) fnExactSeqsRiseCard

/-- THE SECOND FORM's CARD OF 'laws.FnExactSegments'. -/
def fnExactSegmentsUptoCard : Claim7 := { stood := { row := fnExactSegmentsUptoRow, standIns := [], harness := (true, "18e3907bd2555c8653023b7f60e5ac958159af36c904763165dbe18b4f3de773"), looks := false }, kinds := [], alts := [], laidByText := true, laidKinds := [.data, .data, .data, .data], laidTests := true, laidLooks := .later }
def FnExactSegmentsUptoCardSaid : Prop := Claim7.holds Tryd.pinned (.plain (OpenSpec.upto fnExactSegmentsSpec)) fnExactSegmentsUptoCard

/-- THE SECOND FORM's CARD OF 'laws.FnExactSeqsRise'. -/
def fnExactSeqsRiseUptoCard : Claim7 := { stood := { row := fnExactSeqsRiseUptoRow, standIns := [], harness := (true, "18e3907bd2555c8653023b7f60e5ac958159af36c904763165dbe18b4f3de773"), looks := false }, kinds := [], alts := [], laidByText := true, laidKinds := [.data, .data, .data, .data], laidTests := true, laidLooks := .later }
def FnExactSeqsRiseUptoCardSaid : Prop := Claim7.holds Tryd.pinned (.plain (OpenSpec.upto fnExactSeqsRiseSpec)) fnExactSeqsRiseUptoCard
end Rows
end Go.Proofs.YtomdpkahcbnlnalDoor
