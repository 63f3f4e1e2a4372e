/-
  DERIVED. GIVEN WITH THE SEED: THE CARDS: each row of YtijmlgdeeodehalDoorRows.lean that lists a variable, with what it lists TIED to the program's text (the seventh form; the later family's looks); each row that meets fmt, with fmt's text TOLD by the authors' own Lean function (tested against real Go, not proved from fmt's source: count such statements apart). THE CARD IS WHAT COUNTS. Prove the row's statement (the work); the ties are given (YtijmlgdeeodehalDoorTie.lean); close each card by the builder's one call (the guide's Derived/Test/ToyasCard.lean, 'card_holds'). Laid BY PROGRAM, IN A SANDBOX (cutbox-door.mjs). By AI agents, Wed Nov 11 2026. No macro, syntax, notation, axiom, sorry.
-/
import Derived.Test.YtijmlgdeeodehalDoorRows
import GoSem.ClaimSeven
namespace Go.Proofs.YtijmlgdeeodehalDoor
namespace Rows

/-- THE TIED CARD OF 'laws.FnExactSegments'. -/
def fnExactSegmentsCard : Claim7 := { stood := { row := fnExactSegmentsRow, standIns := [], harness := (true, "2022868bcd9219bbca6f7d707436fab3521b97694f6c79ba622115fd489704a7"), looks := false }, kinds := [], alts := [], laidByText := true, laidKinds := [.data, .data, .data, .data], laidTests := true, laidLooks := .later }
def FnExactSegmentsCardSaid : Prop := Claim7.holds Tryd.pinned (.plain (OpenSpec.ofChange fnExactSegmentsSpec)) fnExactSegmentsCard

/-- THE TIED CARD OF 'laws.FnExactSeqsRise'. -/
def fnExactSeqsRiseCard : Claim7 := { stood := { row := fnExactSeqsRiseRow, standIns := [], harness := (true, "2022868bcd9219bbca6f7d707436fab3521b97694f6c79ba622115fd489704a7"), looks := false }, kinds := [], alts := [], laidByText := true, laidKinds := [.data, .data, .data, .data], laidTests := true, laidLooks := .later }
def FnExactSeqsRiseCardSaid : Prop := Claim7.holds Tryd.pinned (.plain (OpenSpec.ofChange fnExactSeqsRiseSpec)) fnExactSeqsRiseCard

/-- THE TIED CARD OF 'laws.FnExactValueOf'. -/
def fnExactValueOfCard : Claim7 := { stood := { row := fnExactValueOfRow, standIns := [], harness := (true, "2022868bcd9219bbca6f7d707436fab3521b97694f6c79ba622115fd489704a7"), looks := false }, kinds := [], alts := [], laidByText := true, laidKinds := [.data, .data, .data, .data], laidTests := true, laidLooks := .later }
def FnExactValueOfCardSaid : Prop := Claim7.holds Tryd.pinned (.plain (OpenSpec.ofChange fnExactValueOfSpec)) fnExactValueOfCard

/-- THE TIED CARD OF 'laws.FnExactHintText'. -/
def fnExactHintTextCard : Claim7 := { stood := { row := fnExactHintTextRow, standIns := [], harness := (true, "2022868bcd9219bbca6f7d707436fab3521b97694f6c79ba622115fd489704a7"), looks := false }, kinds := [], alts := [], laidByText := true, laidKinds := [.data], laidTests := true, laidLooks := .later }
def FnExactHintTextCardSaid : Prop := Claim7.holds Tryd.pinned (.plain (OpenSpec.ofChange fnExactHintTextSpec)) fnExactHintTextCard

/-- THE SECOND FORM's CARD OF 'laws.FnExactSegments'. -/
def fnExactSegmentsUptoCard : Claim7 := { stood := { row := fnExactSegmentsUptoRow, standIns := [], harness := (true, "2022868bcd9219bbca6f7d707436fab3521b97694f6c79ba622115fd489704a7"), looks := false }, kinds := [], alts := [], laidByText := true, laidKinds := [.data, .data, .data, .data], laidTests := true, laidLooks := .later }
def FnExactSegmentsUptoCardSaid : Prop := Claim7.holds Tryd.pinned (.plain (OpenSpec.upto fnExactSegmentsSpec)) fnExactSegmentsUptoCard

/-- THE SECOND FORM's CARD OF 'laws.FnExactSeqsRise'. -/
def fnExactSeqsRiseUptoCard : Claim7 := { stood := { row := fnExactSeqsRiseUptoRow, standIns := [], harness := (true, "2022868bcd9219bbca6f7d707436fab3521b97694f6c79ba622115fd489704a7"), looks := false }, kinds := [], alts := [], laidByText := true, laidKinds := [.data, .data, .data, .data], laidTests := true, laidLooks := .later }
def FnExactSeqsRiseUptoCardSaid : Prop := Claim7.holds Tryd.pinned (.plain (OpenSpec.upto fnExactSeqsRiseSpec)) fnExactSeqsRiseUptoCard

/-- THE SECOND FORM's CARD OF 'laws.FnExactValueOf'. -/
def fnExactValueOfUptoCard : Claim7 := { stood := { row := fnExactValueOfUptoRow, standIns := [], harness := (true, "2022868bcd9219bbca6f7d707436fab3521b97694f6c79ba622115fd489704a7"), looks := false }, kinds := [], alts := [], laidByText := true, laidKinds := [.data, .data, .data, .data], laidTests := true, laidLooks := .later }
def FnExactValueOfUptoCardSaid : Prop := Claim7.holds Tryd.pinned (.plain (OpenSpec.upto fnExactValueOfSpec)) fnExactValueOfUptoCard

/-- THE SECOND FORM's CARD OF 'laws.FnExactHintText'. -/
def fnExactHintTextUptoCard : Claim7 := { stood := { row := fnExactHintTextUptoRow, standIns := [], harness := (true, "2022868bcd9219bbca6f7d707436fab3521b97694f6c79ba622115fd489704a7"), looks := false }, kinds := [], alts := [], laidByText := true, laidKinds := [.data], laidTests := true, laidLooks := .later }
def FnExactHintTextUptoCardSaid : Prop := Claim7.holds Tryd.pinned (.plain (OpenSpec.upto fnExactHintTextSpec)) fnExactHintTextUptoCard
end Rows
end Go.Proofs.YtijmlgdeeodehalDoor
