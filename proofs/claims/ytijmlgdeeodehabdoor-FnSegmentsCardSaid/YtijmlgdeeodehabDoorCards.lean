/-
  DERIVED. GIVEN WITH THE SEED: THE CARDS: each row of YtijmlgdeeodehabDoorRows.lean that lists a variable, with what it lists TIED to the program's text (the seventh form; the later family's looks); each row that meets fmt, with fmt's text TOLD by the authors' own Lean function (tested against real Go, not proved from fmt's source: count such statements apart). THE CARD IS WHAT COUNTS. Prove the row's statement (the work); the ties are given (YtijmlgdeeodehabDoorTie.lean); close each card by the builder's one call (the guide's Derived/Test/ToyasCard.lean, 'card_holds'). Laid BY PROGRAM, IN A SANDBOX (cutbox-door.mjs). By AI agents, Wed Nov 11 2026. No macro, syntax, notation, axiom, sorry.
-/
import Derived.Test.YtijmlgdeeodehabDoorRows
import GoSem.ClaimSeven
namespace Go.Proofs.YtijmlgdeeodehabDoor
namespace Rows

/-- THE TIED CARD OF 'laws.FnSegments'. -/
def fnSegmentsCard : Claim7 := { stood := { row := fnSegmentsRow, standIns := [], harness := (true, "924fd2dc4d30652f84d9e06ff713a49fcb576ae3d146637ba8cf2bb1ba7e991c"), looks := false }, kinds := [], alts := [], laidByText := true, laidKinds := [.data, .data, .data, .data], laidTests := true, laidLooks := .later }
def FnSegmentsCardSaid : Prop := Claim7.holds Tryd.pinned (.plain (OpenSpec.ofChange fnSegmentsSpec)) fnSegmentsCard

/-- THE TIED CARD OF 'laws.FnHints'. -/
def fnHintsCard : Claim7 := { stood := { row := fnHintsRow, standIns := [], harness := (true, "924fd2dc4d30652f84d9e06ff713a49fcb576ae3d146637ba8cf2bb1ba7e991c"), looks := false }, kinds := [], alts := [], laidByText := true, laidKinds := [.data], laidTests := true, laidLooks := .later }
def FnHintsCardSaid : Prop := Claim7.holds Tryd.pinned (.plain (OpenSpec.ofChange fnHintsSpec)) fnHintsCard

/-- THE SECOND FORM's CARD OF 'laws.FnSegments'. -/
def fnSegmentsUptoCard : Claim7 := { stood := { row := fnSegmentsUptoRow, standIns := [], harness := (true, "924fd2dc4d30652f84d9e06ff713a49fcb576ae3d146637ba8cf2bb1ba7e991c"), looks := false }, kinds := [], alts := [], laidByText := true, laidKinds := [.data, .data, .data, .data], laidTests := true, laidLooks := .later }
def FnSegmentsUptoCardSaid : Prop := Claim7.holds Tryd.pinned (.plain (OpenSpec.upto fnSegmentsSpec)) fnSegmentsUptoCard

/-- THE SECOND FORM's CARD OF 'laws.FnHints'. -/
def fnHintsUptoCard : Claim7 := { stood := { row := fnHintsUptoRow, standIns := [], harness := (true, "924fd2dc4d30652f84d9e06ff713a49fcb576ae3d146637ba8cf2bb1ba7e991c"), looks := false }, kinds := [], alts := [], laidByText := true, laidKinds := [.data], laidTests := true, laidLooks := .later }
def FnHintsUptoCardSaid : Prop := Claim7.holds Tryd.pinned (.plain (OpenSpec.upto fnHintsSpec)) fnHintsUptoCard
end Rows
end Go.Proofs.YtijmlgdeeodehabDoor
