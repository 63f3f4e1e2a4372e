/-
  DERIVED. GIVEN WITH THE SEED: THE CARDS: each row of YtlcfblodflgleaaGreatDoorRows.lean that lists a variable, with what it lists TIED to the program's text (the seventh form; the later family's looks); each row that meets fmt, with fmt's text TOLD by the authors' own Lean function (tested against real Go, not proved from fmt's source: count such statements apart). THE CARD IS WHAT COUNTS. Prove the row's statement (the work); the ties are given (YtlcfblodflgleaaGreatDoorTie.lean); close each card by the builder's one call (the guide's Derived/Test/ToyasCard.lean, 'card_holds'). Laid BY PROGRAM, IN A SANDBOX (cutbox-door.mjs). By AI agents, Wed Nov 11 2026. No macro, syntax, notation, axiom, sorry.
-/
import Derived.Test.YtlcfblodflgleaaGreatDoorRows
import GoSem.ClaimSeven
namespace Go.Proofs.YtlcfblodflgleaaGreatDoor
namespace Rows

/-- THE TIED CARD OF 'laws.FnExactMerge'. -/
def fnExactMergeCard : Claim7 := { stood := { row := fnExactMergeRow, standIns := [], harness := (true, "ac6ee7060e139c89d9e054e4ec922e86a9512ec835f9fc91b18ffd5f9d5317a5"), looks := false }, kinds := [], alts := [], laidByText := true, laidKinds := [.data, .data, .data, .data], laidTests := true, laidLooks := .later }
def FnExactMergeCardSaid : Prop := Claim7.holds Tryz.pinned (.plain (OpenSpec.ofChange fnExactMergeSpec)) fnExactMergeCard

/-- THE TIED CARD OF 'laws.FnExactBehind'. -/
def fnExactBehindCard : Claim7 := { stood := { row := fnExactBehindRow, standIns := [], harness := (true, "ac6ee7060e139c89d9e054e4ec922e86a9512ec835f9fc91b18ffd5f9d5317a5"), looks := false }, kinds := [], alts := [], laidByText := true, laidKinds := [.data, .data, .data, .data], laidTests := true, laidLooks := .later }
def FnExactBehindCardSaid : Prop := Claim7.holds Tryz.pinned (.plain (OpenSpec.ofChange fnExactBehindSpec)) fnExactBehindCard

/-- THE SECOND FORM's CARD OF 'laws.FnExactMerge'. -/
def fnExactMergeUptoCard : Claim7 := { stood := { row := fnExactMergeUptoRow, standIns := [], harness := (true, "ac6ee7060e139c89d9e054e4ec922e86a9512ec835f9fc91b18ffd5f9d5317a5"), looks := false }, kinds := [], alts := [], laidByText := true, laidKinds := [.data, .data, .data, .data], laidTests := true, laidLooks := .later }
def FnExactMergeUptoCardSaid : Prop := Claim7.holds Tryz.pinned (.plain (OpenSpec.upto fnExactMergeSpec)) fnExactMergeUptoCard

/-- THE SECOND FORM's CARD OF 'laws.FnExactBehind'. -/
def fnExactBehindUptoCard : Claim7 := { stood := { row := fnExactBehindUptoRow, standIns := [], harness := (true, "ac6ee7060e139c89d9e054e4ec922e86a9512ec835f9fc91b18ffd5f9d5317a5"), looks := false }, kinds := [], alts := [], laidByText := true, laidKinds := [.data, .data, .data, .data], laidTests := true, laidLooks := .later }
def FnExactBehindUptoCardSaid : Prop := Claim7.holds Tryz.pinned (.plain (OpenSpec.upto fnExactBehindSpec)) fnExactBehindUptoCard
end Rows
end Go.Proofs.YtlcfblodflgleaaGreatDoor
