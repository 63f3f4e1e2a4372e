/-
  DERIVED. GIVEN WITH THE SEED: THE CARDS: each row of YtkfbofgkeneelaaGreatDoorRows.lean that lists a variable, with what it lists TIED to the program's text (the seventh form; the later family's looks); each row that meets fmt, with fmt's text TOLD by the authors' own Lean function (tested against real Go, not proved from fmt's source: count such statements apart). THE CARD IS WHAT COUNTS. Prove the row's statement (the work); the ties are given (YtkfbofgkeneelaaGreatDoorTie.lean); close each card by the builder's one call (the guide's Derived/Test/ToyasCard.lean, 'card_holds'). Laid BY PROGRAM, IN A SANDBOX (cutbox-door.mjs). By AI agents, Wed Nov 11 2026. No macro, syntax, notation, axiom, sorry.
-/
import Derived.Test.YtkfbofgkeneelaaGreatDoorRows
import GoSem.ClaimSeven
namespace Go.Proofs.YtkfbofgkeneelaaGreatDoor
namespace Rows

/-- THE TIED CARD OF 'laws.FnDirs'. -/
def fnDirsCard : Claim7 := { stood := { row := fnDirsRow, standIns := [], harness := (true, "5659f43fe0941a9d1fb4fc798a7bf8b7b299ad4be5deee4f9ee9f1c7421c6aef"), looks := true }, kinds := [], alts := [], laidByText := true, laidKinds := [.data, .data, .data, .data], laidTests := true, laidLooks := .later }
def FnDirsCardSaid : Prop := Claim7.holds Tryz.pinned (.plain (OpenSpec.ofChange fnDirsSpec)) fnDirsCard

/-- THE TIED CARD OF 'laws.FnPuts'. -/
def fnPutsCard : Claim7 := { stood := { row := fnPutsRow, standIns := [], harness := (true, "5659f43fe0941a9d1fb4fc798a7bf8b7b299ad4be5deee4f9ee9f1c7421c6aef"), looks := true }, kinds := [], alts := [], laidByText := true, laidKinds := [.data, .data, .data, .handle, .data], laidTests := true, laidLooks := .later }
def FnPutsCardSaid : Prop := Claim7.holds Tryz.pinned (.plain (OpenSpec.ofChange fnPutsSpec)) fnPutsCard

/-- THE TIED CARD OF 'laws.FnMerges'. -/
def fnMergesCard : Claim7 := { stood := { row := fnMergesRow, standIns := [], harness := (true, "5659f43fe0941a9d1fb4fc798a7bf8b7b299ad4be5deee4f9ee9f1c7421c6aef"), looks := true }, kinds := [], alts := [], laidByText := true, laidKinds := [.data, .data, .data, .handle, .data], laidTests := true, laidLooks := .later }
def FnMergesCardSaid : Prop := Claim7.holds Tryz.pinned (.plain (OpenSpec.ofChange fnMergesSpec)) fnMergesCard

/-- THE TIED CARD OF 'laws.FnExactMerge'. -/
def fnExactMergeCard : Claim7 := { stood := { row := fnExactMergeRow, standIns := [], harness := (true, "5659f43fe0941a9d1fb4fc798a7bf8b7b299ad4be5deee4f9ee9f1c7421c6aef"), looks := true }, kinds := [], alts := [], laidByText := true, laidKinds := [.data, .data, .data, .data], laidTests := true, laidLooks := .later }
def FnExactMergeCardSaid : Prop := Claim7.holds Tryz.pinned (.plain (OpenSpec.ofChange fnExactMergeSpec)) fnExactMergeCard

/-- THE TIED CARD OF 'laws.FnExactBehind'. -/
def fnExactBehindCard : Claim7 := { stood := { row := fnExactBehindRow, standIns := [], harness := (true, "5659f43fe0941a9d1fb4fc798a7bf8b7b299ad4be5deee4f9ee9f1c7421c6aef"), looks := true }, kinds := [], alts := [], laidByText := true, laidKinds := [.data, .data, .data, .data], laidTests := true, laidLooks := .later }
def FnExactBehindCardSaid : Prop := Claim7.holds Tryz.pinned (.plain (OpenSpec.ofChange fnExactBehindSpec)) fnExactBehindCard

/-- THE SECOND FORM's CARD OF 'laws.FnDirs'. -/
def fnDirsUptoCard : Claim7 := { stood := { row := fnDirsUptoRow, standIns := [], harness := (true, "5659f43fe0941a9d1fb4fc798a7bf8b7b299ad4be5deee4f9ee9f1c7421c6aef"), looks := true }, kinds := [], alts := [], laidByText := true, laidKinds := [.data, .data, .data, .data], laidTests := true, laidLooks := .later }
def FnDirsUptoCardSaid : Prop := Claim7.holds Tryz.pinned (.plain (OpenSpec.upto fnDirsSpec)) fnDirsUptoCard

/-- THE SECOND FORM's CARD OF 'laws.FnPuts'. -/
def fnPutsUptoCard : Claim7 := { stood := { row := fnPutsUptoRow, standIns := [], harness := (true, "5659f43fe0941a9d1fb4fc798a7bf8b7b299ad4be5deee4f9ee9f1c7421c6aef"), looks := true }, kinds := [], alts := [], laidByText := true, laidKinds := [.data, .data, .data, .handle, .data], laidTests := true, laidLooks := .later }
def FnPutsUptoCardSaid : Prop := Claim7.holds Tryz.pinned (.plain (OpenSpec.upto fnPutsSpec)) fnPutsUptoCard

/-- THE SECOND FORM's CARD OF 'laws.FnMerges'. -/
def fnMergesUptoCard : Claim7 := { stood := { row := fnMergesUptoRow, standIns := [], harness := (true, "5659f43fe0941a9d1fb4fc798a7bf8b7b299ad4be5deee4f9ee9f1c7421c6aef"), looks := true }, kinds := [], alts := [], laidByText := true, laidKinds := [.data, .data, .data, .handle, .data], laidTests := true, laidLooks := .later }
def FnMergesUptoCardSaid : Prop := Claim7.holds Tryz.pinned (.plain (OpenSpec.upto fnMergesSpec)) fnMergesUptoCard

/-- THE SECOND FORM's CARD OF 'laws.FnExactMerge'. -/
def fnExactMergeUptoCard : Claim7 := { stood := { row := fnExactMergeUptoRow, standIns := [], harness := (true, "5659f43fe0941a9d1fb4fc798a7bf8b7b299ad4be5deee4f9ee9f1c7421c6aef"), looks := true }, kinds := [], alts := [], laidByText := true, laidKinds := [.data, .data, .data, .data], laidTests := true, laidLooks := .later }
def FnExactMergeUptoCardSaid : Prop := Claim7.holds Tryz.pinned (.plain (OpenSpec.upto fnExactMergeSpec)) fnExactMergeUptoCard

/-- THE SECOND FORM's CARD OF 'laws.FnExactBehind'. -/
def fnExactBehindUptoCard : Claim7 := { stood := { row := fnExactBehindUptoRow, standIns := [], harness := (true, "5659f43fe0941a9d1fb4fc798a7bf8b7b299ad4be5deee4f9ee9f1c7421c6aef"), looks := true }, kinds := [], alts := [], laidByText := true, laidKinds := [.data, .data, .data, .data], laidTests := true, laidLooks := .later }
def FnExactBehindUptoCardSaid : Prop := Claim7.holds Tryz.pinned (.plain (OpenSpec.upto fnExactBehindSpec)) fnExactBehindUptoCard
end Rows
end Go.Proofs.YtkfbofgkeneelaaGreatDoor
