/-
  DERIVED. GIVEN WITH THE SEED: THE CARDS: each row of YthpolfmbcipjaaaGreatDoorRows.lean that lists a variable, with what it lists TIED to the program's text (the seventh form; the later family's looks); each row that meets fmt, with fmt's text TOLD by the authors' own Lean function (tested against real Go, not proved from fmt's source: count such statements apart). THE CARD IS WHAT COUNTS. Prove the row's statement (the work); the ties are given (YthpolfmbcipjaaaGreatDoorTie.lean); close each card by the builder's one call (the guide's Derived/Test/ToyasCard.lean, 'card_holds'). Laid BY PROGRAM, IN A SANDBOX (cutbox-door.mjs). By AI agents, Wed Nov 11 2026. No macro, syntax, notation, axiom, sorry.
-/
import Derived.Test.YthpolfmbcipjaaaGreatDoorRows
import GoSem.ClaimSeven
namespace Go.Proofs.YthpolfmbcipjaaaGreatDoor
namespace Rows

/-- THE TIED CARD OF 'laws.FnExactContents'. -/
def fnExactContentsCard : Claim7 := { stood := { row := fnExactContentsRow, standIns := [], harness := (true, "64417d9dd6f1e3c9c972307421d65b916bf8f2ae7d3a1cafc7e5d1fc374bdbf0"), looks := false }, kinds := [], alts := [], laidByText := true, laidKinds := [.data, .data, .data, .data], laidTests := true, laidLooks := .later }
def FnExactContentsCardSaid : Prop := Claim7.holds Tryz.pinned (.plain (OpenSpec.ofChange fnExactContentsSpec)) fnExactContentsCard

/-- THE TIED CARD OF 'laws.FnExactMerge'. -/
def fnExactMergeCard : Claim7 := { stood := { row := fnExactMergeRow, standIns := [], harness := (true, "64417d9dd6f1e3c9c972307421d65b916bf8f2ae7d3a1cafc7e5d1fc374bdbf0"), looks := false }, kinds := [], alts := [], laidByText := true, laidKinds := [.data, .data, .data, .data], laidTests := true, laidLooks := .later }
def FnExactMergeCardSaid : Prop := Claim7.holds Tryz.pinned (.plain (OpenSpec.ofChange fnExactMergeSpec)) fnExactMergeCard

/-- THE SECOND FORM's CARD OF 'laws.FnExactContents'. -/
def fnExactContentsUptoCard : Claim7 := { stood := { row := fnExactContentsUptoRow, standIns := [], harness := (true, "64417d9dd6f1e3c9c972307421d65b916bf8f2ae7d3a1cafc7e5d1fc374bdbf0"), looks := false }, kinds := [], alts := [], laidByText := true, laidKinds := [.data, .data, .data, .data], laidTests := true, laidLooks := .later }
def FnExactContentsUptoCardSaid : Prop := Claim7.holds Tryz.pinned (.plain (OpenSpec.upto fnExactContentsSpec)) fnExactContentsUptoCard

/-- THE SECOND FORM's CARD OF 'laws.FnExactMerge'. -/
def fnExactMergeUptoCard : Claim7 := { stood := { row := fnExactMergeUptoRow, standIns := [], harness := (true, "64417d9dd6f1e3c9c972307421d65b916bf8f2ae7d3a1cafc7e5d1fc374bdbf0"), looks := false }, kinds := [], alts := [], laidByText := true, laidKinds := [.data, .data, .data, .data], laidTests := true, laidLooks := .later }
def FnExactMergeUptoCardSaid : Prop := Claim7.holds Tryz.pinned (.plain (OpenSpec.upto fnExactMergeSpec)) fnExactMergeUptoCard
end Rows
end Go.Proofs.YthpolfmbcipjaaaGreatDoor
