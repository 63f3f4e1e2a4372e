/-
  DERIVED. GIVEN WITH THE SEED: THE CARDS: each row of YtijmlgdeeodehalGreatDoorRows.lean that lists a variable, with what it lists TIED to the program's text (the seventh form; the later family's looks); each row that meets fmt, with fmt's text TOLD by the authors' own Lean function (tested against real Go, not proved from fmt's source: count such statements apart). THE CARD IS WHAT COUNTS. Prove the row's statement (the work); the ties are given (YtijmlgdeeodehalGreatDoorTie.lean); close each card by the builder's one call (the guide's Derived/Test/ToyasCard.lean, 'card_holds'). Laid BY PROGRAM, IN A SANDBOX (cutbox-door.mjs). By AI agents, Wed Nov 11 2026. No macro, syntax, notation, axiom, sorry.
-/
import Derived.Test.YtijmlgdeeodehalGreatDoorRows
import GoSem.ClaimSeven
namespace Go.Proofs.YtijmlgdeeodehalGreatDoor
namespace Rows

/-- THE TIED CARD OF 'laws.FnExactDirOf'. -/
def fnExactDirOfCard : Claim7 := { stood := { row := fnExactDirOfRow, standIns := [], harness := (true, "52400c56ecc3852e8f3f4ccefedbbd619aab391bf2db9ea4a23c89a7374e640c"), looks := false }, kinds := [], alts := [], laidByText := true, laidKinds := [.data, .data, .data, .data], laidTests := true, laidLooks := .later }
def FnExactDirOfCardSaid : Prop := Claim7.holds Tryz.pinned (.plain (OpenSpec.ofChange fnExactDirOfSpec)) fnExactDirOfCard

/-- THE SECOND FORM's CARD OF 'laws.FnExactDirOf'. -/
def fnExactDirOfUptoCard : Claim7 := { stood := { row := fnExactDirOfUptoRow, standIns := [], harness := (true, "52400c56ecc3852e8f3f4ccefedbbd619aab391bf2db9ea4a23c89a7374e640c"), looks := false }, kinds := [], alts := [], laidByText := true, laidKinds := [.data, .data, .data, .data], laidTests := true, laidLooks := .later }
def FnExactDirOfUptoCardSaid : Prop := Claim7.holds Tryz.pinned (.plain (OpenSpec.upto fnExactDirOfSpec)) fnExactDirOfUptoCard
end Rows
end Go.Proofs.YtijmlgdeeodehalGreatDoor
