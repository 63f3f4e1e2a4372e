/-
  DERIVED. GIVEN WITH THE SEED: THE CARDS: each row of YtjfagmjajpnacamDoorRows.lean that lists a variable, with what it lists TIED to the program's text (the seventh form; the later family's looks); each row that meets fmt, with fmt's text TOLD by the authors' own Lean function (tested against real Go, not proved from fmt's source: count such statements apart). THE CARD IS WHAT COUNTS. Prove the row's statement (the work); the ties are given (YtjfagmjajpnacamDoorTie.lean); close each card by the builder's one call (the guide's Derived/Test/ToyasCard.lean, 'card_holds'). Laid BY PROGRAM, IN A SANDBOX (cutbox-door.mjs). By AI agents, Wed Nov 11 2026. No macro, syntax, notation, axiom, sorry.
-/
import Derived.Test.YtjfagmjajpnacamDoorRows
import GoSem.ClaimSeven
namespace Go.Proofs.YtjfagmjajpnacamDoor
namespace Rows

/-- THE TIED CARD OF 'laws.FnExactReadHint'. -/
def fnExactReadHintCard : Claim7 := { stood := { row := fnExactReadHintRow, standIns := [], harness := (true, "a2d66d66b540d49933c52530ed8f95c74c1e9768ad6de44bb21226e7ab17ed50"), looks := false }, kinds := [], alts := [], laidByText := true, laidKinds := [.data], laidTests := true, laidLooks := .later }
def FnExactReadHintCardSaid : Prop := Claim7.holds Tryd.pinned (.plain (OpenSpec.ofChange fnExactReadHintSpec)) fnExactReadHintCard

/-- THE SECOND FORM's CARD OF 'laws.FnExactReadHint'. -/
def fnExactReadHintUptoCard : Claim7 := { stood := { row := fnExactReadHintUptoRow, standIns := [], harness := (true, "a2d66d66b540d49933c52530ed8f95c74c1e9768ad6de44bb21226e7ab17ed50"), looks := false }, kinds := [], alts := [], laidByText := true, laidKinds := [.data], laidTests := true, laidLooks := .later }
def FnExactReadHintUptoCardSaid : Prop := Claim7.holds Tryd.pinned (.plain (OpenSpec.upto fnExactReadHintSpec)) fnExactReadHintUptoCard
end Rows
end Go.Proofs.YtjfagmjajpnacamDoor
