/-
  DERIVED. GIVEN WITH THE SEED: THE CARDS: each row of YtnoalenfeakcpaaDoorRows.lean that lists a variable, with what it lists TIED to the program's text (the seventh form; the later family's looks); each row that meets fmt, with fmt's text TOLD by the authors' own Lean function (tested against real Go, not proved from fmt's source: count such statements apart). THE CARD IS WHAT COUNTS. Prove the row's statement (the work); the ties are given (YtnoalenfeakcpaaDoorTie.lean); close each card by the builder's one call (the guide's Derived/Test/ToyasCard.lean, 'card_holds'). Laid BY PROGRAM, IN A SANDBOX (cutbox-door.mjs). By AI agents, Wed Nov 11 2026. No macro, syntax, notation, axiom, sorry.
-/
import Derived.Test.YtnoalenfeakcpaaDoorRows
import GoSem.ClaimSeven
namespace Go.Proofs.YtnoalenfeakcpaaDoor
namespace Rows

/-- THE TIED CARD OF 'laws.FnExactReplyAt'. -/
def fnExactReplyAtCard : Claim7 := { stood := { row := fnExactReplyAtRow, standIns := [], harness := (true, "ab7c2234d0d208206a383157c8cbe8b9843ad96733e48b412cd4514ac906ced0"), looks := true }, kinds := [], alts := [], laidByText := true, laidKinds := [.data, .data, .data, .sentinel, .sentinel], laidTests := true, laidLooks := .later }
def FnExactReplyAtCardSaid : Prop := Claim7.holds Tryd.pinned (.plain (OpenSpec.ofChange fnExactReplyAtSpec)) fnExactReplyAtCard

/-- THE TIED CARD OF 'laws.FnExactReplies'. -/
def fnExactRepliesCard : Claim7 := { stood := { row := fnExactRepliesRow, standIns := [], harness := (true, "ab7c2234d0d208206a383157c8cbe8b9843ad96733e48b412cd4514ac906ced0"), looks := true }, kinds := [], alts := [], laidByText := true, laidKinds := [.data, .data, .data, .sentinel, .sentinel], laidTests := true, laidLooks := .later }
def FnExactRepliesCardSaid : Prop := Claim7.holds Tryd.pinned (.plain (OpenSpec.ofChange fnExactRepliesSpec)) fnExactRepliesCard

/-- THE TIED CARD OF 'laws.FnReplies'. -/
def fnRepliesCard : Claim7 := { stood := { row := fnRepliesRow, standIns := [], harness := (true, "ab7c2234d0d208206a383157c8cbe8b9843ad96733e48b412cd4514ac906ced0"), looks := true }, kinds := [], alts := [], laidByText := true, laidKinds := [.data, .data, .data, .sentinel, .sentinel], laidTests := true, laidLooks := .later }
def FnRepliesCardSaid : Prop := Claim7.holds Tryd.pinned (.plain (OpenSpec.ofChange fnRepliesSpec)) fnRepliesCard

/-- THE SECOND FORM's CARD OF 'laws.FnExactReplyAt'. -/
def fnExactReplyAtUptoCard : Claim7 := { stood := { row := fnExactReplyAtUptoRow, standIns := [], harness := (true, "ab7c2234d0d208206a383157c8cbe8b9843ad96733e48b412cd4514ac906ced0"), looks := true }, kinds := [], alts := [], laidByText := true, laidKinds := [.data, .data, .data, .sentinel, .sentinel], laidTests := true, laidLooks := .later }
def FnExactReplyAtUptoCardSaid : Prop := Claim7.holds Tryd.pinned (.plain (OpenSpec.upto fnExactReplyAtSpec)) fnExactReplyAtUptoCard

/-- THE SECOND FORM's CARD OF 'laws.FnExactReplies'. -/
def fnExactRepliesUptoCard : Claim7 := { stood := { row := fnExactRepliesUptoRow, standIns := [], harness := (true, "ab7c2234d0d208206a383157c8cbe8b9843ad96733e48b412cd4514ac906ced0"), looks := true }, kinds := [], alts := [], laidByText := true, laidKinds := [.data, .data, .data, .sentinel, .sentinel], laidTests := true, laidLooks := .later }
def FnExactRepliesUptoCardSaid : Prop := Claim7.holds Tryd.pinned (.plain (OpenSpec.upto fnExactRepliesSpec)) fnExactRepliesUptoCard

/-- THE SECOND FORM's CARD OF 'laws.FnReplies'. -/
def fnRepliesUptoCard : Claim7 := { stood := { row := fnRepliesUptoRow, standIns := [], harness := (true, "ab7c2234d0d208206a383157c8cbe8b9843ad96733e48b412cd4514ac906ced0"), looks := true }, kinds := [], alts := [], laidByText := true, laidKinds := [.data, .data, .data, .sentinel, .sentinel], laidTests := true, laidLooks := .later }
def FnRepliesUptoCardSaid : Prop := Claim7.holds Tryd.pinned (.plain (OpenSpec.upto fnRepliesSpec)) fnRepliesUptoCard
end Rows
end Go.Proofs.YtnoalenfeakcpaaDoor
