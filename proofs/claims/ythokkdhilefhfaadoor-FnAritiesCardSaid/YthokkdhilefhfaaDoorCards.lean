/-
  DERIVED. GIVEN WITH THE SEED: THE CARDS: each row of YthokkdhilefhfaaDoorRows.lean that lists a variable, with what it lists TIED to the program's text (the seventh form; the later family's looks); each row that meets fmt, with fmt's text TOLD by the authors' own Lean function (tested against real Go, not proved from fmt's source: count such statements apart). THE CARD IS WHAT COUNTS. Prove the row's statement (the work); the ties are given (YthokkdhilefhfaaDoorTie.lean); close each card by the builder's one call (the guide's Derived/Test/ToyasCard.lean, 'card_holds'). Laid BY PROGRAM, IN A SANDBOX (cutbox-door.mjs). By AI agents, Wed Nov 11 2026. No macro, syntax, notation, axiom, sorry.
-/
import Derived.Test.YthokkdhilefhfaaDoorRows
import GoSem.ClaimSeven
namespace Go.Proofs.YthokkdhilefhfaaDoor
namespace Rows

/-- THE TIED CARD OF 'laws.FnArities'. -/
def fnAritiesCard : Claim7 := { stood := { row := fnAritiesRow, standIns := [], harness := (true, "ca6bef44fbfc940758cafd1538628ab892063666986cb04c2da311d96a925ca3"), looks := true }, kinds := [], alts := [], laidByText := true, laidKinds := [.data, .data, .data, .data, .sentinel, .sentinel, .pinned], laidTests := true, laidLooks := .later }
def FnAritiesCardSaid : Prop := Claim7.holds Tryd.pinned (.plain (OpenSpec.ofChange fnAritiesSpec)) fnAritiesCard

/-- THE TIED CARD OF 'laws.FnExactReadInt'. -/
def fnExactReadIntCard : Claim7 := { stood := { row := fnExactReadIntRow, standIns := [], harness := (true, "ca6bef44fbfc940758cafd1538628ab892063666986cb04c2da311d96a925ca3"), looks := true }, kinds := [], alts := [], laidByText := true, laidKinds := [.data, .data, .data, .sentinel, .sentinel], laidTests := true, laidLooks := .later }
def FnExactReadIntCardSaid : Prop := Claim7.holds Tryd.pinned (.plain (OpenSpec.ofChange fnExactReadIntSpec)) fnExactReadIntCard

/-- THE SECOND FORM's CARD OF 'laws.FnArities'. -/
def fnAritiesUptoCard : Claim7 := { stood := { row := fnAritiesUptoRow, standIns := [], harness := (true, "ca6bef44fbfc940758cafd1538628ab892063666986cb04c2da311d96a925ca3"), looks := true }, kinds := [], alts := [], laidByText := true, laidKinds := [.data, .data, .data, .data, .sentinel, .sentinel, .pinned], laidTests := true, laidLooks := .later }
def FnAritiesUptoCardSaid : Prop := Claim7.holds Tryd.pinned (.plain (OpenSpec.upto fnAritiesSpec)) fnAritiesUptoCard

/-- THE SECOND FORM's CARD OF 'laws.FnExactReadInt'. -/
def fnExactReadIntUptoCard : Claim7 := { stood := { row := fnExactReadIntUptoRow, standIns := [], harness := (true, "ca6bef44fbfc940758cafd1538628ab892063666986cb04c2da311d96a925ca3"), looks := true }, kinds := [], alts := [], laidByText := true, laidKinds := [.data, .data, .data, .sentinel, .sentinel], laidTests := true, laidLooks := .later }
def FnExactReadIntUptoCardSaid : Prop := Claim7.holds Tryd.pinned (.plain (OpenSpec.upto fnExactReadIntSpec)) fnExactReadIntUptoCard
end Rows
end Go.Proofs.YthokkdhilefhfaaDoor
