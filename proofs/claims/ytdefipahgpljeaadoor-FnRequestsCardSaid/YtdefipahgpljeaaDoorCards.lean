/-
  DERIVED. GIVEN WITH THE SEED: THE CARDS: each row of YtdefipahgpljeaaDoorRows.lean that lists a variable, with what it lists TIED to the program's text (the seventh form; the later family's looks); each row that meets fmt, with fmt's text TOLD by the authors' own Lean function (tested against real Go, not proved from fmt's source: count such statements apart). THE CARD IS WHAT COUNTS. Prove the row's statement (the work); the ties are given (YtdefipahgpljeaaDoorTie.lean); close each card by the builder's one call (the guide's Derived/Test/ToyasCard.lean, 'card_holds'). Laid BY PROGRAM, IN A SANDBOX (cutbox-door.mjs). By AI agents, Wed Nov 11 2026. No macro, syntax, notation, axiom, sorry.
-/
import Derived.Test.YtdefipahgpljeaaDoorRows
import GoSem.ClaimSeven
namespace Go.Proofs.YtdefipahgpljeaaDoor
namespace Rows

/-- THE TIED CARD OF 'laws.FnRequests'. -/
def fnRequestsCard : Claim7 := { stood := { row := fnRequestsRow, standIns := [], harness := (true, "a507a29299a340d0847b52112777fa1349e0e65043a0691e9fd0b9209e06b86f"), looks := false }, kinds := [], alts := [], laidByText := true, laidKinds := [.data, .data, .data, .data, .pinned], laidTests := true, laidLooks := .later }
def FnRequestsCardSaid : Prop := Claim7.holds Tryd.pinned (.plain (OpenSpec.ofChange fnRequestsSpec)) fnRequestsCard

/-- THE TIED CARD OF 'laws.FnParses'. -/
def fnParsesCard : Claim7 := { stood := { row := fnParsesRow, standIns := [], harness := (true, "a507a29299a340d0847b52112777fa1349e0e65043a0691e9fd0b9209e06b86f"), looks := false }, kinds := [], alts := [], laidByText := true, laidKinds := [.data, .pinned], laidTests := true, laidLooks := .later }
def FnParsesCardSaid : Prop := Claim7.holds Tryd.pinned (.plain (OpenSpec.ofChange fnParsesSpec)) fnParsesCard

/-- THE SECOND FORM's CARD OF 'laws.FnRequests'. -/
def fnRequestsUptoCard : Claim7 := { stood := { row := fnRequestsUptoRow, standIns := [], harness := (true, "a507a29299a340d0847b52112777fa1349e0e65043a0691e9fd0b9209e06b86f"), looks := false }, kinds := [], alts := [], laidByText := true, laidKinds := [.data, .data, .data, .data, .pinned], laidTests := true, laidLooks := .later }
def FnRequestsUptoCardSaid : Prop := Claim7.holds Tryd.pinned (.plain (OpenSpec.upto fnRequestsSpec)) fnRequestsUptoCard

/-- THE SECOND FORM's CARD OF 'laws.FnParses'. -/
def fnParsesUptoCard : Claim7 := { stood := { row := fnParsesUptoRow, standIns := [], harness := (true, "a507a29299a340d0847b52112777fa1349e0e65043a0691e9fd0b9209e06b86f"), looks := false }, kinds := [], alts := [], laidByText := true, laidKinds := [.data, .pinned], laidTests := true, laidLooks := .later }
def FnParsesUptoCardSaid : Prop := Claim7.holds Tryd.pinned (.plain (OpenSpec.upto fnParsesSpec)) fnParsesUptoCard
end Rows
end Go.Proofs.YtdefipahgpljeaaDoor
