/-
  DERIVED. GIVEN WITH THE SEED: THE CARDS: each row of YtpibnhodlojajaaDoorRows.lean that lists a variable, with what it lists TIED to the program's text (the seventh form; the later family's looks); each row that meets fmt, with fmt's text TOLD by the authors' own Lean function (tested against real Go, not proved from fmt's source: count such statements apart). THE CARD IS WHAT COUNTS. Prove the row's statement (the work); the ties are given (YtpibnhodlojajaaDoorTie.lean); close each card by the builder's one call (the guide's Derived/Test/ToyasCard.lean, 'card_holds'). Laid BY PROGRAM, IN A SANDBOX (cutbox-door.mjs). By AI agents, Wed Nov 11 2026. No macro, syntax, notation, axiom, sorry.
-/
import Derived.Test.YtpibnhodlojajaaDoorRows
import GoSem.ClaimSeven
namespace Go.Proofs.YtpibnhodlojajaaDoor
namespace Rows

/-- THE TIED CARD OF 'laws.FnExactReadInt'. -/
def fnExactReadIntCard : Claim7 := { stood := { row := fnExactReadIntRow, standIns := [], harness := (true, "533df4747224ac0d0b2e0f74e803abc35e48829d9438a0d6335f6a6eab1d2224"), looks := true }, kinds := [], alts := [], laidByText := true, laidKinds := [.data, .data, .data, .sentinel, .sentinel], laidTests := true, laidLooks := .later }
def FnExactReadIntCardSaid : Prop := Claim7.holds Tryd.pinned (.plain (OpenSpec.ofChange fnExactReadIntSpec)) fnExactReadIntCard

/-- THE TIED CARD OF 'laws.FnArities'. -/
def fnAritiesCard : Claim7 := { stood := { row := fnAritiesRow, standIns := [], harness := (true, "533df4747224ac0d0b2e0f74e803abc35e48829d9438a0d6335f6a6eab1d2224"), looks := true }, kinds := [], alts := [], laidByText := true, laidKinds := [.data, .data, .data, .data, .sentinel, .sentinel, .pinned], laidTests := true, laidLooks := .later }
def FnAritiesCardSaid : Prop := Claim7.holds Tryd.pinned (.plain (OpenSpec.ofChange fnAritiesSpec)) fnAritiesCard

/-- THE SECOND FORM's CARD OF 'laws.FnExactReadInt'. -/
def fnExactReadIntUptoCard : Claim7 := { stood := { row := fnExactReadIntUptoRow, standIns := [], harness := (true, "533df4747224ac0d0b2e0f74e803abc35e48829d9438a0d6335f6a6eab1d2224"), looks := true }, kinds := [], alts := [], laidByText := true, laidKinds := [.data, .data, .data, .sentinel, .sentinel], laidTests := true, laidLooks := .later }
def FnExactReadIntUptoCardSaid : Prop := Claim7.holds Tryd.pinned (.plain (OpenSpec.upto fnExactReadIntSpec)) fnExactReadIntUptoCard

/-- THE SECOND FORM's CARD OF 'laws.FnArities'. -/
def fnAritiesUptoCard : Claim7 := { stood := { row := fnAritiesUptoRow, standIns := [], harness := (true, "533df4747224ac0d0b2e0f74e803abc35e48829d9438a0d6335f6a6eab1d2224"), looks := true }, kinds := [], alts := [], laidByText := true, laidKinds := [.data, .data, .data, .data, .sentinel, .sentinel, .pinned], laidTests := true, laidLooks := .later }
def FnAritiesUptoCardSaid : Prop := Claim7.holds Tryd.pinned (.plain (OpenSpec.upto fnAritiesSpec)) fnAritiesUptoCard
end Rows
end Go.Proofs.YtpibnhodlojajaaDoor
