/-
  DERIVED. GIVEN WITH THE SEED: THE CARDS: each row of YtpdpjkocfkdnnaaDoorRows.lean that lists a variable, with what it lists TIED to the program's text (the seventh form; the later family's looks); each row that meets fmt, with fmt's text TOLD by the authors' own Lean function (tested against real Go, not proved from fmt's source: count such statements apart). THE CARD IS WHAT COUNTS. Prove the row's statement (the work); the ties are given (YtpdpjkocfkdnnaaDoorTie.lean); close each card by the builder's one call (the guide's Derived/Test/ToyasCard.lean, 'card_holds'). Laid BY PROGRAM, IN A SANDBOX (cutbox-door.mjs). By AI agents, Wed Nov 11 2026. No macro, syntax, notation, axiom, sorry.
-/
import Derived.Test.YtpdpjkocfkdnnaaDoorRows
import GoSem.ClaimSeven
namespace Go.Proofs.YtpdpjkocfkdnnaaDoor
namespace Rows

/-- THE TIED CARD OF 'laws.FnExactNumber'. -/
def fnExactNumberCard : Claim7 := { stood := { row := fnExactNumberRow, standIns := [], harness := (true, "ed19d28ca30b0f93ed70df0076ef8c636ede07ed3263c46490d16b9ed7355df7"), looks := false }, kinds := [], alts := [], laidByText := true, laidKinds := [.data, .data, .data], laidTests := true, laidLooks := .later }
def FnExactNumberCardSaid : Prop := Claim7.holds Tryd.pinned (.plain (OpenSpec.ofChange fnExactNumberSpec)) fnExactNumberCard

/-- THE TIED CARD OF 'laws.FnExactBulk'. -/
def fnExactBulkCard : Claim7 := { stood := { row := fnExactBulkRow, standIns := [], harness := (true, "ed19d28ca30b0f93ed70df0076ef8c636ede07ed3263c46490d16b9ed7355df7"), looks := false }, kinds := [], alts := [], laidByText := true, laidKinds := [.data, .data, .data], laidTests := true, laidLooks := .later }
def FnExactBulkCardSaid : Prop := Claim7.holds Tryd.pinned (.plain (OpenSpec.ofChange fnExactBulkSpec)) fnExactBulkCard

/-- THE TIED CARD OF 'laws.FnExactNil'. -/
def fnExactNilCard : Claim7 := { stood := { row := fnExactNilRow, standIns := [], harness := (true, "ed19d28ca30b0f93ed70df0076ef8c636ede07ed3263c46490d16b9ed7355df7"), looks := false }, kinds := [], alts := [], laidByText := true, laidKinds := [.data, .data, .data], laidTests := true, laidLooks := .later }
def FnExactNilCardSaid : Prop := Claim7.holds Tryd.pinned (.plain (OpenSpec.ofChange fnExactNilSpec)) fnExactNilCard

/-- THE TIED CARD OF 'laws.FnExactArray'. -/
def fnExactArrayCard : Claim7 := { stood := { row := fnExactArrayRow, standIns := [], harness := (true, "ed19d28ca30b0f93ed70df0076ef8c636ede07ed3263c46490d16b9ed7355df7"), looks := false }, kinds := [], alts := [], laidByText := true, laidKinds := [.data, .data, .data], laidTests := true, laidLooks := .later }
def FnExactArrayCardSaid : Prop := Claim7.holds Tryd.pinned (.plain (OpenSpec.ofChange fnExactArraySpec)) fnExactArrayCard

/-- THE SECOND FORM's CARD OF 'laws.FnExactNumber'. -/
def fnExactNumberUptoCard : Claim7 := { stood := { row := fnExactNumberUptoRow, standIns := [], harness := (true, "ed19d28ca30b0f93ed70df0076ef8c636ede07ed3263c46490d16b9ed7355df7"), looks := false }, kinds := [], alts := [], laidByText := true, laidKinds := [.data, .data, .data], laidTests := true, laidLooks := .later }
def FnExactNumberUptoCardSaid : Prop := Claim7.holds Tryd.pinned (.plain (OpenSpec.upto fnExactNumberSpec)) fnExactNumberUptoCard

/-- THE SECOND FORM's CARD OF 'laws.FnExactBulk'. -/
def fnExactBulkUptoCard : Claim7 := { stood := { row := fnExactBulkUptoRow, standIns := [], harness := (true, "ed19d28ca30b0f93ed70df0076ef8c636ede07ed3263c46490d16b9ed7355df7"), looks := false }, kinds := [], alts := [], laidByText := true, laidKinds := [.data, .data, .data], laidTests := true, laidLooks := .later }
def FnExactBulkUptoCardSaid : Prop := Claim7.holds Tryd.pinned (.plain (OpenSpec.upto fnExactBulkSpec)) fnExactBulkUptoCard

/-- THE SECOND FORM's CARD OF 'laws.FnExactNil'. -/
def fnExactNilUptoCard : Claim7 := { stood := { row := fnExactNilUptoRow, standIns := [], harness := (true, "ed19d28ca30b0f93ed70df0076ef8c636ede07ed3263c46490d16b9ed7355df7"), looks := false }, kinds := [], alts := [], laidByText := true, laidKinds := [.data, .data, .data], laidTests := true, laidLooks := .later }
def FnExactNilUptoCardSaid : Prop := Claim7.holds Tryd.pinned (.plain (OpenSpec.upto fnExactNilSpec)) fnExactNilUptoCard

/-- THE SECOND FORM's CARD OF 'laws.FnExactArray'. -/
def fnExactArrayUptoCard : Claim7 := { stood := { row := fnExactArrayUptoRow, standIns := [], harness := (true, "ed19d28ca30b0f93ed70df0076ef8c636ede07ed3263c46490d16b9ed7355df7"), looks := false }, kinds := [], alts := [], laidByText := true, laidKinds := [.data, .data, .data], laidTests := true, laidLooks := .later }
def FnExactArrayUptoCardSaid : Prop := Claim7.holds Tryd.pinned (.plain (OpenSpec.upto fnExactArraySpec)) fnExactArrayUptoCard
end Rows
end Go.Proofs.YtpdpjkocfkdnnaaDoor
