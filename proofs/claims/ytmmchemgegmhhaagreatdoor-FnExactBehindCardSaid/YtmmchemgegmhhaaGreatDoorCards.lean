/-
  DERIVED. GIVEN WITH THE SEED: THE CARDS: each row of YtmmchemgegmhhaaGreatDoorRows.lean that lists a variable, with what it lists TIED to the program's text (the seventh form; the later family's looks); each row that meets fmt, with fmt's text TOLD by the authors' own Lean function (tested against real Go, not proved from fmt's source: count such statements apart). THE CARD IS WHAT COUNTS. Prove the row's statement (the work); the ties are given (YtmmchemgegmhhaaGreatDoorTie.lean); close each card by the builder's one call (the guide's Derived/Test/ToyasCard.lean, 'card_holds'). Laid BY PROGRAM, IN A SANDBOX (cutbox-door.mjs). By AI agents, Wed Nov 11 2026. No macro, syntax, notation, axiom, sorry.
-/
import Derived.Test.YtmmchemgegmhhaaGreatDoorRows
import GoSem.ClaimSeven
namespace Go.Proofs.YtmmchemgegmhhaaGreatDoor
namespace Rows

/-- THE TIED CARD OF 'laws.FnFormats'. -/
def fnFormatsCard : Claim7 := { stood := { row := fnFormatsRow, standIns := [], harness := (true, "3378fb15b2437d947f85429f9985018b5250912e7e23ed1103c043393194a51d"), looks := false }, kinds := [], alts := [], laidByText := true, laidKinds := [.data, .data, .data, .data], laidTests := true, laidLooks := .later }
def FnFormatsCardSaid : Prop := Claim7.holds Tryz.pinned (.plain (OpenSpec.ofChange fnFormatsSpec)) fnFormatsCard

/-- THE TIED CARD OF 'laws.FnExactGetValue'. -/
def fnExactGetValueCard : Claim7 := { stood := { row := fnExactGetValueRow, standIns := [], harness := (true, "3378fb15b2437d947f85429f9985018b5250912e7e23ed1103c043393194a51d"), looks := false }, kinds := [], alts := [], laidByText := true, laidKinds := [.data, .data, .data, .data], laidTests := true, laidLooks := .later }
def FnExactGetValueCardSaid : Prop := Claim7.holds Tryz.pinned (.plain (OpenSpec.ofChange fnExactGetValueSpec)) fnExactGetValueCard

/-- THE TIED CARD OF 'laws.FnExactLiveBytes'. -/
def fnExactLiveBytesCard : Claim7 := { stood := { row := fnExactLiveBytesRow, standIns := [], harness := (true, "3378fb15b2437d947f85429f9985018b5250912e7e23ed1103c043393194a51d"), looks := false }, kinds := [], alts := [], laidByText := true, laidKinds := [.data, .data, .data, .data], laidTests := true, laidLooks := .later }
def FnExactLiveBytesCardSaid : Prop := Claim7.holds Tryz.pinned (.plain (OpenSpec.ofChange fnExactLiveBytesSpec)) fnExactLiveBytesCard

/-- THE TIED CARD OF 'laws.FnExactMergeActs'. -/
def fnExactMergeActsCard : Claim7 := { stood := { row := fnExactMergeActsRow, standIns := [], harness := (true, "3378fb15b2437d947f85429f9985018b5250912e7e23ed1103c043393194a51d"), looks := false }, kinds := [], alts := [], laidByText := true, laidKinds := [.data, .data, .data, .data], laidTests := true, laidLooks := .later }
def FnExactMergeActsCardSaid : Prop := Claim7.holds Tryz.pinned (.plain (OpenSpec.ofChange fnExactMergeActsSpec)) fnExactMergeActsCard

/-- THE TIED CARD OF 'laws.FnExactBehind'. -/
def fnExactBehindCard : Claim7 := { stood := { row := fnExactBehindRow, standIns := [], harness := (true, "3378fb15b2437d947f85429f9985018b5250912e7e23ed1103c043393194a51d"), looks := false }, kinds := [], alts := [], laidByText := true, laidKinds := [.data, .data, .data, .data], laidTests := true, laidLooks := .later }
def FnExactBehindCardSaid : Prop := Claim7.holds Tryz.pinned (.plain (OpenSpec.ofChange fnExactBehindSpec)) fnExactBehindCard

/-- THE SECOND FORM's CARD OF 'laws.FnFormats'. -/
def fnFormatsUptoCard : Claim7 := { stood := { row := fnFormatsUptoRow, standIns := [], harness := (true, "3378fb15b2437d947f85429f9985018b5250912e7e23ed1103c043393194a51d"), looks := false }, kinds := [], alts := [], laidByText := true, laidKinds := [.data, .data, .data, .data], laidTests := true, laidLooks := .later }
def FnFormatsUptoCardSaid : Prop := Claim7.holds Tryz.pinned (.plain (OpenSpec.upto fnFormatsSpec)) fnFormatsUptoCard

/-- THE SECOND FORM's CARD OF 'laws.FnExactGetValue'. -/
def fnExactGetValueUptoCard : Claim7 := { stood := { row := fnExactGetValueUptoRow, standIns := [], harness := (true, "3378fb15b2437d947f85429f9985018b5250912e7e23ed1103c043393194a51d"), looks := false }, kinds := [], alts := [], laidByText := true, laidKinds := [.data, .data, .data, .data], laidTests := true, laidLooks := .later }
def FnExactGetValueUptoCardSaid : Prop := Claim7.holds Tryz.pinned (.plain (OpenSpec.upto fnExactGetValueSpec)) fnExactGetValueUptoCard

/-- THE SECOND FORM's CARD OF 'laws.FnExactLiveBytes'. -/
def fnExactLiveBytesUptoCard : Claim7 := { stood := { row := fnExactLiveBytesUptoRow, standIns := [], harness := (true, "3378fb15b2437d947f85429f9985018b5250912e7e23ed1103c043393194a51d"), looks := false }, kinds := [], alts := [], laidByText := true, laidKinds := [.data, .data, .data, .data], laidTests := true, laidLooks := .later }
def FnExactLiveBytesUptoCardSaid : Prop := Claim7.holds Tryz.pinned (.plain (OpenSpec.upto fnExactLiveBytesSpec)) fnExactLiveBytesUptoCard

/-- THE SECOND FORM's CARD OF 'laws.FnExactMergeActs'. -/
def fnExactMergeActsUptoCard : Claim7 := { stood := { row := fnExactMergeActsUptoRow, standIns := [], harness := (true, "3378fb15b2437d947f85429f9985018b5250912e7e23ed1103c043393194a51d"), looks := false }, kinds := [], alts := [], laidByText := true, laidKinds := [.data, .data, .data, .data], laidTests := true, laidLooks := .later }
def FnExactMergeActsUptoCardSaid : Prop := Claim7.holds Tryz.pinned (.plain (OpenSpec.upto fnExactMergeActsSpec)) fnExactMergeActsUptoCard

/-- THE SECOND FORM's CARD OF 'laws.FnExactBehind'. -/
def fnExactBehindUptoCard : Claim7 := { stood := { row := fnExactBehindUptoRow, standIns := [], harness := (true, "3378fb15b2437d947f85429f9985018b5250912e7e23ed1103c043393194a51d"), looks := false }, kinds := [], alts := [], laidByText := true, laidKinds := [.data, .data, .data, .data], laidTests := true, laidLooks := .later }
def FnExactBehindUptoCardSaid : Prop := Claim7.holds Tryz.pinned (.plain (OpenSpec.upto fnExactBehindSpec)) fnExactBehindUptoCard
end Rows
end Go.Proofs.YtmmchemgegmhhaaGreatDoor
