/-
  DERIVED. GIVEN WITH THE SEED: THE CARDS: each row of YteidjnmfjkpolaaDoorRows.lean that lists a variable, with what it lists TIED to the program's text (the seventh form; the later family's looks); each row that meets fmt, with fmt's text TOLD by the authors' own Lean function (tested against real Go, not proved from fmt's source: count such statements apart). THE CARD IS WHAT COUNTS. Prove the row's statement (the work); the ties are given (YteidjnmfjkpolaaDoorTie.lean); close each card by the builder's one call (the guide's Derived/Test/ToyasCard.lean, 'card_holds'). Laid BY PROGRAM, IN A SANDBOX (cutbox-door.mjs). By AI agents, Wed Nov 11 2026. No macro, syntax, notation, axiom, sorry.
-/
import Derived.Test.YteidjnmfjkpolaaDoorRows
import GoSem.ClaimSeven
namespace Go.Proofs.YteidjnmfjkpolaaDoor
namespace Rows

/-- THE TIED CARD OF 'laws.FnExactCommands'. -/
def fnExactCommandsCard : Claim7 := { stood := { row := fnExactCommandsRow, standIns := [], harness := (true, "d2a063285d1d17929cf8a84fb97899565ca0e1cf2488e161aa60ee042e0fd1d4"), looks := false }, kinds := [], alts := [], laidByText := true, laidKinds := [.data, .pinned], laidTests := true, laidLooks := .later }
def FnExactCommandsCardSaid : Prop := Claim7.holds Tryd.pinned (.plain (OpenSpec.ofChange fnExactCommandsSpec)) fnExactCommandsCard

/-- THE TIED CARD OF 'laws.FnExactArityOk'. -/
def fnExactArityOkCard : Claim7 := { stood := { row := fnExactArityOkRow, standIns := [], harness := (true, "d2a063285d1d17929cf8a84fb97899565ca0e1cf2488e161aa60ee042e0fd1d4"), looks := false }, kinds := [], alts := [], laidByText := true, laidKinds := [.data, .pinned], laidTests := true, laidLooks := .later }
def FnExactArityOkCardSaid : Prop := Claim7.holds Tryd.pinned (.plain (OpenSpec.ofChange fnExactArityOkSpec)) fnExactArityOkCard

/-- THE TIED CARD OF 'laws.FnExactWrites'. -/
def fnExactWritesCard : Claim7 := { stood := { row := fnExactWritesRow, standIns := [], harness := (true, "d2a063285d1d17929cf8a84fb97899565ca0e1cf2488e161aa60ee042e0fd1d4"), looks := false }, kinds := [], alts := [], laidByText := true, laidKinds := [.data, .pinned], laidTests := true, laidLooks := .later }
def FnExactWritesCardSaid : Prop := Claim7.holds Tryd.pinned (.plain (OpenSpec.ofChange fnExactWritesSpec)) fnExactWritesCard

/-- THE TIED CARD OF 'laws.FnExactUnknown'. -/
def fnExactUnknownCard : Claim7 := { stood := { row := fnExactUnknownRow, standIns := [], harness := (true, "d2a063285d1d17929cf8a84fb97899565ca0e1cf2488e161aa60ee042e0fd1d4"), looks := false }, kinds := [], alts := [], laidByText := true, laidKinds := [.data, .pinned], laidTests := true, laidLooks := .later }
def FnExactUnknownCardSaid : Prop := Claim7.holds Tryd.pinned (.plain (OpenSpec.ofChange fnExactUnknownSpec)) fnExactUnknownCard

/-- THE SECOND FORM's CARD OF 'laws.FnExactCommands'. -/
def fnExactCommandsUptoCard : Claim7 := { stood := { row := fnExactCommandsUptoRow, standIns := [], harness := (true, "d2a063285d1d17929cf8a84fb97899565ca0e1cf2488e161aa60ee042e0fd1d4"), looks := false }, kinds := [], alts := [], laidByText := true, laidKinds := [.data, .pinned], laidTests := true, laidLooks := .later }
def FnExactCommandsUptoCardSaid : Prop := Claim7.holds Tryd.pinned (.plain (OpenSpec.upto fnExactCommandsSpec)) fnExactCommandsUptoCard

/-- THE SECOND FORM's CARD OF 'laws.FnExactArityOk'. -/
def fnExactArityOkUptoCard : Claim7 := { stood := { row := fnExactArityOkUptoRow, standIns := [], harness := (true, "d2a063285d1d17929cf8a84fb97899565ca0e1cf2488e161aa60ee042e0fd1d4"), looks := false }, kinds := [], alts := [], laidByText := true, laidKinds := [.data, .pinned], laidTests := true, laidLooks := .later }
def FnExactArityOkUptoCardSaid : Prop := Claim7.holds Tryd.pinned (.plain (OpenSpec.upto fnExactArityOkSpec)) fnExactArityOkUptoCard

/-- THE SECOND FORM's CARD OF 'laws.FnExactWrites'. -/
def fnExactWritesUptoCard : Claim7 := { stood := { row := fnExactWritesUptoRow, standIns := [], harness := (true, "d2a063285d1d17929cf8a84fb97899565ca0e1cf2488e161aa60ee042e0fd1d4"), looks := false }, kinds := [], alts := [], laidByText := true, laidKinds := [.data, .pinned], laidTests := true, laidLooks := .later }
def FnExactWritesUptoCardSaid : Prop := Claim7.holds Tryd.pinned (.plain (OpenSpec.upto fnExactWritesSpec)) fnExactWritesUptoCard

/-- THE SECOND FORM's CARD OF 'laws.FnExactUnknown'. -/
def fnExactUnknownUptoCard : Claim7 := { stood := { row := fnExactUnknownUptoRow, standIns := [], harness := (true, "d2a063285d1d17929cf8a84fb97899565ca0e1cf2488e161aa60ee042e0fd1d4"), looks := false }, kinds := [], alts := [], laidByText := true, laidKinds := [.data, .pinned], laidTests := true, laidLooks := .later }
def FnExactUnknownUptoCardSaid : Prop := Claim7.holds Tryd.pinned (.plain (OpenSpec.upto fnExactUnknownSpec)) fnExactUnknownUptoCard
end Rows
end Go.Proofs.YteidjnmfjkpolaaDoor
