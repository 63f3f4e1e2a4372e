/- 'FnExactCommands': for every argument the law returns true, and each argument reads behind the call as it read before; the tables that the row lists are as the program's text lays them, and the card ties them to that text. -/
import Derived.Test.YteidjnmfjkpolaaDoorCards
import Derived.Test.YteidjnmfjkpolaaDoorTie
import Derived.Test.YteidjnmfjkpolaaDoorLawCmds
import Derived.WalkKit
import Derived.ProofKit
import Derived.OpenShut
import Derived.Carry
import Derived.Deep.DeepHandedRow
import Derived.Lib.LaidTab
import Derived.Stop.LaidErr
namespace Go.Proofs.YteidjnmfjkpolaaDoor
open Go.ChangeShapes Go.WideShapes Go.ChangeAt Go.RowKit
open Go.ChangeMaps (open_string shut_string)

theorem fnExactCommands_own : ownKnob Tryd.prog.godebug = none := by kernel_rfl
set_option maxRecDepth 100000 in
theorem fnExactCommands_contract (H : Type) (enc : TypeId × Value → H) (W : World) (base : Nat) (args : Array Value) (ds gs : List (DataW H)) (before : List MemPlace)
    (hval : ∀ (j : Nat) t v, Tryd.f3.params[j]? = some t → args[j]? = some v → Value.okWide Tryd.prog W .any base t v)
    (hW : DataW.Whole enc Tryd.prog Tryd.f3.params.toList Rows.fnExactCommandsSpec.vars false W args.toList ds gs before) (_hL : laidMetH Tryd.prog Rows.fnExactCommandsRow.laid W) :
    Calls Tryd.prog 3 args W fun e W' => ∃ v, e = .returned v ∧ Rows.fnExactCommandsSpec.post enc Tryd.prog Tryd.f3 false true false false W args v W' := by
  have hW' := hW
  obtain ⟨p, q, hA0, hV, rfl, _, _⟩ := hW
  have hA : DataW.TrodAll enc Tryd.prog W 0 (fun _ => true) true Tryd.f3.params.toList args.toList ds p := hA0
  rw [Tryd.params3] at hA hval
  obtain ⟨hargs, rfl, rfl⟩ := trodAll_nil hA
  obtain rfl : args = #[] := by cases args; simp_all
  obtain ⟨rfl, rfl⟩ := trodVars_none hV
  clear hA0
  simp only [List.append_nil] at hW'
  refine (lawCmds  W  ).mono fun e W' ⟨he, bel⟩ => ?_
  subst he
  exact ⟨_, rfl, _, _, _, [], [], [], hW', trodAll_mk1 (shut_bool Tryd.underlying4 _), trodAll_mk0, rfl, bel.frame _, fun h => by cases h⟩

/-- A world for the witness: the settled one, the tables as the text lays them. -/
def fnExactCommands_dat (d : DataW Unit) : Array Value :=
  match d with
  | .agg l => (l.flatMap fun x => match x with | .lit (.int k z) => [Value.int k z] | .agg m => m.map (fun y => match y with | .lit (.int k z) => Value.int k z | _ => undef) | _ => [undef]).toArray
  | _ => #[]
def fnExactCommands_set (w : World) (g : Nat) (cs : Array Value) : World := { w with heap := w.heap.modify g fun | .cells _ t frozen => .cells cs t frozen | o => o }
def fnExactCommands_at (P : Program) (os : Os) (l : List (Nat × Array Value)) : World := l.foldl (fun w x => fnExactCommands_set w x.1 x.2) (World.holding P os ⟨#[], #[], []⟩)
def fnExactCommands_tabs : List (Nat × Array Value) := [(1, fnExactCommands_dat Rows.laid_unicode_utf8_acceptRanges), (0, fnExactCommands_dat Rows.laid_unicode_utf8_first)]
noncomputable def fnExactCommands_world (os : Os) : World := fnExactCommands_at Tryd.prog os fnExactCommands_tabs
theorem fnExactCommands_met (os : Os) : laidMet Tryd.prog Rows.fnExactCommandsRow.laid ((fnExactCommands_world os).forCall (fun _ _ => 0) ⟨#[], #[], []⟩).memory :=
  laidMet_of_run' 8 (by kernel_rfl) (by kernel_rfl)
theorem fnExactCommands_reads (os : Os) {H : Type} (enc : TypeId × Value → H) : DataW.whole enc Tryd.prog ((fnExactCommands_world os).forCall (fun _ _ => 0) ⟨#[], #[], []⟩).memory Tryd.f3.params.toList Rows.fnExactCommandsSpec.vars false #[].toList 8 = some ([], [], []) := by kernel_rfl

set_option maxRecDepth 100000 in
theorem fnExactCommands_lifted (os : Os) (started : os.Started) (H : Type) (enc : TypeId × Value → H) (F : Stop.Interp) :
    ReturnsInHanded {} Tryd.checked os 3 .any ((OpenSpec.ofChange Rows.fnExactCommandsSpec).preRow enc Tryd.prog Tryd.f3 Rows.fnExactCommandsRow.domain false Rows.fnExactCommandsRow.laid) (((OpenSpec.ofChange Rows.fnExactCommandsSpec).at F).post enc Tryd.prog Tryd.f3 false true false false) := by
  have hx := fnExactCommands_reads os enc
  refine returnsInHanded_of_row (C := Tryd.checked) (s := OpenSpec.ofChange Rows.fnExactCommandsSpec) fnExactCommands_own started (by kernel_rfl) Tryd.func3
    (witness_row_at (enc := enc) (C := Tryd.checked) false (fnExactCommands_world os) #[] rfl (by kernel_rfl) (by kernel_rfl) (by kernel_rfl)
      (OpenSpec.preRow_of_cond 8 hx (by kernel_rfl) (fun k hk => by cases hk) (by kernel_rfl) (fnExactCommands_met os))) ?_
  intro W base args ds gs before hval hW _ _ _ hL _ _
  exact fnExactCommands_contract H enc W base args ds gs before hval hW hL

theorem fnExactCommands_said : Rows.FnExactCommandsSaid :=
  OpenClaim.holds_of_cond 3 Tryd.f3 rfl rfl rfl rfl rfl rfl rfl ⟨rfl, rfl, rfl, rfl, rfl⟩ rfl rfl rfl rfl rfl (by kernel_rfl) Tryd.func3 (by kernel_rfl)
    (of_decide_eq_true (by kernel_rfl)) (by unfold Func.isWrapper; first | (rw [if_pos (by decide +kernel)]; kernel_rfl) | (rw [if_neg (by decide +kernel)]; exact ⟨rfl, rfl⟩))
    (fun os started H enc _ F => by rw [OpenClaim.pre_eq_preRow]; exact fnExactCommands_lifted os started H enc F)

theorem fnExactCommands_plain (f : FuncId) (fn : Func) (hf : Tryd.pinned.checked.prog.funcNamed "loop.example/g00124/laws.FnExactCommands" = some f) (hfn : Tryd.pinned.checked.prog.funcs[f]? = some fn) :
    false = Tryd.pinned.checked.prog.looks [] ∧ ∀ (j : Nat) t, fn.params[j]? = some t → Tryd.pinned.checked.prog.wantsStandIn t = false := by
  obtain rfl : f = 3 := Option.some.inj ((show Tryd.prog.funcNamed "loop.example/g00124/laws.FnExactCommands" = some 3 by kernel_rfl).symm.trans hf) |>.symm
  obtain rfl : fn = Tryd.f3 := (Option.some.inj (Tryd.func3.symm.trans hfn)).symm
  refine ⟨by kernel_rfl, fun j t ht => ?_⟩
  rw [Tryd.params3] at ht
  simp at ht

/-- The given statement: the card. -/
theorem fnExactCommands_card : Rows.FnExactCommandsCardSaid :=
  Claim7.holds_tied_plain_at .later [] _ _ _ _ fnExactCommands_said (fun _ h => by cases h) (by kernel_rfl) (fun _ h => by cases h) fnExactCommands_row_tie rfl ⟨rfl, rfl⟩ (by kernel_rfl) rfl fnExactCommands_plain (by kernel_rfl)
#print axioms fnExactCommands_card
end Go.Proofs.YteidjnmfjkpolaaDoor
