/- 'FnExactNil': for every argument the law returns true, and each argument reads behind the call as it read before; the tables that the row lists are as the program's text lays them, and the card ties them to that text. -/
import Derived.Test.YtpdpjkocfkdnnaaDoorCards
import Derived.Test.YtpdpjkocfkdnnaaDoorTie
import Derived.Test.YtpdpjkocfkdnnaaDoorRepS
import Derived.WalkKit
import Derived.ProofKit
import Derived.OpenShut
import Derived.Carry
import Derived.Deep.DeepHandedRow
import Derived.Lib.LaidTab
import Derived.Stop.LaidErr
namespace Go.Proofs.YtpdpjkocfkdnnaaDoor
open Go.ChangeShapes Go.WideShapes Go.ChangeAt Go.RowKit
open Go.ChangeMaps (open_string shut_string)

theorem fnExactNil_own : ownKnob Tryd.prog.godebug = none := by kernel_rfl
theorem fnExactNil_gPow : Tryd.prog.globalNamed "internal/strconv.uint64pow10" = some 0 := by kernel_rfl
theorem fnExactNil_gPowType : (Tryd.prog.globals[0]?).map (·.type) = some 47 := by kernel_rfl
theorem fnExactNil_powCells : Tryd.prog.cellsOf 47 = 20 := by kernel_rfl
theorem fnExactNil_powCell : Tryd.prog.cellsOf 40 = 1 := by kernel_rfl
theorem fnExactNil_powEq : (Rows.laid_internal_strconv_uint64pow10 : DataW Unit) = Lib.tabData .u64 Lib.pow10Tab := by kernel_rfl

/-- What the row's list gives: the table of powers holds its numbers. -/
theorem fnExactNil_powTab {W : World} (h : laidMetH Tryd.prog Rows.fnExactNilRow.laid W) : Lib.TabIs Tryd.prog W "internal/strconv.uint64pow10" .u64 Lib.pow10Tab := by
  have h1 : laidMet Tryd.prog ([("internal/strconv.uint64pow10", Rows.laid_internal_strconv_uint64pow10)]) W := laidMet.tail (laidMet.tail h)
  rw [fnExactNil_powEq] at h1
  exact Lib.tabIs_of_head (rest := []) fnExactNil_gPow fnExactNil_gPowType Tryd.underlying47 Tryd.underlying40 fnExactNil_powCell fnExactNil_powCells h1

set_option maxRecDepth 100000 in
theorem fnExactNil_contract (H : Type) (enc : TypeId × Value → H) (W : World) (base : Nat) (args : Array Value) (ds gs : List (DataW H)) (before : List MemPlace)
    (hval : ∀ (j : Nat) t v, Tryd.f5.params[j]? = some t → args[j]? = some v → Value.okWide Tryd.prog W .any base t v)
    (hW : DataW.Whole enc Tryd.prog Tryd.f5.params.toList Rows.fnExactNilSpec.vars false W args.toList ds gs before) (hL : laidMetH Tryd.prog Rows.fnExactNilRow.laid W) :
    Calls Tryd.prog 5 args W fun e W' => ∃ v, e = .returned v ∧ Rows.fnExactNilSpec.post enc Tryd.prog Tryd.f5 false true false false W args v W' := by
  have hW' := hW
  obtain ⟨p, q, hA0, hV, rfl, _, _⟩ := hW
  have hA : DataW.TrodAll enc Tryd.prog W 0 (fun _ => true) true Tryd.f5.params.toList args.toList ds p := hA0
  rw [Tryd.params5] at hA hval
  obtain ⟨hargs, rfl, rfl⟩ := trodAll_nil hA
  obtain rfl : args = #[] := by cases args; simp_all
  obtain ⟨rfl, rfl⟩ := trodVars_none hV
  clear hA0
  simp only [List.append_nil] at hW'
  refine (nil_walk  W   (fnExactNil_powTab hL)).mono fun e W' ⟨he, bel⟩ => ?_
  subst he
  exact ⟨_, rfl, _, _, _, [], [], [], hW', trodAll_mk1 (shut_bool Tryd.underlying4 _), trodAll_mk0, rfl, bel.frame _, fun h => by cases h⟩

/-- A world for the witness: the settled one, the tables as the text lays them. -/
def fnExactNil_dat (d : DataW Unit) : Array Value :=
  match d with
  | .agg l => (l.map fun x => match x with | .lit (.int k z) => Value.int k z | _ => undef).toArray
  | _ => #[]
def fnExactNil_set (w : World) (g : Nat) (cs : Array Value) : World := { w with heap := w.heap.modify g fun | .cells _ t frozen => .cells cs t frozen | o => o }
def fnExactNil_at (P : Program) (os : Os) (l : List (Nat × Array Value)) : World := l.foldl (fun w x => fnExactNil_set w x.1 x.2) (World.holding P os ⟨#[], #[], []⟩)
def fnExactNil_tabs : List (Nat × Array Value) := [(1, fnExactNil_dat Rows.laid_math_bits_deBruijn32tab), (2, fnExactNil_dat Rows.laid_math_bits_deBruijn64tab), (0, fnExactNil_dat Rows.laid_internal_strconv_uint64pow10)]
noncomputable def fnExactNil_world (os : Os) : World := fnExactNil_at Tryd.prog os fnExactNil_tabs
theorem fnExactNil_met (os : Os) : laidMet Tryd.prog Rows.fnExactNilRow.laid ((fnExactNil_world os).forCall (fun _ _ => 0) ⟨#[], #[], []⟩).memory :=
  laidMet_of_run' 8 (by kernel_rfl) (by kernel_rfl)
theorem fnExactNil_reads (os : Os) {H : Type} (enc : TypeId × Value → H) : DataW.whole enc Tryd.prog ((fnExactNil_world os).forCall (fun _ _ => 0) ⟨#[], #[], []⟩).memory Tryd.f5.params.toList Rows.fnExactNilSpec.vars false #[].toList 8 = some ([], [], []) := by kernel_rfl

set_option maxRecDepth 100000 in
theorem fnExactNil_lifted (os : Os) (started : os.Started) (H : Type) (enc : TypeId × Value → H) (F : Stop.Interp) :
    ReturnsInHanded {} Tryd.checked os 5 .any ((OpenSpec.ofChange Rows.fnExactNilSpec).preRow enc Tryd.prog Tryd.f5 Rows.fnExactNilRow.domain false Rows.fnExactNilRow.laid) (((OpenSpec.ofChange Rows.fnExactNilSpec).at F).post enc Tryd.prog Tryd.f5 false true false false) := by
  have hx := fnExactNil_reads os enc
  refine returnsInHanded_of_row (C := Tryd.checked) (s := OpenSpec.ofChange Rows.fnExactNilSpec) fnExactNil_own started (by kernel_rfl) Tryd.func5
    (witness_row_at (enc := enc) (C := Tryd.checked) false (fnExactNil_world os) #[] rfl (by kernel_rfl) (by kernel_rfl) (by kernel_rfl)
      (OpenSpec.preRow_of_cond 8 hx (by kernel_rfl) (fun k hk => by cases hk) (by kernel_rfl) (fnExactNil_met os))) ?_
  intro W base args ds gs before hval hW _ _ _ hL _ _
  exact fnExactNil_contract H enc W base args ds gs before hval hW hL

theorem fnExactNil_said : Rows.FnExactNilSaid :=
  OpenClaim.holds_of_cond 5 Tryd.f5 rfl rfl rfl rfl rfl rfl rfl ⟨rfl, rfl, rfl, rfl, rfl⟩ rfl rfl rfl rfl rfl (by kernel_rfl) Tryd.func5 (by kernel_rfl)
    (of_decide_eq_true (by kernel_rfl)) (by unfold Func.isWrapper; first | (rw [if_pos (by decide +kernel)]; kernel_rfl) | (rw [if_neg (by decide +kernel)]; exact ⟨rfl, rfl⟩))
    (fun os started H enc _ F => by rw [OpenClaim.pre_eq_preRow]; exact fnExactNil_lifted os started H enc F)

theorem fnExactNil_plain (f : FuncId) (fn : Func) (hf : Tryd.pinned.checked.prog.funcNamed "loop.example/g00124/laws.FnExactNil" = some f) (hfn : Tryd.pinned.checked.prog.funcs[f]? = some fn) :
    false = Tryd.pinned.checked.prog.looks [] ∧ ∀ (j : Nat) t, fn.params[j]? = some t → Tryd.pinned.checked.prog.wantsStandIn t = false := by
  obtain rfl : f = 5 := Option.some.inj ((show Tryd.prog.funcNamed "loop.example/g00124/laws.FnExactNil" = some 5 by kernel_rfl).symm.trans hf) |>.symm
  obtain rfl : fn = Tryd.f5 := (Option.some.inj (Tryd.func5.symm.trans hfn)).symm
  refine ⟨by kernel_rfl, fun j t ht => ?_⟩
  rw [Tryd.params5] at ht
  simp at ht

/-- The given statement: the card. -/
theorem fnExactNil_card : Rows.FnExactNilCardSaid :=
  Claim7.holds_tied_plain_at .later [] _ _ _ _ fnExactNil_said (fun _ h => by cases h) (by kernel_rfl) (fun _ h => by cases h) fnExactNil_row_tie rfl ⟨rfl, rfl⟩ (by kernel_rfl) rfl fnExactNil_plain (by kernel_rfl)
#print axioms fnExactNil_card
end Go.Proofs.YtpdpjkocfkdnnaaDoor
