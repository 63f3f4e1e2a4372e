/- 'FnExactBulk': for every argument the law returns true, and each argument reads behind the call as it read before; the tables that the row lists are as the program's text lays them, and the card ties them to that text. -/
import Derived.Test.YtpdpjkocfkdnnaaDoorCards
import Derived.Test.YtpdpjkocfkdnnaaDoorTie
import Derived.Test.YtpdpjkocfkdnnaaDoorRepS
import Derived.WalkKit
import Derived.ProofKit
import Derived.OpenShut
import Derived.Carry
import Derived.Deep.DeepHandedRow
import Derived.Lib.LaidTab
import Derived.Stop.LaidErr
namespace Go.Proofs.YtpdpjkocfkdnnaaDoor
open Go.ChangeShapes Go.WideShapes Go.ChangeAt Go.RowKit
open Go.ChangeMaps (open_string shut_string)

theorem fnExactBulk_own : ownKnob Tryd.prog.godebug = none := by kernel_rfl
theorem fnExactBulk_gPow : Tryd.prog.globalNamed "internal/strconv.uint64pow10" = some 0 := by kernel_rfl
theorem fnExactBulk_gPowType : (Tryd.prog.globals[0]?).map (·.type) = some 47 := by kernel_rfl
theorem fnExactBulk_powCells : Tryd.prog.cellsOf 47 = 20 := by kernel_rfl
theorem fnExactBulk_powCell : Tryd.prog.cellsOf 40 = 1 := by kernel_rfl
theorem fnExactBulk_powEq : (Rows.laid_internal_strconv_uint64pow10 : DataW Unit) = Lib.tabData .u64 Lib.pow10Tab := by kernel_rfl

/-- What the row's list gives: the table of powers holds its numbers. -/
theorem fnExactBulk_powTab {W : World} (h : laidMetH Tryd.prog Rows.fnExactBulkRow.laid W) : Lib.TabIs Tryd.prog W "internal/strconv.uint64pow10" .u64 Lib.pow10Tab := by
  have h1 : laidMet Tryd.prog ([("internal/strconv.uint64pow10", Rows.laid_internal_strconv_uint64pow10)]) W := laidMet.tail (laidMet.tail h)
  rw [fnExactBulk_powEq] at h1
  exact Lib.tabIs_of_head (rest := []) fnExactBulk_gPow fnExactBulk_gPowType Tryd.underlying47 Tryd.underlying40 fnExactBulk_powCell fnExactBulk_powCells h1

set_option maxRecDepth 100000 in
theorem fnExactBulk_contract (H : Type) (enc : TypeId × Value → H) (W : World) (base : Nat) (args : Array Value) (ds gs : List (DataW H)) (before : List MemPlace)
    (hval : ∀ (j : Nat) t v, Tryd.f4.params[j]? = some t → args[j]? = some v → Value.okWide Tryd.prog W .any base t v)
    (hW : DataW.Whole enc Tryd.prog Tryd.f4.params.toList Rows.fnExactBulkSpec.vars false W args.toList ds gs before) (hL : laidMetH Tryd.prog Rows.fnExactBulkRow.laid W) :
    Calls Tryd.prog 4 args W fun e W' => ∃ v, e = .returned v ∧ Rows.fnExactBulkSpec.post enc Tryd.prog Tryd.f4 false true false false W args v W' := by
  have hW' := hW
  obtain ⟨p, q, hA0, hV, rfl, _, _⟩ := hW
  have hA : DataW.TrodAll enc Tryd.prog W 0 (fun _ => true) true Tryd.f4.params.toList args.toList ds p := hA0
  rw [Tryd.params4] at hA hval
  obtain ⟨v0, vs0, d0, ds0, p0, q0, hargs, rfl, rfl, h0, r0⟩ := trodAll_cons hA
  obtain ⟨rfl, rfl, rfl⟩ := trodAll_nil r0
  obtain rfl : args = #[v0] := by cases args; simp_all
  obtain ⟨a0, rfl, rfl, rfl, w0⟩ := open_string Tryd.underlying9 (hval 0 9 v0 rfl rfl) h0
  obtain ⟨rfl, rfl⟩ := trodVars_none hV
  clear hA0
  simp only [List.append_nil] at hW'
  refine (bulk_walk a0 W w0  (fnExactBulk_powTab hL)).mono fun e W' ⟨he, bel⟩ => ?_
  subst he
  exact ⟨_, rfl, _, _, _, [], [], [], hW', trodAll_mk1 (shut_bool Tryd.underlying4 _), (trodAll_cons_mk (shut_string Tryd.underlying9 w0) trodAll_mk0), rfl, bel.frame _, fun h => by cases h⟩

/-- A world for the witness: the settled one, the tables as the text lays them. -/
def fnExactBulk_dat (d : DataW Unit) : Array Value :=
  match d with
  | .agg l => (l.map fun x => match x with | .lit (.int k z) => Value.int k z | _ => undef).toArray
  | _ => #[]
def fnExactBulk_set (w : World) (g : Nat) (cs : Array Value) : World := { w with heap := w.heap.modify g fun | .cells _ t frozen => .cells cs t frozen | o => o }
def fnExactBulk_at (P : Program) (os : Os) (l : List (Nat × Array Value)) : World := l.foldl (fun w x => fnExactBulk_set w x.1 x.2) (World.holding P os ⟨#[], #[], []⟩)
def fnExactBulk_tabs : List (Nat × Array Value) := [(1, fnExactBulk_dat Rows.laid_math_bits_deBruijn32tab), (2, fnExactBulk_dat Rows.laid_math_bits_deBruijn64tab), (0, fnExactBulk_dat Rows.laid_internal_strconv_uint64pow10)]
noncomputable def fnExactBulk_world (os : Os) : World := fnExactBulk_at Tryd.prog os fnExactBulk_tabs
theorem fnExactBulk_met (os : Os) : laidMet Tryd.prog Rows.fnExactBulkRow.laid ((fnExactBulk_world os).forCall (fun _ _ => 0) ⟨#[], #[.string ⟨#[]⟩], []⟩).memory :=
  laidMet_of_run' 8 (by kernel_rfl) (by kernel_rfl)
theorem fnExactBulk_reads (os : Os) {H : Type} (enc : TypeId × Value → H) : DataW.whole enc Tryd.prog ((fnExactBulk_world os).forCall (fun _ _ => 0) ⟨#[], #[.string ⟨#[]⟩], []⟩).memory Tryd.f4.params.toList Rows.fnExactBulkSpec.vars false #[Value.string ⟨#[]⟩].toList 8 = some ([.lit (.string [])], [], []) := by kernel_rfl

set_option maxRecDepth 100000 in
theorem fnExactBulk_lifted (os : Os) (started : os.Started) (H : Type) (enc : TypeId × Value → H) (F : Stop.Interp) :
    ReturnsInHanded {} Tryd.checked os 4 .any ((OpenSpec.ofChange Rows.fnExactBulkSpec).preRow enc Tryd.prog Tryd.f4 Rows.fnExactBulkRow.domain false Rows.fnExactBulkRow.laid) (((OpenSpec.ofChange Rows.fnExactBulkSpec).at F).post enc Tryd.prog Tryd.f4 false true false false) := by
  have hx := fnExactBulk_reads os enc
  refine returnsInHanded_of_row (C := Tryd.checked) (s := OpenSpec.ofChange Rows.fnExactBulkSpec) fnExactBulk_own started (by kernel_rfl) Tryd.func4
    (witness_row_at (enc := enc) (C := Tryd.checked) false (fnExactBulk_world os) #[.string ⟨#[]⟩] rfl (by kernel_rfl) (by kernel_rfl) (by kernel_rfl)
      (OpenSpec.preRow_of_cond 8 hx (by kernel_rfl) (fun k hk => by cases hk) (by kernel_rfl) (fnExactBulk_met os))) ?_
  intro W base args ds gs before hval hW _ _ _ hL _ _
  exact fnExactBulk_contract H enc W base args ds gs before hval hW hL

theorem fnExactBulk_said : Rows.FnExactBulkSaid :=
  OpenClaim.holds_of_cond 4 Tryd.f4 rfl rfl rfl rfl rfl rfl rfl ⟨rfl, rfl, rfl, rfl, rfl⟩ rfl rfl rfl rfl rfl (by kernel_rfl) Tryd.func4 (by kernel_rfl)
    (of_decide_eq_true (by kernel_rfl)) (by unfold Func.isWrapper; first | (rw [if_pos (by decide +kernel)]; kernel_rfl) | (rw [if_neg (by decide +kernel)]; exact ⟨rfl, rfl⟩))
    (fun os started H enc _ F => by rw [OpenClaim.pre_eq_preRow]; exact fnExactBulk_lifted os started H enc F)

theorem fnExactBulk_plain (f : FuncId) (fn : Func) (hf : Tryd.pinned.checked.prog.funcNamed "loop.example/g00124/laws.FnExactBulk" = some f) (hfn : Tryd.pinned.checked.prog.funcs[f]? = some fn) :
    false = Tryd.pinned.checked.prog.looks [] ∧ ∀ (j : Nat) t, fn.params[j]? = some t → Tryd.pinned.checked.prog.wantsStandIn t = false := by
  obtain rfl : f = 4 := Option.some.inj ((show Tryd.prog.funcNamed "loop.example/g00124/laws.FnExactBulk" = some 4 by kernel_rfl).symm.trans hf) |>.symm
  obtain rfl : fn = Tryd.f4 := (Option.some.inj (Tryd.func4.symm.trans hfn)).symm
  refine ⟨by kernel_rfl, fun j t ht => ?_⟩
  rw [Tryd.params4] at ht
  obtain rfl : t = 9 := by simpa using Array.mem_of_getElem? ht
  exact (show Tryd.prog.wantsStandIn 9 = false by kernel_rfl)

/-- The given statement: the card. -/
theorem fnExactBulk_card : Rows.FnExactBulkCardSaid :=
  Claim7.holds_tied_plain_at .later [] _ _ _ _ fnExactBulk_said (fun _ h => by cases h) (by kernel_rfl) (fun _ h => by cases h) fnExactBulk_row_tie rfl ⟨rfl, rfl⟩ (by kernel_rfl) rfl fnExactBulk_plain (by kernel_rfl)
#print axioms fnExactBulk_card
end Go.Proofs.YtpdpjkocfkdnnaaDoor
