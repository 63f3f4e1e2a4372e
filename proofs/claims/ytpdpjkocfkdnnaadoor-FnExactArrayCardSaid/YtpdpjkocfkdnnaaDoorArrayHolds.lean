/- 'FnExactArray': for every argument the law returns true, and each argument reads behind the call as it read before; the tables that the row lists are as the program's text lays them, and the card ties them to that text. -/
import Derived.Test.YtpdpjkocfkdnnaaDoorCards
import Derived.Test.YtpdpjkocfkdnnaaDoorTie
import Derived.Test.YtpdpjkocfkdnnaaDoorRepA
import Derived.Test.YtpdpjkocfkdnnaaDoorTxtOf
import Derived.WalkKit
import Derived.ProofKit
import Derived.OpenShut
import Derived.Carry
import Derived.Deep.DeepHandedRow
import Derived.Lib.LaidTab
import Derived.Stop.LaidErr
import Derived.ChangeOld
import Derived.Below
namespace Go.Proofs.YtpdpjkocfkdnnaaDoor
open Go.ChangeShapes Go.WideShapes Go.ChangeAt Go.RowKit
open Go.ChangeMaps (open_string shut_string)

theorem fnExactArray_own : ownKnob Tryd.prog.godebug = none := by kernel_rfl
theorem fnExactArray_gPow : Tryd.prog.globalNamed "internal/strconv.uint64pow10" = some 0 := by kernel_rfl
theorem fnExactArray_gPowType : (Tryd.prog.globals[0]?).map (·.type) = some 47 := by kernel_rfl
theorem fnExactArray_powCells : Tryd.prog.cellsOf 47 = 20 := by kernel_rfl
theorem fnExactArray_powCell : Tryd.prog.cellsOf 40 = 1 := by kernel_rfl
theorem fnExactArray_powEq : (Rows.laid_internal_strconv_uint64pow10 : DataW Unit) = Lib.tabData .u64 Lib.pow10Tab := by kernel_rfl

/-- What the row's list gives: the table of powers holds its numbers. -/
theorem fnExactArray_powTab {W : World} (h : laidMetH Tryd.prog Rows.fnExactArrayRow.laid W) : Lib.TabIs Tryd.prog W "internal/strconv.uint64pow10" .u64 Lib.pow10Tab := by
  have h1 : laidMet Tryd.prog ([("internal/strconv.uint64pow10", Rows.laid_internal_strconv_uint64pow10)]) W := laidMet.tail (laidMet.tail h)
  rw [fnExactArray_powEq] at h1
  exact Lib.tabIs_of_head (rest := []) fnExactArray_gPow fnExactArray_gPowType Tryd.underlying47 Tryd.underlying40 fnExactArray_powCell fnExactArray_powCells h1

theorem fnExactArray_laidOut : laidOutB Tryd.prog = true := by kernel_rfl
set_option maxRecDepth 100000 in
theorem fnExactArray_contract (H : Type) (enc : TypeId × Value → H) (W : World) (base : Nat) (args : Array Value) (ds gs : List (DataW H)) (before : List MemPlace)
    (hval : ∀ (j : Nat) t v, Tryd.f6.params[j]? = some t → args[j]? = some v → Value.okWide Tryd.prog W .any base t v)
    (hW : DataW.Whole enc Tryd.prog Tryd.f6.params.toList Rows.fnExactArraySpec.vars false W args.toList ds gs before) (hL : laidMetH Tryd.prog Rows.fnExactArrayRow.laid W) :
    Calls Tryd.prog 6 args W fun e W' => ∃ v, e = .returned v ∧ Rows.fnExactArraySpec.post enc Tryd.prog Tryd.f6 false true false false W args v W' := by
  have hW' := hW
  obtain ⟨p, q, hA0, hV, rfl, _, _⟩ := hW
  have hA : DataW.TrodAll enc Tryd.prog W 0 (fun _ => true) true Tryd.f6.params.toList args.toList ds p := hA0
  rw [Tryd.params6] at hA hval
  obtain ⟨v0, vs0, d0, ds0, p0, q0, hargs, rfl, rfl, h0, r0⟩ := trodAll_cons hA
  obtain ⟨rfl, rfl, rfl⟩ := trodAll_nil r0
  obtain rfl : args = #[v0] := by cases args; simp_all
  have k0 := h0
  have lt0 : ∀ x ∈ p0, x.block < W.heap.size := by obtain ⟨m, hm⟩ := k0; exact DataW.trod_lt m _ _ _ hm
  obtain ⟨a0, x0, cap0, rfl, l0, f0, z0⟩ := texts_of (hval 0 28 v0 rfl rfl) h0
  obtain ⟨rfl, rfl⟩ := trodVars_none hV
  clear hA0
  simp only [List.append_nil] at hW'
  refine (array_walk x0 a0 cap0 W l0 f0 z0  (fnExactArray_powTab hL)).mono fun e W' ⟨he, bel⟩ => ?_
  subst he
  exact ⟨_, rfl, _, _, _, [], _, [], hW', trodAll_mk1 (shut_bool Tryd.underlying4 _), (trodAll_cons_mk (Below.trod fnExactArray_laidOut (by kernel_rfl) (of_decide_eq_true (by kernel_rfl)) k0 bel lt0) trodAll_mk0), rfl, bel.frame _, fun h => by cases h⟩

/-- A world for the witness: the settled one, the tables as the text lays them. -/
def fnExactArray_dat (d : DataW Unit) : Array Value :=
  match d with
  | .agg l => (l.map fun x => match x with | .lit (.int k z) => Value.int k z | _ => undef).toArray
  | _ => #[]
def fnExactArray_set (w : World) (g : Nat) (cs : Array Value) : World := { w with heap := w.heap.modify g fun | .cells _ t frozen => .cells cs t frozen | o => o }
def fnExactArray_at (P : Program) (os : Os) (l : List (Nat × Array Value)) : World := l.foldl (fun w x => fnExactArray_set w x.1 x.2) (World.holding P os ⟨#[], #[], []⟩)
def fnExactArray_tabs : List (Nat × Array Value) := [(1, fnExactArray_dat Rows.laid_math_bits_deBruijn32tab), (2, fnExactArray_dat Rows.laid_math_bits_deBruijn64tab), (0, fnExactArray_dat Rows.laid_internal_strconv_uint64pow10)]
noncomputable def fnExactArray_world (os : Os) : World := fnExactArray_at Tryd.prog os fnExactArray_tabs
theorem fnExactArray_met (os : Os) : laidMet Tryd.prog Rows.fnExactArrayRow.laid ((fnExactArray_world os).forCall (fun _ _ => 0) ⟨#[], #[.slice none 0 0], []⟩).memory :=
  laidMet_of_run' 8 (by kernel_rfl) (by kernel_rfl)
theorem fnExactArray_reads (os : Os) {H : Type} (enc : TypeId × Value → H) : DataW.whole enc Tryd.prog ((fnExactArray_world os).forCall (fun _ _ => 0) ⟨#[], #[.slice none 0 0], []⟩).memory Tryd.f6.params.toList Rows.fnExactArraySpec.vars false #[Value.slice none 0 0].toList 8 = some ([.nil], [], []) := by kernel_rfl

set_option maxRecDepth 100000 in
theorem fnExactArray_lifted (os : Os) (started : os.Started) (H : Type) (enc : TypeId × Value → H) (F : Stop.Interp) :
    ReturnsInHanded {} Tryd.checked os 6 .any ((OpenSpec.ofChange Rows.fnExactArraySpec).preRow enc Tryd.prog Tryd.f6 Rows.fnExactArrayRow.domain false Rows.fnExactArrayRow.laid) (((OpenSpec.ofChange Rows.fnExactArraySpec).at F).post enc Tryd.prog Tryd.f6 false true false false) := by
  have hx := fnExactArray_reads os enc
  refine returnsInHanded_of_row (C := Tryd.checked) (s := OpenSpec.ofChange Rows.fnExactArraySpec) fnExactArray_own started (by kernel_rfl) Tryd.func6
    (witness_row_at (enc := enc) (C := Tryd.checked) false (fnExactArray_world os) #[.slice none 0 0] rfl (by kernel_rfl) (by kernel_rfl) (by kernel_rfl)
      (OpenSpec.preRow_of_cond 8 hx (by kernel_rfl) (fun k hk => by cases hk) (by kernel_rfl) (fnExactArray_met os))) ?_
  intro W base args ds gs before hval hW _ _ _ hL _ _
  exact fnExactArray_contract H enc W base args ds gs before hval hW hL

theorem fnExactArray_said : Rows.FnExactArraySaid :=
  OpenClaim.holds_of_cond 6 Tryd.f6 rfl rfl rfl rfl rfl rfl rfl ⟨rfl, rfl, rfl, rfl, rfl⟩ rfl rfl rfl rfl rfl (by kernel_rfl) Tryd.func6 (by kernel_rfl)
    (of_decide_eq_true (by kernel_rfl)) (by unfold Func.isWrapper; first | (rw [if_pos (by decide +kernel)]; kernel_rfl) | (rw [if_neg (by decide +kernel)]; exact ⟨rfl, rfl⟩))
    (fun os started H enc _ F => by rw [OpenClaim.pre_eq_preRow]; exact fnExactArray_lifted os started H enc F)

theorem fnExactArray_plain (f : FuncId) (fn : Func) (hf : Tryd.pinned.checked.prog.funcNamed "loop.example/g00124/laws.FnExactArray" = some f) (hfn : Tryd.pinned.checked.prog.funcs[f]? = some fn) :
    false = Tryd.pinned.checked.prog.looks [] ∧ ∀ (j : Nat) t, fn.params[j]? = some t → Tryd.pinned.checked.prog.wantsStandIn t = false := by
  obtain rfl : f = 6 := Option.some.inj ((show Tryd.prog.funcNamed "loop.example/g00124/laws.FnExactArray" = some 6 by kernel_rfl).symm.trans hf) |>.symm
  obtain rfl : fn = Tryd.f6 := (Option.some.inj (Tryd.func6.symm.trans hfn)).symm
  refine ⟨by kernel_rfl, fun j t ht => ?_⟩
  rw [Tryd.params6] at ht
  obtain rfl : t = 28 := by simpa using Array.mem_of_getElem? ht
  exact (show Tryd.prog.wantsStandIn 28 = false by kernel_rfl)

/-- The given statement: the card. -/
theorem fnExactArray_card : Rows.FnExactArrayCardSaid :=
  Claim7.holds_tied_plain_at .later [] _ _ _ _ fnExactArray_said (fun _ h => by cases h) (by kernel_rfl) (fun _ h => by cases h) fnExactArray_row_tie rfl ⟨rfl, rfl⟩ (by kernel_rfl) rfl fnExactArray_plain (by kernel_rfl)
#print axioms fnExactArray_card
end Go.Proofs.YtpdpjkocfkdnnaaDoor
