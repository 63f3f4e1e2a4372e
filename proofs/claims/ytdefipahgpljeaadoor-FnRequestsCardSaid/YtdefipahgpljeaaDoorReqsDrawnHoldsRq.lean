import Derived.Test.YtdefipahgpljeaaDoorCards
import Derived.Test.YtdefipahgpljeaaDoorTie
import Derived.WalkKit
import Derived.ProofKit
import Derived.OpenShut
import Derived.Carry
import Derived.Deep.DeepHandedRow
import Derived.Lib.LaidTab
import Derived.Stop.LaidErr
import Derived.ChangeOld
import Derived.Below
import Derived.Test.YtdefipahgpljeaaDoorRq8
import Derived.Test.YtdefipahgpljeaaDoorRq9
set_option maxRecDepth 100000
namespace Go.Proofs.YtdefipahgpljeaaDoor
open Go.ChangeShapes Go.WideShapes Go.ChangeAt Go.RowKit
open Go.ChangeMaps (open_string shut_string)
theorem fnRequests_own : ownKnob Tryd.prog.godebug = none := by kernel_rfl
theorem fnRequests_laidOut : laidOutB Tryd.prog = true := by kernel_rfl
theorem fnRequests_contract (H : Type) (enc : TypeId × Value → H) (W : World) (base : Nat) (args : Array Value) (ds gs : List (DataW H)) (before : List MemPlace)
    (hval : ∀ (j : Nat) t v, Tryd.f3.params[j]? = some t → args[j]? = some v → Value.okWide Tryd.prog W .any base t v)
    (hW : DataW.Whole enc Tryd.prog Tryd.f3.params.toList Rows.fnRequestsSpec.vars false W args.toList ds gs before) (hsh : W.ShapedOpen Tryd.prog) :
    Calls Tryd.prog 3 args W fun e W' => ∃ v, e = .returned v ∧ Rows.fnRequestsSpec.post enc Tryd.prog Tryd.f3 false true false false W args v W' := by
  have hW' := hW
  obtain ⟨p, q, hA0, hV, rfl, _, _⟩ := hW
  have hA : DataW.TrodAll enc Tryd.prog W 0 (fun _ => true) true Tryd.f3.params.toList args.toList ds p := hA0
  rw [Tryd.params3] at hA hval
  obtain ⟨v0, vs0, d0, ds0, p0, q0, hargs, rfl, rfl, h0, r0⟩ := trodAll_cons hA
  obtain ⟨rfl, rfl, rfl⟩ := trodAll_nil r0
  obtain rfl : args = #[v0] := by cases args; simp_all
  obtain ⟨rfl, rfl⟩ := trodVars_none hV
  have k0 := h0
  have lt0 : ∀ x ∈ p0, x.block < W.heap.size := by obtain ⟨m, hm⟩ := k0; exact DataW.trod_lt m _ _ _ hm
  obtain ⟨a0, x0, cap0, rfl, f0⟩ := code_in (hval 0 22 v0 rfl rfl) h0
  obtain ⟨m, hm⟩ := Tryd.laysM146.s1_3 W hsh
  clear hA0
  simp only [List.append_nil] at hW'
  refine (requestsDrawn_walk W a0 x0 cap0 m (maxL_of hm) (fun _ => f0)).mono fun e W' ⟨he, bel⟩ => ?_
  subst he
  exact ⟨_, rfl, _, _, _, [], _, [], hW', trodAll_mk1 (shut_bool Tryd.underlying4 _), (trodAll_cons_mk (Below.trod fnRequests_laidOut (by kernel_rfl) (of_decide_eq_true (by kernel_rfl)) k0 bel lt0) trodAll_mk0), rfl, bel.frame _, fun h => by cases h⟩
def fnRequests_flat (d : DataW Unit) : Array Value :=
  match d with
  | .agg l => (l.flatMap fun x => match x with | .lit (.int k z) => [Value.int k z] | .agg r => r.map (fun y => match y with | .lit (.int k z) => Value.int k z | _ => undef) | _ => []).toArray
  | _ => #[]
def fnRequests_set (w : World) (g : Nat) (cs : Array Value) : World := { w with heap := w.heap.modify g fun | .cells _ t frozen => .cells cs t frozen | o => o }
def fnRequests_world (P : Program) (os : Os) (l : List (Nat × Array Value)) : World := l.foldl (fun w x => fnRequests_set w x.1 x.2) (World.holding P os ⟨#[], #[], []⟩)
def fnRequests_tabs : List (Nat × Array Value) := [(4, fnRequests_flat Rows.laid_math_bits_deBruijn32tab), (5, fnRequests_flat Rows.laid_math_bits_deBruijn64tab), (0, fnRequests_flat Rows.laid_internal_strconv_uint64pow10), (3, fnRequests_flat Rows.laid_unicode_utf8_acceptRanges), (2, fnRequests_flat Rows.laid_unicode_utf8_first)]
theorem fnRequests_met (os : Os) : laidMet Tryd.prog Rows.fnRequestsRow.laid ((fnRequests_world Tryd.prog os fnRequests_tabs).forCall (fun _ _ => 0) ⟨#[], #[.slice none 0 0], []⟩).memory :=
  laidMet_of_run' 8 (by kernel_rfl) (by kernel_rfl)
theorem fnRequests_reads (os : Os) {H : Type} (enc : TypeId × Value → H) : ∃ places, DataW.whole enc Tryd.prog ((fnRequests_world Tryd.prog os fnRequests_tabs).forCall (fun _ _ => 0) ⟨#[], #[.slice none 0 0], []⟩).memory Tryd.f3.params.toList Rows.fnRequestsSpec.vars false #[Value.slice none 0 0].toList 8 = some ([.nil], [], places) :=
  ⟨[], by kernel_rfl⟩
theorem fnRequests_lifted (os : Os) (started : os.Started) (H : Type) (enc : TypeId × Value → H) (F : Stop.Interp) :
    ReturnsInHanded {} Tryd.checked os 3 .any ((OpenSpec.ofChange Rows.fnRequestsSpec).preRow enc Tryd.prog Tryd.f3 Rows.fnRequestsRow.domain false Rows.fnRequestsRow.laid) (((OpenSpec.ofChange Rows.fnRequestsSpec).at F).post enc Tryd.prog Tryd.f3 false true false false) := by
  obtain ⟨places, hx⟩ := fnRequests_reads os enc
  refine returnsInHanded_of_row (C := Tryd.checked) (s := OpenSpec.ofChange Rows.fnRequestsSpec) fnRequests_own started (by kernel_rfl) Tryd.func3
    (witness_row_at (enc := enc) (C := Tryd.checked) false (fnRequests_world Tryd.prog os fnRequests_tabs) #[.slice none 0 0] rfl (by kernel_rfl) (by kernel_rfl) (by kernel_rfl)
      (OpenSpec.preRow_of_cond 8 hx (by kernel_rfl) (fun k hk => by cases hk) (by kernel_rfl) (fnRequests_met os))) ?_
  intro W base args ds gs before hval hW _ _ _ _ hsh _
  exact fnRequests_contract H enc W base args ds gs before hval hW hsh
theorem fnRequests_said : Rows.FnRequestsSaid :=
  OpenClaim.holds_of_cond 3 Tryd.f3 rfl rfl rfl rfl rfl rfl rfl ⟨rfl, rfl, rfl, rfl, rfl⟩ rfl rfl rfl rfl rfl (by kernel_rfl) Tryd.func3 (by kernel_rfl)
    (of_decide_eq_true (by kernel_rfl)) (by unfold Func.isWrapper; first | (rw [if_pos (by decide +kernel)]; kernel_rfl) | (rw [if_neg (by decide +kernel)]; exact ⟨rfl, rfl⟩))
    (fun os started H enc _ F => by rw [OpenClaim.pre_eq_preRow]; exact fnRequests_lifted os started H enc F)
theorem fnRequests_plain (f : FuncId) (fn : Func) (hf : Tryd.pinned.checked.prog.funcNamed "loop.example/g00124/laws.FnRequests" = some f) (hfn : Tryd.pinned.checked.prog.funcs[f]? = some fn) :
    false = Tryd.pinned.checked.prog.looks [] ∧ ∀ (j : Nat) t, fn.params[j]? = some t → Tryd.pinned.checked.prog.wantsStandIn t = false := by
  obtain rfl : f = 3 := Option.some.inj ((show Tryd.prog.funcNamed "loop.example/g00124/laws.FnRequests" = some 3 by kernel_rfl).symm.trans hf) |>.symm
  obtain rfl : fn = Tryd.f3 := (Option.some.inj (Tryd.func3.symm.trans hfn)).symm
  refine ⟨by kernel_rfl, fun j t ht => ?_⟩
  rw [Tryd.params3] at ht
  obtain rfl : t = 22 := by simpa using Array.mem_of_getElem? ht
  exact (show Tryd.prog.wantsStandIn 22 = false by kernel_rfl)
theorem fnRequests_card : Rows.FnRequestsCardSaid :=
  Claim7.holds_tied_plain_at .later [] _ _ _ _ fnRequests_said (fun _ h => by cases h) (by kernel_rfl) (fun _ h => by cases h) fnRequests_row_tie rfl ⟨rfl, rfl⟩ (by kernel_rfl) rfl fnRequests_plain (by kernel_rfl)
end Go.Proofs.YtdefipahgpljeaaDoor
