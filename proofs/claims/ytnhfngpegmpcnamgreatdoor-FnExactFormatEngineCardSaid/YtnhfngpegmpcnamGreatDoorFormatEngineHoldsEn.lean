import Derived.Test.YtnhfngpegmpcnamGreatDoorCards
import Derived.Test.YtnhfngpegmpcnamGreatDoorTie
import Derived.WalkKit
import Derived.ProofKit
import Derived.OpenShut
import Derived.Carry
import Derived.Deep.DeepHandedRow
import Derived.Lib.LaidTab
import Derived.Stop.LaidErr
import Derived.Test.YtnhfngpegmpcnamGreatDoorEn48
set_option maxRecDepth 100000
namespace Go.Proofs.YtnhfngpegmpcnamGreatDoor
open Go.ChangeShapes Go.WideShapes Go.ChangeAt Go.RowKit
open Go.ChangeMaps (open_string shut_string)
theorem fnExactFormatEngine_own : ownKnob Tryz.prog.godebug = none := by kernel_rfl
theorem fnExactFormatEngine_g : Tryz.prog.globalNamed "loop.example/g00124/impl.halfByteSums" = some 0 := by kernel_rfl
theorem fnExactFormatEngine_gt : (Tryz.prog.globals[0]?).map (·.type) = some 236 := by kernel_rfl
theorem fnExactFormatEngine_cells : Tryz.prog.cellsOf 236 = 16 := by kernel_rfl
theorem fnExactFormatEngine_cell : Tryz.prog.cellsOf 154 = 1 := by kernel_rfl
theorem fnExactFormatEngine_tab : (Rows.laid_loop_example_g00124_impl_halfByteSums : DataW Unit) = Lib.tabData .u32 (htab.map Int.ofNat) := by kernel_rfl
theorem fnExactFormatEngine_is {W : World} (h : laidMetH Tryz.prog Rows.fnExactFormatEngineRow.laid W) : Lib.TabIs Tryz.prog W "loop.example/g00124/impl.halfByteSums" .u32 (htab.map Int.ofNat) := by
  have h1 : laidMet Tryz.prog ([("loop.example/g00124/impl.halfByteSums", Rows.laid_loop_example_g00124_impl_halfByteSums)]) W := laidMet.tail (laidMet.tail (laidMet.tail h))
  rw [fnExactFormatEngine_tab] at h1
  exact Lib.tabIs_of_head (rest := []) fnExactFormatEngine_g fnExactFormatEngine_gt Tryz.underlying236 Tryz.underlying154 fnExactFormatEngine_cell fnExactFormatEngine_cells h1
theorem fnExactFormatEngine_sumTab {W : World} (h : Lib.TabIs Tryz.prog W "loop.example/g00124/impl.halfByteSums" .u32 (htab.map Int.ofNat)) : SumTab W := by
  intro r hr
  have e : ∀ r, r < 16 → (htab.map Int.ofNat).getD r 0 = ((htab.getD r 0 : Nat) : Int) := by decide
  rw [← e r hr]
  exact h.cell fnExactFormatEngine_g r (by simpa [htab] using hr)
theorem fnExactFormatEngine_same1 {H : Type} {enc : TypeId × Value → H} {w w' : World} {sp sp' : Nat → Bool} (fuel : Nat) (cs : List Value) : DataW.trod enc Tryz.prog w 0 sp true fuel 154 cs = DataW.trod enc Tryz.prog w' 0 sp' true fuel 154 cs := by
  cases fuel with
  | zero => simp only [DataW.trod]
  | succ fuel =>
    simp only [DataW.trod, Tryz.underlying154]
    rcases cs with _ | ⟨v, _ | ⟨_, _⟩⟩
    · rfl
    · cases v <;> rfl
    · cases v <;> rfl
theorem fnExactFormatEngine_same {H : Type} {enc : TypeId × Value → H} {w w' : World} {sp sp' : Nat → Bool} {fuel : Nat} {cs : List Value} : DataW.trod enc Tryz.prog w 0 sp true fuel 236 cs = DataW.trod enc Tryz.prog w' 0 sp' true fuel 236 cs := by
  cases fuel with
  | zero => simp only [DataW.trod]
  | succ fuel =>
    simp only [DataW.trod, Tryz.underlying236]
    rw [show DataW.trod enc Tryz.prog w 0 sp true fuel 154 = DataW.trod enc Tryz.prog w' 0 sp' true fuel 154 from funext (fnExactFormatEngine_same1 fuel)]
theorem fnExactFormatEngine_contract (H : Type) (enc : TypeId × Value → H) (W : World) (base : Nat) (args : Array Value) (ds gs : List (DataW H)) (before : List MemPlace)
    (hval : ∀ (j : Nat) t v, Tryz.f3.params[j]? = some t → args[j]? = some v → Value.okWide Tryz.prog W .any base t v)
    (hW : DataW.Whole enc Tryz.prog Tryz.f3.params.toList Rows.fnExactFormatEngineSpec.vars false W args.toList ds gs before) (hL : laidMetH Tryz.prog Rows.fnExactFormatEngineRow.laid W) :
    Calls Tryz.prog 3 args W fun e W' => ∃ v, e = .returned v ∧ Rows.fnExactFormatEngineSpec.post enc Tryz.prog Tryz.f3 false true false false W args v W' := by
  have hW' := hW
  obtain ⟨p, q, hA0, hV, rfl, _, _⟩ := hW
  have hA : DataW.TrodAll enc Tryz.prog W 0 (fun _ => true) true Tryz.f3.params.toList args.toList ds p := hA0
  rw [Tryz.params3] at hA hval
  obtain ⟨v0, vs0, d0, ds0, p0, q0, hargs, rfl, rfl, h0, r0⟩ := trodAll_cons hA
  obtain ⟨rfl, rfl, rfl⟩ := trodAll_nil r0
  obtain rfl : args = #[v0] := by cases args; simp_all
  obtain ⟨a0, rfl, rfl, rfl, w0⟩ := open_int Tryz.underlying3 (hval 0 3 v0 rfl rfl) h0
  have hTI := fnExactFormatEngine_is hL
  obtain ⟨g', t', cs, fuel, dv, pv, rfl, hg', ht', hvar, htr, rfl⟩ := trodVars_one hV
  obtain rfl := Option.some.inj (fnExactFormatEngine_g.symm.trans hg')
  obtain rfl := Option.some.inj (fnExactFormatEngine_gt.symm.trans ht')
  clear hA0
  simp only [List.append_nil] at hW'
  refine (lawFormat a0 W   (fnExactFormatEngine_sumTab hTI)).mono fun e W' ⟨he, bel⟩ => ?_
  subst he
  have hlt : 0 < W.heap.size := by
    rcases Nat.lt_or_ge 0 W.heap.size with h' | h'
    · exact h'
    · have e0 := fnExactFormatEngine_sumTab hTI 0 (by decide)
      unfold World.cell? at e0
      rw [show W.heap[(⟨0, 0, none⟩ : Addr).block]? = none from Array.getElem?_eq_none h'] at e0
      cases e0
  exact ⟨_, rfl, _, _, _, [], [], _, hW', trodAll_mk1 (shut_bool Tryz.underlying4 _), (trodAll_cons_mk (shut_int Tryz.underlying3 w0) trodAll_mk0), trodVars_mk1 fnExactFormatEngine_g fnExactFormatEngine_gt (var?_below bel fnExactFormatEngine_g hlt hvar) (fnExactFormatEngine_same.trans htr), bel.frame _, fun h => by cases h⟩
def fnExactFormatEngine_dat (d : DataW Unit) : Array Value :=
  match d with
  | .agg l => (l.map fun x => match x with | .lit (.int k z) => Value.int k z | _ => undef).toArray
  | _ => #[]
def fnExactFormatEngine_set (w : World) (g : Nat) (cs : Array Value) : World := { w with heap := w.heap.modify g fun | .cells _ t frozen => .cells cs t frozen | o => o }
def fnExactFormatEngine_at (P : Program) (os : Os) (l : List (Nat × Array Value)) : World := l.foldl (fun w x => fnExactFormatEngine_set w x.1 x.2) (World.holding P os ⟨#[], #[], []⟩)
def fnExactFormatEngine_tabs : List (Nat × Array Value) := [(2, fnExactFormatEngine_dat Rows.laid_math_bits_deBruijn32tab), (3, fnExactFormatEngine_dat Rows.laid_math_bits_deBruijn64tab), (1, fnExactFormatEngine_dat Rows.laid_internal_strconv_uint64pow10), (0, fnExactFormatEngine_dat Rows.laid_loop_example_g00124_impl_halfByteSums)]
noncomputable def fnExactFormatEngine_world (os : Os) : World := fnExactFormatEngine_at Tryz.prog os fnExactFormatEngine_tabs
theorem fnExactFormatEngine_met (os : Os) : laidMet Tryz.prog Rows.fnExactFormatEngineRow.laid ((fnExactFormatEngine_world os).forCall (fun _ _ => 0) ⟨#[], #[.int .i64 0], []⟩).memory :=
  laidMet_of_run' 8 (by kernel_rfl) (by kernel_rfl)
theorem fnExactFormatEngine_reads (os : Os) {H : Type} (enc : TypeId × Value → H) : DataW.whole enc Tryz.prog ((fnExactFormatEngine_world os).forCall (fun _ _ => 0) ⟨#[], #[.int .i64 0], []⟩).memory Tryz.f3.params.toList Rows.fnExactFormatEngineSpec.vars false #[Value.int .i64 0].toList 8 = some ([.lit (.int .i64 0)], [Rows.laid_loop_example_g00124_impl_halfByteSums], MemPlace.row ⟨0, 0, none⟩ 16) := by kernel_rfl
theorem fnExactFormatEngine_lifted (os : Os) (started : os.Started) (H : Type) (enc : TypeId × Value → H) (F : Stop.Interp) :
    ReturnsInHanded {} Tryz.checked os 3 .any ((OpenSpec.ofChange Rows.fnExactFormatEngineSpec).preRow enc Tryz.prog Tryz.f3 Rows.fnExactFormatEngineRow.domain false Rows.fnExactFormatEngineRow.laid) (((OpenSpec.ofChange Rows.fnExactFormatEngineSpec).at F).post enc Tryz.prog Tryz.f3 false true false false) := by
  have hx := fnExactFormatEngine_reads os enc
  refine returnsInHanded_of_row (C := Tryz.checked) (s := OpenSpec.ofChange Rows.fnExactFormatEngineSpec) fnExactFormatEngine_own started (by kernel_rfl) Tryz.func3
    (witness_row_at (enc := enc) (C := Tryz.checked) false (fnExactFormatEngine_world os) #[.int .i64 0] rfl (by kernel_rfl) (by kernel_rfl) (by kernel_rfl)
      (OpenSpec.preRow_of_cond 8 hx (by kernel_rfl) (fun k hk => by cases hk) (by kernel_rfl) (fnExactFormatEngine_met os))) ?_
  intro W base args ds gs before hval hW _ _ _ hL _ _
  exact fnExactFormatEngine_contract H enc W base args ds gs before hval hW hL
theorem fnExactFormatEngine_said : Rows.FnExactFormatEngineSaid :=
  OpenClaim.holds_of_cond 3 Tryz.f3 rfl rfl rfl rfl rfl rfl rfl ⟨rfl, rfl, rfl, rfl, rfl⟩ rfl rfl rfl rfl rfl (by kernel_rfl) Tryz.func3 (by kernel_rfl)
    (of_decide_eq_true (by kernel_rfl)) (by unfold Func.isWrapper; first | (rw [if_pos (by decide +kernel)]; kernel_rfl) | (rw [if_neg (by decide +kernel)]; exact ⟨rfl, rfl⟩))
    (fun os started H enc _ F => by rw [OpenClaim.pre_eq_preRow]; exact fnExactFormatEngine_lifted os started H enc F)
theorem fnExactFormatEngine_plain (f : FuncId) (fn : Func) (hf : Tryz.pinned.checked.prog.funcNamed "loop.example/g00124/laws.FnExactFormatEngine" = some f) (hfn : Tryz.pinned.checked.prog.funcs[f]? = some fn) :
    false = Tryz.pinned.checked.prog.looks [] ∧ ∀ (j : Nat) t, fn.params[j]? = some t → Tryz.pinned.checked.prog.wantsStandIn t = false := by
  obtain rfl : f = 3 := Option.some.inj ((show Tryz.prog.funcNamed "loop.example/g00124/laws.FnExactFormatEngine" = some 3 by kernel_rfl).symm.trans hf) |>.symm
  obtain rfl : fn = Tryz.f3 := (Option.some.inj (Tryz.func3.symm.trans hfn)).symm
  refine ⟨by kernel_rfl, fun j t ht => ?_⟩
  rw [Tryz.params3] at ht
  obtain rfl : t = 3 := by simpa using Array.mem_of_getElem? ht
  exact (show Tryz.prog.wantsStandIn 3 = false by kernel_rfl)
theorem fnExactFormatEngine_card : Rows.FnExactFormatEngineCardSaid :=
  Claim7.holds_tied_plain_at .later [] _ _ _ _ fnExactFormatEngine_said (fun _ h => by cases h) (by kernel_rfl) (fun _ h => by cases h) fnExactFormatEngine_row_tie rfl ⟨rfl, rfl⟩ (by kernel_rfl) rfl fnExactFormatEngine_plain (by kernel_rfl)
#print axioms fnExactFormatEngine_card
end Go.Proofs.YtnhfngpegmpcnamGreatDoor
