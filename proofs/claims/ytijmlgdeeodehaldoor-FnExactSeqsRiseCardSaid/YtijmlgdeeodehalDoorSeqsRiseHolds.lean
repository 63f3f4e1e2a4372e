/- 'FnExactSeqsRise': for every argument the law returns true, and each argument reads behind the call as it read before; the tables that the row lists are as the program's text lays them, and the card ties them to that text. -/
import Derived.Test.YtijmlgdeeodehalDoorCards
import Derived.Test.YtijmlgdeeodehalDoorTie
import Derived.Test.YtijmlgdeeodehalDoorLawSeqsRise
import Derived.Test.YtijmlgdeeodehalDoorDiskOf
import Derived.WalkKit
import Derived.ProofKit
import Derived.OpenShut
import Derived.Carry
import Derived.Deep.DeepHandedRow
import Derived.Lib.LaidTab
import Derived.Stop.LaidErr
import Derived.ChangeOld
import Derived.Below
namespace Go.Proofs.YtijmlgdeeodehalDoor
open Go.ChangeShapes Go.WideShapes Go.ChangeAt Go.RowKit
open Go.ChangeMaps (open_string shut_string)

theorem fnExactSeqsRise_own : ownKnob Tryd.prog.godebug = none := by kernel_rfl
theorem fnExactSeqsRise_g : Tryd.prog.globalNamed "loop.example/g00124/impl.halfByteSums" = some 0 := by kernel_rfl
theorem fnExactSeqsRise_gt : (Tryd.prog.globals[0]?).map (·.type) = some 148 := by kernel_rfl
theorem fnExactSeqsRise_cells : Tryd.prog.cellsOf 148 = 16 := by kernel_rfl
theorem fnExactSeqsRise_cell : Tryd.prog.cellsOf 111 = 1 := by kernel_rfl
theorem fnExactSeqsRise_tab : (Rows.laid_loop_example_g00124_impl_halfByteSums : DataW Unit) = Lib.tabData .u32 (htab.map Int.ofNat) := by kernel_rfl

/-- What the row's list gives: the table holds its numbers. -/
theorem fnExactSeqsRise_is {W : World} (h : laidMetH Tryd.prog Rows.fnExactSeqsRiseRow.laid W) : Lib.TabIs Tryd.prog W "loop.example/g00124/impl.halfByteSums" .u32 (htab.map Int.ofNat) := by
  have h1 : laidMet Tryd.prog ([("loop.example/g00124/impl.halfByteSums", Rows.laid_loop_example_g00124_impl_halfByteSums)]) W := laidMet.tail (laidMet.tail (laidMet.tail h))
  rw [fnExactSeqsRise_tab] at h1
  exact Lib.tabIs_of_head (rest := []) fnExactSeqsRise_g fnExactSeqsRise_gt Tryd.underlying148 Tryd.underlying111 fnExactSeqsRise_cell fnExactSeqsRise_cells h1
theorem fnExactSeqsRise_sumTab {W : World} (h : Lib.TabIs Tryd.prog W "loop.example/g00124/impl.halfByteSums" .u32 (htab.map Int.ofNat)) : SumTab W := by
  intro r hr
  have e : ∀ r, r < 16 → (htab.map Int.ofNat).getD r 0 = ((htab.getD r 0 : Nat) : Int) := by decide
  rw [← e r hr]
  exact h.cell fnExactSeqsRise_g r (by simpa [htab] using hr)
/-- A number, and a row of numbers, reads the same in every world. -/
theorem fnExactSeqsRise_same1 {H : Type} {enc : TypeId × Value → H} {w w' : World} {sp sp' : Nat → Bool} (fuel : Nat) (cs : List Value) : DataW.trod enc Tryd.prog w 0 sp true fuel 111 cs = DataW.trod enc Tryd.prog w' 0 sp' true fuel 111 cs := by
  cases fuel with
  | zero => simp only [DataW.trod]
  | succ fuel =>
    simp only [DataW.trod, Tryd.underlying111]
    rcases cs with _ | ⟨v, _ | ⟨_, _⟩⟩
    · rfl
    · cases v <;> rfl
    · cases v <;> rfl
theorem fnExactSeqsRise_same {H : Type} {enc : TypeId × Value → H} {w w' : World} {sp sp' : Nat → Bool} {fuel : Nat} {cs : List Value} : DataW.trod enc Tryd.prog w 0 sp true fuel 148 cs = DataW.trod enc Tryd.prog w' 0 sp' true fuel 148 cs := by
  cases fuel with
  | zero => simp only [DataW.trod]
  | succ fuel =>
    simp only [DataW.trod, Tryd.underlying148]
    rw [show DataW.trod enc Tryd.prog w 0 sp true fuel 111 = DataW.trod enc Tryd.prog w' 0 sp' true fuel 111 from funext (fnExactSeqsRise_same1 fuel)]

theorem fnExactSeqsRise_laidOut : laidOutB Tryd.prog = true := by kernel_rfl
set_option maxRecDepth 100000 in
theorem fnExactSeqsRise_contract (H : Type) (enc : TypeId × Value → H) (W : World) (base : Nat) (args : Array Value) (ds gs : List (DataW H)) (before : List MemPlace)
    (hval : ∀ (j : Nat) t v, Tryd.f4.params[j]? = some t → args[j]? = some v → Value.okWide Tryd.prog W .any base t v)
    (hW : DataW.Whole enc Tryd.prog Tryd.f4.params.toList Rows.fnExactSeqsRiseSpec.vars false W args.toList ds gs before) (hL : laidMetH Tryd.prog Rows.fnExactSeqsRiseRow.laid W) :
    Calls Tryd.prog 4 args W fun e W' => ∃ v, e = .returned v ∧ Rows.fnExactSeqsRiseSpec.post enc Tryd.prog Tryd.f4 false true false false W args v W' := by
  have hW' := hW
  obtain ⟨p, q, hA0, hV, rfl, _, _⟩ := hW
  have hA : DataW.TrodAll enc Tryd.prog W 0 (fun _ => true) true Tryd.f4.params.toList args.toList ds p := hA0
  rw [Tryd.params4] at hA hval
  obtain ⟨v0, vs0, d0, ds0, p0, q0, hargs, rfl, rfl, h0, r0⟩ := trodAll_cons hA
  obtain ⟨rfl, rfl, rfl⟩ := trodAll_nil r0
  obtain rfl : args = #[v0] := by cases args; simp_all
  have k0 := h0
  have lt0 : ∀ x ∈ p0, x.block < W.heap.size := by obtain ⟨m, hm⟩ := k0; exact DataW.trod_lt m _ _ _ hm
  obtain ⟨a0, x0, cap0, rfl, l0, f0, z0⟩ := disk_of (hval 0 24 v0 rfl rfl) h0
  have hTI := fnExactSeqsRise_is hL
  obtain ⟨g', t', cs, fuel, dv, pv, rfl, hg', ht', hvar, htr, rfl⟩ := trodVars_one hV
  obtain rfl := Option.some.inj (fnExactSeqsRise_g.symm.trans hg')
  obtain rfl := Option.some.inj (fnExactSeqsRise_gt.symm.trans ht')
  clear hA0
  simp only [List.append_nil] at hW'
  refine (lawSeqsRise x0 a0 cap0 W l0 f0 z0  (fnExactSeqsRise_sumTab hTI)).mono fun e W' ⟨he, bel⟩ => ?_
  subst he
  have hlt : 0 < W.heap.size := by
    rcases Nat.lt_or_ge 0 W.heap.size with h' | h'
    · exact h'
    · have e0 := fnExactSeqsRise_sumTab hTI 0 (by decide)
      unfold World.cell? at e0
      rw [show W.heap[(⟨0, 0, none⟩ : Addr).block]? = none from Array.getElem?_eq_none h'] at e0
      cases e0
  exact ⟨_, rfl, _, _, _, [], _, _, hW', trodAll_mk1 (shut_bool Tryd.underlying4 _), (trodAll_cons_mk (Below.trod fnExactSeqsRise_laidOut (by kernel_rfl) (of_decide_eq_true (by kernel_rfl)) k0 bel lt0) trodAll_mk0), trodVars_mk1 fnExactSeqsRise_g fnExactSeqsRise_gt (var?_below bel fnExactSeqsRise_g hlt hvar) (fnExactSeqsRise_same.trans htr), bel.frame _, fun h => by cases h⟩

/-- A world for the witness: the settled one, the tables as the text lays them. -/
def fnExactSeqsRise_dat (d : DataW Unit) : Array Value :=
  match d with
  | .agg l => (l.map fun x => match x with | .lit (.int k z) => Value.int k z | _ => undef).toArray
  | _ => #[]
def fnExactSeqsRise_set (w : World) (g : Nat) (cs : Array Value) : World := { w with heap := w.heap.modify g fun | .cells _ t frozen => .cells cs t frozen | o => o }
def fnExactSeqsRise_at (P : Program) (os : Os) (l : List (Nat × Array Value)) : World := l.foldl (fun w x => fnExactSeqsRise_set w x.1 x.2) (World.holding P os ⟨#[], #[], []⟩)
def fnExactSeqsRise_tabs : List (Nat × Array Value) := [(2, fnExactSeqsRise_dat Rows.laid_math_bits_deBruijn32tab), (3, fnExactSeqsRise_dat Rows.laid_math_bits_deBruijn64tab), (1, fnExactSeqsRise_dat Rows.laid_internal_strconv_uint64pow10), (0, fnExactSeqsRise_dat Rows.laid_loop_example_g00124_impl_halfByteSums)]
noncomputable def fnExactSeqsRise_world (os : Os) : World := fnExactSeqsRise_at Tryd.prog os fnExactSeqsRise_tabs
theorem fnExactSeqsRise_met (os : Os) : laidMet Tryd.prog Rows.fnExactSeqsRiseRow.laid ((fnExactSeqsRise_world os).forCall (fun _ _ => 0) ⟨#[], #[.agg #[.slice none 0 0]], []⟩).memory :=
  laidMet_of_run' 8 (by kernel_rfl) (by kernel_rfl)
theorem fnExactSeqsRise_reads (os : Os) {H : Type} (enc : TypeId × Value → H) : DataW.whole enc Tryd.prog ((fnExactSeqsRise_world os).forCall (fun _ _ => 0) ⟨#[], #[.agg #[.slice none 0 0]], []⟩).memory Tryd.f4.params.toList Rows.fnExactSeqsRiseSpec.vars false #[Value.agg #[.slice none 0 0]].toList 8 = some ([.agg [.nil]], [Rows.laid_loop_example_g00124_impl_halfByteSums], MemPlace.row ⟨0, 0, none⟩ 16) := by kernel_rfl

set_option maxRecDepth 100000 in
theorem fnExactSeqsRise_lifted (os : Os) (started : os.Started) (H : Type) (enc : TypeId × Value → H) (F : Stop.Interp) :
    ReturnsInHanded {} Tryd.checked os 4 .any ((OpenSpec.ofChange Rows.fnExactSeqsRiseSpec).preRow enc Tryd.prog Tryd.f4 Rows.fnExactSeqsRiseRow.domain false Rows.fnExactSeqsRiseRow.laid) (((OpenSpec.ofChange Rows.fnExactSeqsRiseSpec).at F).post enc Tryd.prog Tryd.f4 false true false false) := by
  have hx := fnExactSeqsRise_reads os enc
  refine returnsInHanded_of_row (C := Tryd.checked) (s := OpenSpec.ofChange Rows.fnExactSeqsRiseSpec) fnExactSeqsRise_own started (by kernel_rfl) Tryd.func4
    (witness_row_at (enc := enc) (C := Tryd.checked) false (fnExactSeqsRise_world os) #[.agg #[.slice none 0 0]] rfl (by kernel_rfl) (by kernel_rfl) (by kernel_rfl)
      (OpenSpec.preRow_of_cond 8 hx (by kernel_rfl) (fun k hk => by cases hk) (by kernel_rfl) (fnExactSeqsRise_met os))) ?_
  intro W base args ds gs before hval hW _ _ _ hL _ _
  exact fnExactSeqsRise_contract H enc W base args ds gs before hval hW hL

theorem fnExactSeqsRise_said : Rows.FnExactSeqsRiseSaid :=
  OpenClaim.holds_of_cond 4 Tryd.f4 rfl rfl rfl rfl rfl rfl rfl ⟨rfl, rfl, rfl, rfl, rfl⟩ rfl rfl rfl rfl rfl (by kernel_rfl) Tryd.func4 (by kernel_rfl)
    (of_decide_eq_true (by kernel_rfl)) (by unfold Func.isWrapper; first | (rw [if_pos (by decide +kernel)]; kernel_rfl) | (rw [if_neg (by decide +kernel)]; exact ⟨rfl, rfl⟩))
    (fun os started H enc _ F => by rw [OpenClaim.pre_eq_preRow]; exact fnExactSeqsRise_lifted os started H enc F)

theorem fnExactSeqsRise_plain (f : FuncId) (fn : Func) (hf : Tryd.pinned.checked.prog.funcNamed "loop.example/g00124/laws.FnExactSeqsRise" = some f) (hfn : Tryd.pinned.checked.prog.funcs[f]? = some fn) :
    false = Tryd.pinned.checked.prog.looks [] ∧ ∀ (j : Nat) t, fn.params[j]? = some t → Tryd.pinned.checked.prog.wantsStandIn t = false := by
  obtain rfl : f = 4 := Option.some.inj ((show Tryd.prog.funcNamed "loop.example/g00124/laws.FnExactSeqsRise" = some 4 by kernel_rfl).symm.trans hf) |>.symm
  obtain rfl : fn = Tryd.f4 := (Option.some.inj (Tryd.func4.symm.trans hfn)).symm
  refine ⟨by kernel_rfl, fun j t ht => ?_⟩
  rw [Tryd.params4] at ht
  obtain rfl : t = 24 := by simpa using Array.mem_of_getElem? ht
  exact (show Tryd.prog.wantsStandIn 24 = false by kernel_rfl)

/-- The given statement: the card. -/
theorem fnExactSeqsRise_card : Rows.FnExactSeqsRiseCardSaid :=
  Claim7.holds_tied_plain_at .later [] _ _ _ _ fnExactSeqsRise_said (fun _ h => by cases h) (by kernel_rfl) (fun _ h => by cases h) fnExactSeqsRise_row_tie rfl ⟨rfl, rfl⟩ (by kernel_rfl) rfl fnExactSeqsRise_plain (by kernel_rfl)
#print axioms fnExactSeqsRise_card
end Go.Proofs.YtijmlgdeeodehalDoor
