/- 'FnExactUnframe': for every argument the law returns true, each argument reads behind the call as it read before; the table of half bytes is as the program's text lays it, and the card ties it to that text. -/
import Derived.Test.YtgalhnbfdgpfpajDoorCards
import Derived.Test.YtgalhnbfdgpfpajDoorTie
import Derived.Test.YtgalhnbfdgpfpajDoorLawUnframe
import Derived.WalkKit
import Derived.ProofKit
import Derived.OpenShut
import Derived.Carry
import Derived.Deep.DeepHandedRow
import Derived.Lib.LaidTab
import Derived.Stop.LaidErr
namespace Go.Proofs.YtgalhnbfdgpfpajDoor
open Go.ChangeShapes Go.WideShapes Go.ChangeAt Go.RowKit
open Go.ChangeMaps (open_string shut_string)

theorem fnExactUnframe_own : ownKnob Tryd.prog.godebug = none := by kernel_rfl
theorem fnExactUnframe_g : Tryd.prog.globalNamed "loop.example/g00124/impl.halfByteSums" = some 0 := by kernel_rfl
theorem fnExactUnframe_gt : (Tryd.prog.globals[0]?).map (·.type) = some 52 := by kernel_rfl
theorem fnExactUnframe_cells : Tryd.prog.cellsOf 52 = 16 := by kernel_rfl
theorem fnExactUnframe_cell : Tryd.prog.cellsOf 37 = 1 := by kernel_rfl
theorem fnExactUnframe_tab : (Rows.laid_loop_example_g00124_impl_halfByteSums : DataW Unit) = Lib.tabData .u32 (htab.map Int.ofNat) := by kernel_rfl

/-- What the row's list gives: the table holds its numbers. -/
theorem fnExactUnframe_is {W : World} (h : laidMetH Tryd.prog Rows.fnExactUnframeRow.laid W) : Lib.TabIs Tryd.prog W "loop.example/g00124/impl.halfByteSums" .u32 (htab.map Int.ofNat) := by
  have h1 : laidMet Tryd.prog [("loop.example/g00124/impl.halfByteSums", Rows.laid_loop_example_g00124_impl_halfByteSums)] W := h
  rw [fnExactUnframe_tab] at h1
  exact Lib.tabIs_of_head (rest := []) fnExactUnframe_g fnExactUnframe_gt Tryd.underlying52 Tryd.underlying37 fnExactUnframe_cell fnExactUnframe_cells h1
theorem fnExactUnframe_sumTab {W : World} (h : Lib.TabIs Tryd.prog W "loop.example/g00124/impl.halfByteSums" .u32 (htab.map Int.ofNat)) : SumTab W := by
  intro r hr
  have e : ∀ r, r < 16 → (htab.map Int.ofNat).getD r 0 = ((htab.getD r 0 : Nat) : Int) := by decide
  rw [← e r hr]
  exact h.cell fnExactUnframe_g r (by simpa [htab] using hr)
/-- A number, and a row of numbers, reads the same in every world. -/
theorem fnExactUnframe_same1 {H : Type} {enc : TypeId × Value → H} {w w' : World} {sp sp' : Nat → Bool} (fuel : Nat) (cs : List Value) : DataW.trod enc Tryd.prog w 0 sp true fuel 37 cs = DataW.trod enc Tryd.prog w' 0 sp' true fuel 37 cs := by
  cases fuel with
  | zero => simp only [DataW.trod]
  | succ fuel =>
    simp only [DataW.trod, Tryd.underlying37]
    rcases cs with _ | ⟨v, _ | ⟨_, _⟩⟩
    · rfl
    · cases v <;> rfl
    · cases v <;> rfl
theorem fnExactUnframe_same {H : Type} {enc : TypeId × Value → H} {w w' : World} {sp sp' : Nat → Bool} {fuel : Nat} {cs : List Value} : DataW.trod enc Tryd.prog w 0 sp true fuel 52 cs = DataW.trod enc Tryd.prog w' 0 sp' true fuel 52 cs := by
  cases fuel with
  | zero => simp only [DataW.trod]
  | succ fuel =>
    simp only [DataW.trod, Tryd.underlying52]
    rw [show DataW.trod enc Tryd.prog w 0 sp true fuel 37 = DataW.trod enc Tryd.prog w' 0 sp' true fuel 37 from funext (fnExactUnframe_same1 fuel)]

theorem fnExactUnframe_contract (H : Type) (enc : TypeId × Value → H) (W : World) (base : Nat) (args : Array Value) (ds gs : List (DataW H)) (before : List MemPlace)
    (hval : ∀ (j : Nat) t v, Tryd.f4.params[j]? = some t → args[j]? = some v → Value.okWide Tryd.prog W .any base t v)
    (hW : DataW.Whole enc Tryd.prog Tryd.f4.params.toList Rows.fnExactUnframeSpec.vars false W args.toList ds gs before) (hL : laidMetH Tryd.prog Rows.fnExactUnframeRow.laid W) :
    Calls Tryd.prog 4 args W fun e W' => ∃ v, e = .returned v ∧ Rows.fnExactUnframeSpec.post enc Tryd.prog Tryd.f4 false true false false W args v W' := by
  have hW' := hW
  obtain ⟨p, q, hA0, hV, rfl, _, _⟩ := hW
  have hA : DataW.TrodAll enc Tryd.prog W 0 (fun _ => true) true Tryd.f4.params.toList args.toList ds p := hA0
  rw [Tryd.params4] at hA hval
  obtain ⟨v0, vs0, d0, ds0, p0, q0, hargs, rfl, rfl, h0, r0⟩ := trodAll_cons hA
  obtain ⟨rfl, rfl, rfl⟩ := trodAll_nil r0
  obtain rfl : args = #[v0] := by cases args; simp_all
  obtain ⟨a0, rfl, rfl, rfl, w0⟩ := open_string Tryd.underlying9 (hval 0 9 v0 rfl rfl) h0
  have hTI := fnExactUnframe_is hL
  obtain ⟨g', t', cs, fuel, dv, pv, rfl, hg', ht', hvar, htr, rfl⟩ := trodVars_one hV
  obtain rfl := Option.some.inj (fnExactUnframe_g.symm.trans hg')
  obtain rfl := Option.some.inj (fnExactUnframe_gt.symm.trans ht')
  clear hA0
  simp only [List.append_nil] at hW'
  refine (unframe_walk a0 W  (fnExactUnframe_sumTab hTI)).mono fun e W' ⟨he, bel⟩ => ?_
  subst he
  have hlt : 0 < W.heap.size := by
    rcases Nat.lt_or_ge 0 W.heap.size with h' | h'
    · exact h'
    · have e0 := fnExactUnframe_sumTab hTI 0 (by decide)
      unfold World.cell? at e0
      rw [show W.heap[(⟨0, 0, none⟩ : Addr).block]? = none from Array.getElem?_eq_none h'] at e0
      cases e0
  exact ⟨_, rfl, _, _, _, [], [], _, hW', trodAll_mk1 (shut_bool Tryd.underlying4 _), (trodAll_cons_mk (shut_string Tryd.underlying9 w0) trodAll_mk0), trodVars_mk1 fnExactUnframe_g fnExactUnframe_gt (var?_below bel fnExactUnframe_g hlt hvar) (fnExactUnframe_same.trans htr), bel.frame _, fun h => by cases h⟩

/-- A world for the witness: the settled one, the table as the text lays it. -/
def fnExactUnframe_cs : Array Value := (htab.map fun z : Nat => Value.int .u32 (z : Int)).toArray
def fnExactUnframe_set (w : World) (g : Nat) (cs : Array Value) : World := { w with heap := w.heap.modify g fun | .cells _ t frozen => .cells cs t frozen | o => o }
def fnExactUnframe_at (P : Program) (os : Os) (l : List (Nat × Array Value)) : World := l.foldl (fun w x => fnExactUnframe_set w x.1 x.2) (World.holding P os ⟨#[], #[], []⟩)
noncomputable def fnExactUnframe_world (os : Os) : World := fnExactUnframe_at Tryd.prog os [(0, fnExactUnframe_cs)]
theorem fnExactUnframe_met (os : Os) : laidMet Tryd.prog Rows.fnExactUnframeRow.laid ((fnExactUnframe_world os).forCall (fun _ _ => 0) ⟨#[], #[.string ⟨#[]⟩], []⟩).memory :=
  laidMet_of_run' 8 (by kernel_rfl) (by kernel_rfl)
theorem fnExactUnframe_reads (os : Os) {H : Type} (enc : TypeId × Value → H) : DataW.whole enc Tryd.prog ((fnExactUnframe_world os).forCall (fun _ _ => 0) ⟨#[], #[.string ⟨#[]⟩], []⟩).memory Tryd.f4.params.toList Rows.fnExactUnframeSpec.vars false #[Value.string ⟨#[]⟩].toList 8 = some ([.lit (.string [])], [Rows.laid_loop_example_g00124_impl_halfByteSums], MemPlace.row ⟨0, 0, none⟩ 16) := by kernel_rfl

set_option maxRecDepth 100000 in
theorem fnExactUnframe_lifted (os : Os) (started : os.Started) (H : Type) (enc : TypeId × Value → H) (F : Stop.Interp) :
    ReturnsInHanded {} Tryd.checked os 4 .any ((OpenSpec.ofChange Rows.fnExactUnframeSpec).preRow enc Tryd.prog Tryd.f4 Rows.fnExactUnframeRow.domain false Rows.fnExactUnframeRow.laid) (((OpenSpec.ofChange Rows.fnExactUnframeSpec).at F).post enc Tryd.prog Tryd.f4 false true false false) := by
  have hx := fnExactUnframe_reads os enc
  refine returnsInHanded_of_row (C := Tryd.checked) (s := OpenSpec.ofChange Rows.fnExactUnframeSpec) fnExactUnframe_own started (by kernel_rfl) Tryd.func4
    (witness_row_at (enc := enc) (C := Tryd.checked) false (fnExactUnframe_world os) #[.string ⟨#[]⟩] rfl (by kernel_rfl) (by kernel_rfl) (by kernel_rfl)
      (OpenSpec.preRow_of_cond 8 hx (by kernel_rfl) (fun k hk => by cases hk) (by kernel_rfl) (fnExactUnframe_met os))) ?_
  intro W base args ds gs before hval hW _ _ _ hL _ _
  exact fnExactUnframe_contract H enc W base args ds gs before hval hW hL

theorem fnExactUnframe_said : Rows.FnExactUnframeSaid :=
  OpenClaim.holds_of_cond 4 Tryd.f4 rfl rfl rfl rfl rfl rfl rfl ⟨rfl, rfl, rfl, rfl, rfl⟩ rfl rfl rfl rfl rfl (by kernel_rfl) Tryd.func4 (by kernel_rfl)
    (of_decide_eq_true (by kernel_rfl)) (by unfold Func.isWrapper; first | (rw [if_pos (by decide +kernel)]; kernel_rfl) | (rw [if_neg (by decide +kernel)]; exact ⟨rfl, rfl⟩))
    (fun os started H enc _ F => by rw [OpenClaim.pre_eq_preRow]; exact fnExactUnframe_lifted os started H enc F)

theorem fnExactUnframe_plain (f : FuncId) (fn : Func) (hf : Tryd.pinned.checked.prog.funcNamed "loop.example/g00124/laws.FnExactUnframe" = some f) (hfn : Tryd.pinned.checked.prog.funcs[f]? = some fn) :
    false = Tryd.pinned.checked.prog.looks [] ∧ ∀ (j : Nat) t, fn.params[j]? = some t → Tryd.pinned.checked.prog.wantsStandIn t = false := by
  obtain rfl : f = 4 := Option.some.inj ((show Tryd.prog.funcNamed "loop.example/g00124/laws.FnExactUnframe" = some 4 by kernel_rfl).symm.trans hf) |>.symm
  obtain rfl : fn = Tryd.f4 := (Option.some.inj (Tryd.func4.symm.trans hfn)).symm
  refine ⟨by kernel_rfl, fun j t ht => ?_⟩
  rw [Tryd.params4] at ht
  obtain rfl : t = 9 := by simpa using Array.mem_of_getElem? ht
  exact (show Tryd.prog.wantsStandIn 9 = false by kernel_rfl)

/-- The given statement: the card. -/
theorem fnExactUnframe_card : Rows.FnExactUnframeCardSaid :=
  Claim7.holds_tied_plain_at .later [] _ _ _ _ fnExactUnframe_said (fun _ h => by cases h) (by kernel_rfl) (fun _ h => by cases h) fnExactUnframe_row_tie rfl ⟨rfl, rfl⟩ (by kernel_rfl) rfl fnExactUnframe_plain (by kernel_rfl)
#print axioms fnExactUnframe_card
end Go.Proofs.YtgalhnbfdgpfpajDoor
