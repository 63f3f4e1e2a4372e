/- 'FnExactReadSegment': for every argument the law returns true, and each argument reads behind the call as it read before; the tables that the row lists are as the program's text lays them, and the card ties them to that text. -/
import Derived.Test.YtijmlgdeeodehakDoorCards
import Derived.Test.YtijmlgdeeodehakDoorTie
import Derived.Test.YtijmlgdeeodehakDoorLawReadSeg
import Derived.WalkKit
import Derived.ProofKit
import Derived.OpenShut
import Derived.Carry
import Derived.Deep.DeepHandedRow
import Derived.Lib.LaidTab
import Derived.Stop.LaidErr
namespace Go.Proofs.YtijmlgdeeodehakDoor
open Go.ChangeShapes Go.WideShapes Go.ChangeAt Go.RowKit
open Go.ChangeMaps (open_string shut_string)

theorem fnExactReadSegment_own : ownKnob Tryd.prog.godebug = none := by kernel_rfl
theorem fnExactReadSegment_g : Tryd.prog.globalNamed "loop.example/g00124/impl.halfByteSums" = some 0 := by kernel_rfl
theorem fnExactReadSegment_gt : (Tryd.prog.globals[0]?).map (·.type) = some 95 := by kernel_rfl
theorem fnExactReadSegment_cells : Tryd.prog.cellsOf 95 = 16 := by kernel_rfl
theorem fnExactReadSegment_cell : Tryd.prog.cellsOf 60 = 1 := by kernel_rfl
theorem fnExactReadSegment_tab : (Rows.laid_loop_example_g00124_impl_halfByteSums : DataW Unit) = Lib.tabData .u32 (htab.map Int.ofNat) := by kernel_rfl

/-- What the row's list gives: the table holds its numbers. -/
theorem fnExactReadSegment_is {W : World} (h : laidMetH Tryd.prog Rows.fnExactReadSegmentRow.laid W) : Lib.TabIs Tryd.prog W "loop.example/g00124/impl.halfByteSums" .u32 (htab.map Int.ofNat) := by
  have h1 : laidMet Tryd.prog ([("loop.example/g00124/impl.halfByteSums", Rows.laid_loop_example_g00124_impl_halfByteSums)]) W := h
  rw [fnExactReadSegment_tab] at h1
  exact Lib.tabIs_of_head (rest := []) fnExactReadSegment_g fnExactReadSegment_gt Tryd.underlying95 Tryd.underlying60 fnExactReadSegment_cell fnExactReadSegment_cells h1
theorem fnExactReadSegment_sumTab {W : World} (h : Lib.TabIs Tryd.prog W "loop.example/g00124/impl.halfByteSums" .u32 (htab.map Int.ofNat)) : SumTab W := by
  intro r hr
  have e : ∀ r, r < 16 → (htab.map Int.ofNat).getD r 0 = ((htab.getD r 0 : Nat) : Int) := by decide
  rw [← e r hr]
  exact h.cell fnExactReadSegment_g r (by simpa [htab] using hr)
/-- A number, and a row of numbers, reads the same in every world. -/
theorem fnExactReadSegment_same1 {H : Type} {enc : TypeId × Value → H} {w w' : World} {sp sp' : Nat → Bool} (fuel : Nat) (cs : List Value) : DataW.trod enc Tryd.prog w 0 sp true fuel 60 cs = DataW.trod enc Tryd.prog w' 0 sp' true fuel 60 cs := by
  cases fuel with
  | zero => simp only [DataW.trod]
  | succ fuel =>
    simp only [DataW.trod, Tryd.underlying60]
    rcases cs with _ | ⟨v, _ | ⟨_, _⟩⟩
    · rfl
    · cases v <;> rfl
    · cases v <;> rfl
theorem fnExactReadSegment_same {H : Type} {enc : TypeId × Value → H} {w w' : World} {sp sp' : Nat → Bool} {fuel : Nat} {cs : List Value} : DataW.trod enc Tryd.prog w 0 sp true fuel 95 cs = DataW.trod enc Tryd.prog w' 0 sp' true fuel 95 cs := by
  cases fuel with
  | zero => simp only [DataW.trod]
  | succ fuel =>
    simp only [DataW.trod, Tryd.underlying95]
    rw [show DataW.trod enc Tryd.prog w 0 sp true fuel 60 = DataW.trod enc Tryd.prog w' 0 sp' true fuel 60 from funext (fnExactReadSegment_same1 fuel)]

set_option maxRecDepth 100000 in
theorem fnExactReadSegment_contract (H : Type) (enc : TypeId × Value → H) (W : World) (base : Nat) (args : Array Value) (ds gs : List (DataW H)) (before : List MemPlace)
    (hval : ∀ (j : Nat) t v, Tryd.f5.params[j]? = some t → args[j]? = some v → Value.okWide Tryd.prog W .any base t v)
    (hW : DataW.Whole enc Tryd.prog Tryd.f5.params.toList Rows.fnExactReadSegmentSpec.vars false W args.toList ds gs before) (hL : laidMetH Tryd.prog Rows.fnExactReadSegmentRow.laid W) :
    Calls Tryd.prog 5 args W fun e W' => ∃ v, e = .returned v ∧ Rows.fnExactReadSegmentSpec.post enc Tryd.prog Tryd.f5 false true false false W args v W' := by
  have hW' := hW
  obtain ⟨p, q, hA0, hV, rfl, _, _⟩ := hW
  have hA : DataW.TrodAll enc Tryd.prog W 0 (fun _ => true) true Tryd.f5.params.toList args.toList ds p := hA0
  rw [Tryd.params5] at hA hval
  obtain ⟨v0, vs0, d0, ds0, p0, q0, hargs, rfl, rfl, h0, r0⟩ := trodAll_cons hA
  obtain ⟨v1, vs1, d1, ds1, p1, q1, rfl, rfl, rfl, h1, r1⟩ := trodAll_cons r0
  obtain ⟨rfl, rfl, rfl⟩ := trodAll_nil r1
  obtain rfl : args = #[v0, v1] := by cases args; simp_all
  obtain ⟨a0, rfl, rfl, rfl, w0⟩ := open_int Tryd.underlying3 (hval 0 3 v0 rfl rfl) h0
  obtain ⟨a1, rfl, rfl, rfl, w1⟩ := open_string Tryd.underlying9 (hval 1 9 v1 rfl rfl) h1
  have hTI := fnExactReadSegment_is hL
  obtain ⟨g', t', cs, fuel, dv, pv, rfl, hg', ht', hvar, htr, rfl⟩ := trodVars_one hV
  obtain rfl := Option.some.inj (fnExactReadSegment_g.symm.trans hg')
  obtain rfl := Option.some.inj (fnExactReadSegment_gt.symm.trans ht')
  clear hA0
  simp only [List.append_nil] at hW'
  refine (readSegment_walk a0 a1 W    (fnExactReadSegment_sumTab hTI)).mono fun e W' ⟨he, bel⟩ => ?_
  subst he
  have hlt : 0 < W.heap.size := by
    rcases Nat.lt_or_ge 0 W.heap.size with h' | h'
    · exact h'
    · have e0 := fnExactReadSegment_sumTab hTI 0 (by decide)
      unfold World.cell? at e0
      rw [show W.heap[(⟨0, 0, none⟩ : Addr).block]? = none from Array.getElem?_eq_none h'] at e0
      cases e0
  exact ⟨_, rfl, _, _, _, [], [], _, hW', trodAll_mk1 (shut_bool Tryd.underlying4 _), (trodAll_cons_mk (shut_int Tryd.underlying3 w0) (trodAll_cons_mk (shut_string Tryd.underlying9 w1) trodAll_mk0)), trodVars_mk1 fnExactReadSegment_g fnExactReadSegment_gt (var?_below bel fnExactReadSegment_g hlt hvar) (fnExactReadSegment_same.trans htr), bel.frame _, fun h => by cases h⟩

/-- A world for the witness: the settled one, the tables as the text lays them. -/
def fnExactReadSegment_dat (d : DataW Unit) : Array Value :=
  match d with
  | .agg l => (l.map fun x => match x with | .lit (.int k z) => Value.int k z | _ => undef).toArray
  | _ => #[]
def fnExactReadSegment_set (w : World) (g : Nat) (cs : Array Value) : World := { w with heap := w.heap.modify g fun | .cells _ t frozen => .cells cs t frozen | o => o }
def fnExactReadSegment_at (P : Program) (os : Os) (l : List (Nat × Array Value)) : World := l.foldl (fun w x => fnExactReadSegment_set w x.1 x.2) (World.holding P os ⟨#[], #[], []⟩)
def fnExactReadSegment_tabs : List (Nat × Array Value) := [(0, fnExactReadSegment_dat Rows.laid_loop_example_g00124_impl_halfByteSums)]
noncomputable def fnExactReadSegment_world (os : Os) : World := fnExactReadSegment_at Tryd.prog os fnExactReadSegment_tabs
theorem fnExactReadSegment_met (os : Os) : laidMet Tryd.prog Rows.fnExactReadSegmentRow.laid ((fnExactReadSegment_world os).forCall (fun _ _ => 0) ⟨#[], #[.int .i64 0, .string ⟨#[]⟩], []⟩).memory :=
  laidMet_of_run' 8 (by kernel_rfl) (by kernel_rfl)
theorem fnExactReadSegment_reads (os : Os) {H : Type} (enc : TypeId × Value → H) : DataW.whole enc Tryd.prog ((fnExactReadSegment_world os).forCall (fun _ _ => 0) ⟨#[], #[.int .i64 0, .string ⟨#[]⟩], []⟩).memory Tryd.f5.params.toList Rows.fnExactReadSegmentSpec.vars false #[Value.int .i64 0, Value.string ⟨#[]⟩].toList 8 = some ([.lit (.int .i64 0), .lit (.string [])], [Rows.laid_loop_example_g00124_impl_halfByteSums], MemPlace.row ⟨0, 0, none⟩ 16) := by kernel_rfl

set_option maxRecDepth 100000 in
theorem fnExactReadSegment_lifted (os : Os) (started : os.Started) (H : Type) (enc : TypeId × Value → H) (F : Stop.Interp) :
    ReturnsInHanded {} Tryd.checked os 5 .any ((OpenSpec.ofChange Rows.fnExactReadSegmentSpec).preRow enc Tryd.prog Tryd.f5 Rows.fnExactReadSegmentRow.domain false Rows.fnExactReadSegmentRow.laid) (((OpenSpec.ofChange Rows.fnExactReadSegmentSpec).at F).post enc Tryd.prog Tryd.f5 false true false false) := by
  have hx := fnExactReadSegment_reads os enc
  refine returnsInHanded_of_row (C := Tryd.checked) (s := OpenSpec.ofChange Rows.fnExactReadSegmentSpec) fnExactReadSegment_own started (by kernel_rfl) Tryd.func5
    (witness_row_at (enc := enc) (C := Tryd.checked) false (fnExactReadSegment_world os) #[.int .i64 0, .string ⟨#[]⟩] rfl (by kernel_rfl) (by kernel_rfl) (by kernel_rfl)
      (OpenSpec.preRow_of_cond 8 hx (by kernel_rfl) (fun k hk => by cases hk) (by kernel_rfl) (fnExactReadSegment_met os))) ?_
  intro W base args ds gs before hval hW _ _ _ hL _ _
  exact fnExactReadSegment_contract H enc W base args ds gs before hval hW hL

theorem fnExactReadSegment_said : Rows.FnExactReadSegmentSaid :=
  OpenClaim.holds_of_cond 5 Tryd.f5 rfl rfl rfl rfl rfl rfl rfl ⟨rfl, rfl, rfl, rfl, rfl⟩ rfl rfl rfl rfl rfl (by kernel_rfl) Tryd.func5 (by kernel_rfl)
    (of_decide_eq_true (by kernel_rfl)) (by unfold Func.isWrapper; first | (rw [if_pos (by decide +kernel)]; kernel_rfl) | (rw [if_neg (by decide +kernel)]; exact ⟨rfl, rfl⟩))
    (fun os started H enc _ F => by rw [OpenClaim.pre_eq_preRow]; exact fnExactReadSegment_lifted os started H enc F)

theorem fnExactReadSegment_plain (f : FuncId) (fn : Func) (hf : Tryd.pinned.checked.prog.funcNamed "loop.example/g00124/laws.FnExactReadSegment" = some f) (hfn : Tryd.pinned.checked.prog.funcs[f]? = some fn) :
    false = Tryd.pinned.checked.prog.looks [] ∧ ∀ (j : Nat) t, fn.params[j]? = some t → Tryd.pinned.checked.prog.wantsStandIn t = false := by
  obtain rfl : f = 5 := Option.some.inj ((show Tryd.prog.funcNamed "loop.example/g00124/laws.FnExactReadSegment" = some 5 by kernel_rfl).symm.trans hf) |>.symm
  obtain rfl : fn = Tryd.f5 := (Option.some.inj (Tryd.func5.symm.trans hfn)).symm
  refine ⟨by kernel_rfl, fun j t ht => ?_⟩
  rw [Tryd.params5] at ht
  have hm := Array.mem_of_getElem? ht
  simp only [List.mem_toArray, List.mem_cons, List.not_mem_nil, or_false] at hm
  rcases hm with rfl | rfl
  · exact (show Tryd.prog.wantsStandIn 3 = false by kernel_rfl)
  · exact (show Tryd.prog.wantsStandIn 9 = false by kernel_rfl)

/-- The given statement: the card. -/
theorem fnExactReadSegment_card : Rows.FnExactReadSegmentCardSaid :=
  Claim7.holds_tied_plain_at .later [] _ _ _ _ fnExactReadSegment_said (fun _ h => by cases h) (by kernel_rfl) (fun _ h => by cases h) fnExactReadSegment_row_tie rfl ⟨rfl, rfl⟩ (by kernel_rfl) rfl fnExactReadSegment_plain (by kernel_rfl)
#print axioms fnExactReadSegment_card
end Go.Proofs.YtijmlgdeeodehakDoor
