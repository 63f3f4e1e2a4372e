/- 'FnSegments': for every argument the law returns true, and each argument reads behind the call as it read before; the tables that the row lists are as the program's text lays them, and the card ties them to that text. -/
import Derived.Test.YtijmlgdeeodehabDoorCards
import Derived.Test.YtijmlgdeeodehabDoorTie
import Derived.Test.YtijmlgdeeodehabDoorLawSegs
import Derived.Test.YtijmlgdeeodehabDoorCodeOf
import Derived.WalkKit
import Derived.ProofKit
import Derived.OpenShut
import Derived.Carry
import Derived.Deep.DeepHandedRow
import Derived.Lib.LaidTab
import Derived.Stop.LaidErr
import Derived.ChangeOld
import Derived.Below
namespace Go.Proofs.YtijmlgdeeodehabDoor
open Go.ChangeShapes Go.WideShapes Go.ChangeAt Go.RowKit
open Go.ChangeMaps (open_string shut_string)

theorem fnSegments_own : ownKnob Tryd.prog.godebug = none := by kernel_rfl
theorem fnSegments_g : Tryd.prog.globalNamed "loop.example/g00124/impl.halfByteSums" = some 0 := by kernel_rfl
theorem fnSegments_gt : (Tryd.prog.globals[0]?).map (·.type) = some 145 := by kernel_rfl
theorem fnSegments_cells : Tryd.prog.cellsOf 145 = 16 := by kernel_rfl
theorem fnSegments_cell : Tryd.prog.cellsOf 87 = 1 := by kernel_rfl
theorem fnSegments_tab : (Rows.laid_loop_example_g00124_impl_halfByteSums : DataW Unit) = Lib.tabData .u32 (htab.map Int.ofNat) := by kernel_rfl

/-- What the row's list gives: the table holds its numbers. -/
theorem fnSegments_is {W : World} (h : laidMetH Tryd.prog Rows.fnSegmentsRow.laid W) : Lib.TabIs Tryd.prog W "loop.example/g00124/impl.halfByteSums" .u32 (htab.map Int.ofNat) := by
  have h1 : laidMet Tryd.prog ([("loop.example/g00124/impl.halfByteSums", Rows.laid_loop_example_g00124_impl_halfByteSums)]) W := laidMet.tail (laidMet.tail (laidMet.tail h))
  rw [fnSegments_tab] at h1
  exact Lib.tabIs_of_head (rest := []) fnSegments_g fnSegments_gt Tryd.underlying145 Tryd.underlying87 fnSegments_cell fnSegments_cells h1
theorem fnSegments_sumTab {W : World} (h : Lib.TabIs Tryd.prog W "loop.example/g00124/impl.halfByteSums" .u32 (htab.map Int.ofNat)) : SumTab W := by
  intro r hr
  have e : ∀ r, r < 16 → (htab.map Int.ofNat).getD r 0 = ((htab.getD r 0 : Nat) : Int) := by decide
  rw [← e r hr]
  exact h.cell fnSegments_g r (by simpa [htab] using hr)
/-- A number, and a row of numbers, reads the same in every world. -/
theorem fnSegments_same1 {H : Type} {enc : TypeId × Value → H} {w w' : World} {sp sp' : Nat → Bool} (fuel : Nat) (cs : List Value) : DataW.trod enc Tryd.prog w 0 sp true fuel 87 cs = DataW.trod enc Tryd.prog w' 0 sp' true fuel 87 cs := by
  cases fuel with
  | zero => simp only [DataW.trod]
  | succ fuel =>
    simp only [DataW.trod, Tryd.underlying87]
    rcases cs with _ | ⟨v, _ | ⟨_, _⟩⟩
    · rfl
    · cases v <;> rfl
    · cases v <;> rfl
theorem fnSegments_same {H : Type} {enc : TypeId × Value → H} {w w' : World} {sp sp' : Nat → Bool} {fuel : Nat} {cs : List Value} : DataW.trod enc Tryd.prog w 0 sp true fuel 145 cs = DataW.trod enc Tryd.prog w' 0 sp' true fuel 145 cs := by
  cases fuel with
  | zero => simp only [DataW.trod]
  | succ fuel =>
    simp only [DataW.trod, Tryd.underlying145]
    rw [show DataW.trod enc Tryd.prog w 0 sp true fuel 87 = DataW.trod enc Tryd.prog w' 0 sp' true fuel 87 from funext (fnSegments_same1 fuel)]

theorem fnSegments_laidOut : laidOutB Tryd.prog = true := by kernel_rfl
set_option maxRecDepth 100000 in
theorem fnSegments_contract (H : Type) (enc : TypeId × Value → H) (W : World) (base : Nat) (args : Array Value) (ds gs : List (DataW H)) (before : List MemPlace)
    (hval : ∀ (j : Nat) t v, Tryd.f3.params[j]? = some t → args[j]? = some v → Value.okWide Tryd.prog W .any base t v)
    (hW : DataW.Whole enc Tryd.prog Tryd.f3.params.toList Rows.fnSegmentsSpec.vars false W args.toList ds gs before) (hL : laidMetH Tryd.prog Rows.fnSegmentsRow.laid W) :
    Calls Tryd.prog 3 args W fun e W' => ∃ v, e = .returned v ∧ Rows.fnSegmentsSpec.post enc Tryd.prog Tryd.f3 false true false false W args v W' := by
  have hW' := hW
  obtain ⟨p, q, hA0, hV, rfl, _, _⟩ := hW
  have hA : DataW.TrodAll enc Tryd.prog W 0 (fun _ => true) true Tryd.f3.params.toList args.toList ds p := hA0
  rw [Tryd.params3] at hA hval
  obtain ⟨v0, vs0, d0, ds0, p0, q0, hargs, rfl, rfl, h0, r0⟩ := trodAll_cons hA
  obtain ⟨rfl, rfl, rfl⟩ := trodAll_nil r0
  obtain rfl : args = #[v0] := by cases args; simp_all
  obtain ⟨a0, len0, cap0, rfl⟩ := okWide_slice Tryd.underlying22 (hval 0 22 v0 rfl rfl)
  have k0 := h0
  have lt0 : ∀ x ∈ p0, x.block < W.heap.size := by obtain ⟨m, hm⟩ := k0; exact DataW.trod_lt m _ _ _ hm
  have w0 : Code W a0 len0 := by
    obtain ⟨fuel0, hf⟩ := h0
    rcases open_ints Tryd.underlying22 Tryd.underlying5 (by kernel_rfl) hf with ⟨hcs, _⟩ | ⟨x, l, c, zs, hcs, _, hl, hm, hz, _, hcell, hwz⟩
    · simp [Value.cells] at hcs
      obtain ⟨rfl, rfl, rfl⟩ := hcs
      intro j hj; omega
    · simp [Value.cells] at hcs
      obtain ⟨rfl, rfl, rfl⟩ := hcs
      have hzl : zs.length = cap0 := by simpa using hz
      exact code_of (by omega) hcell hwz
  have hTI := fnSegments_is hL
  obtain ⟨g', t', cs, fuel, dv, pv, rfl, hg', ht', hvar, htr, rfl⟩ := trodVars_one hV
  obtain rfl := Option.some.inj (fnSegments_g.symm.trans hg')
  obtain rfl := Option.some.inj (fnSegments_gt.symm.trans ht')
  clear hA0
  simp only [List.append_nil] at hW'
  refine (segments_walk W a0 len0 cap0 (fun _ => w0) (fnSegments_sumTab hTI)).mono fun e W' ⟨he, bel⟩ => ?_
  subst he
  have hlt : 0 < W.heap.size := by
    rcases Nat.lt_or_ge 0 W.heap.size with h' | h'
    · exact h'
    · have e0 := fnSegments_sumTab hTI 0 (by decide)
      unfold World.cell? at e0
      rw [show W.heap[(⟨0, 0, none⟩ : Addr).block]? = none from Array.getElem?_eq_none h'] at e0
      cases e0
  exact ⟨_, rfl, _, _, _, [], _, _, hW', trodAll_mk1 (shut_bool Tryd.underlying4 _), (trodAll_cons_mk (Below.trod fnSegments_laidOut (by kernel_rfl) (of_decide_eq_true (by kernel_rfl)) k0 bel lt0) trodAll_mk0), trodVars_mk1 fnSegments_g fnSegments_gt (var?_below bel fnSegments_g hlt hvar) (fnSegments_same.trans htr), bel.frame _, fun h => by cases h⟩

/-- A world for the witness: the settled one, the tables as the text lays them. -/
def fnSegments_dat (d : DataW Unit) : Array Value :=
  match d with
  | .agg l => (l.map fun x => match x with | .lit (.int k z) => Value.int k z | _ => undef).toArray
  | _ => #[]
def fnSegments_set (w : World) (g : Nat) (cs : Array Value) : World := { w with heap := w.heap.modify g fun | .cells _ t frozen => .cells cs t frozen | o => o }
def fnSegments_at (P : Program) (os : Os) (l : List (Nat × Array Value)) : World := l.foldl (fun w x => fnSegments_set w x.1 x.2) (World.holding P os ⟨#[], #[], []⟩)
def fnSegments_tabs : List (Nat × Array Value) := [(2, fnSegments_dat Rows.laid_math_bits_deBruijn32tab), (3, fnSegments_dat Rows.laid_math_bits_deBruijn64tab), (1, fnSegments_dat Rows.laid_internal_strconv_uint64pow10), (0, fnSegments_dat Rows.laid_loop_example_g00124_impl_halfByteSums)]
noncomputable def fnSegments_world (os : Os) : World := fnSegments_at Tryd.prog os fnSegments_tabs
theorem fnSegments_met (os : Os) : laidMet Tryd.prog Rows.fnSegmentsRow.laid ((fnSegments_world os).forCall (fun _ _ => 0) ⟨#[], #[.slice none 0 0], []⟩).memory :=
  laidMet_of_run' 8 (by kernel_rfl) (by kernel_rfl)
theorem fnSegments_reads (os : Os) {H : Type} (enc : TypeId × Value → H) : DataW.whole enc Tryd.prog ((fnSegments_world os).forCall (fun _ _ => 0) ⟨#[], #[.slice none 0 0], []⟩).memory Tryd.f3.params.toList Rows.fnSegmentsSpec.vars false #[Value.slice none 0 0].toList 8 = some ([.nil], [Rows.laid_loop_example_g00124_impl_halfByteSums], MemPlace.row ⟨0, 0, none⟩ 16) := by kernel_rfl

set_option maxRecDepth 100000 in
theorem fnSegments_lifted (os : Os) (started : os.Started) (H : Type) (enc : TypeId × Value → H) (F : Stop.Interp) :
    ReturnsInHanded {} Tryd.checked os 3 .any ((OpenSpec.ofChange Rows.fnSegmentsSpec).preRow enc Tryd.prog Tryd.f3 Rows.fnSegmentsRow.domain false Rows.fnSegmentsRow.laid) (((OpenSpec.ofChange Rows.fnSegmentsSpec).at F).post enc Tryd.prog Tryd.f3 false true false false) := by
  have hx := fnSegments_reads os enc
  refine returnsInHanded_of_row (C := Tryd.checked) (s := OpenSpec.ofChange Rows.fnSegmentsSpec) fnSegments_own started (by kernel_rfl) Tryd.func3
    (witness_row_at (enc := enc) (C := Tryd.checked) false (fnSegments_world os) #[.slice none 0 0] rfl (by kernel_rfl) (by kernel_rfl) (by kernel_rfl)
      (OpenSpec.preRow_of_cond 8 hx (by kernel_rfl) (fun k hk => by cases hk) (by kernel_rfl) (fnSegments_met os))) ?_
  intro W base args ds gs before hval hW _ _ _ hL _ _
  exact fnSegments_contract H enc W base args ds gs before hval hW hL

theorem fnSegments_said : Rows.FnSegmentsSaid :=
  OpenClaim.holds_of_cond 3 Tryd.f3 rfl rfl rfl rfl rfl rfl rfl ⟨rfl, rfl, rfl, rfl, rfl⟩ rfl rfl rfl rfl rfl (by kernel_rfl) Tryd.func3 (by kernel_rfl)
    (of_decide_eq_true (by kernel_rfl)) (by unfold Func.isWrapper; first | (rw [if_pos (by decide +kernel)]; kernel_rfl) | (rw [if_neg (by decide +kernel)]; exact ⟨rfl, rfl⟩))
    (fun os started H enc _ F => by rw [OpenClaim.pre_eq_preRow]; exact fnSegments_lifted os started H enc F)

theorem fnSegments_plain (f : FuncId) (fn : Func) (hf : Tryd.pinned.checked.prog.funcNamed "loop.example/g00124/laws.FnSegments" = some f) (hfn : Tryd.pinned.checked.prog.funcs[f]? = some fn) :
    false = Tryd.pinned.checked.prog.looks [] ∧ ∀ (j : Nat) t, fn.params[j]? = some t → Tryd.pinned.checked.prog.wantsStandIn t = false := by
  obtain rfl : f = 3 := Option.some.inj ((show Tryd.prog.funcNamed "loop.example/g00124/laws.FnSegments" = some 3 by kernel_rfl).symm.trans hf) |>.symm
  obtain rfl : fn = Tryd.f3 := (Option.some.inj (Tryd.func3.symm.trans hfn)).symm
  refine ⟨by kernel_rfl, fun j t ht => ?_⟩
  rw [Tryd.params3] at ht
  obtain rfl : t = 22 := by simpa using Array.mem_of_getElem? ht
  exact (show Tryd.prog.wantsStandIn 22 = false by kernel_rfl)

/-- The given statement: the card. -/
theorem fnSegments_card : Rows.FnSegmentsCardSaid :=
  Claim7.holds_tied_plain_at .later [] _ _ _ _ fnSegments_said (fun _ h => by cases h) (by kernel_rfl) (fun _ h => by cases h) fnSegments_row_tie rfl ⟨rfl, rfl⟩ (by kernel_rfl) rfl fnSegments_plain (by kernel_rfl)
#print axioms fnSegments_card
end Go.Proofs.YtijmlgdeeodehabDoor
