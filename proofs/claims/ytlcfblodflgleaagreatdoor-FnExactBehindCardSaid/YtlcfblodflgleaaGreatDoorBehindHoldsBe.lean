import Derived.Test.YtlcfblodflgleaaGreatDoorCards
import Derived.Test.YtlcfblodflgleaaGreatDoorTie
import Derived.WalkKit
import Derived.ProofKit
import Derived.OpenShut
import Derived.Carry
import Derived.Deep.DeepHandedRow
import Derived.Lib.LaidTab
import Derived.Stop.LaidErr
import Derived.ChangeOld
import Derived.Below
import Derived.Test.YtlcfblodflgleaaGreatDoorBe50
import Derived.Test.YtlcfblodflgleaaGreatDoorBe51
set_option maxRecDepth 100000
namespace Go.Proofs.YtlcfblodflgleaaGreatDoor
open Go.ChangeShapes Go.WideShapes Go.ChangeAt Go.RowKit
open Go.ChangeMaps (open_string shut_string)
theorem fnExactBehind_own : ownKnob Tryz.prog.godebug = none := by kernel_rfl
theorem fnExactBehind_g : Tryz.prog.globalNamed "loop.example/g00124/impl.halfByteSums" = some 0 := by kernel_rfl
theorem fnExactBehind_gt : (Tryz.prog.globals[0]?).map (·.type) = some 279 := by kernel_rfl
theorem fnExactBehind_cells : Tryz.prog.cellsOf 279 = 16 := by kernel_rfl
theorem fnExactBehind_cell : Tryz.prog.cellsOf 238 = 1 := by kernel_rfl
theorem fnExactBehind_tab : (Rows.laid_loop_example_g00124_impl_halfByteSums : DataW Unit) = Lib.tabData .u32 (htab.map Int.ofNat) := by kernel_rfl
theorem fnExactBehind_is {W : World} (h : laidMetH Tryz.prog Rows.fnExactBehindRow.laid W) : Lib.TabIs Tryz.prog W "loop.example/g00124/impl.halfByteSums" .u32 (htab.map Int.ofNat) := by
  have h1 : laidMet Tryz.prog ([("loop.example/g00124/impl.halfByteSums", Rows.laid_loop_example_g00124_impl_halfByteSums)]) W := laidMet.tail (laidMet.tail (laidMet.tail h))
  rw [fnExactBehind_tab] at h1
  exact Lib.tabIs_of_head (rest := []) fnExactBehind_g fnExactBehind_gt Tryz.underlying279 Tryz.underlying238 fnExactBehind_cell fnExactBehind_cells h1
theorem fnExactBehind_sumTab {W : World} (h : Lib.TabIs Tryz.prog W "loop.example/g00124/impl.halfByteSums" .u32 (htab.map Int.ofNat)) : SumTab W := by
  intro r hr
  have e : ∀ r, r < 16 → (htab.map Int.ofNat).getD r 0 = ((htab.getD r 0 : Nat) : Int) := by decide
  rw [← e r hr]
  exact h.cell fnExactBehind_g r (by simpa [htab] using hr)
theorem fnExactBehind_same1 {H : Type} {enc : TypeId × Value → H} {w w' : World} {sp sp' : Nat → Bool} (fuel : Nat) (cs : List Value) : DataW.trod enc Tryz.prog w 0 sp true fuel 238 cs = DataW.trod enc Tryz.prog w' 0 sp' true fuel 238 cs := by
  cases fuel with
  | zero => simp only [DataW.trod]
  | succ fuel =>
    simp only [DataW.trod, Tryz.underlying238]
    rcases cs with _ | ⟨v, _ | ⟨_, _⟩⟩
    · rfl
    · cases v <;> rfl
    · cases v <;> rfl
theorem fnExactBehind_same {H : Type} {enc : TypeId × Value → H} {w w' : World} {sp sp' : Nat → Bool} {fuel : Nat} {cs : List Value} : DataW.trod enc Tryz.prog w 0 sp true fuel 279 cs = DataW.trod enc Tryz.prog w' 0 sp' true fuel 279 cs := by
  cases fuel with
  | zero => simp only [DataW.trod]
  | succ fuel =>
    simp only [DataW.trod, Tryz.underlying279]
    rw [show DataW.trod enc Tryz.prog w 0 sp true fuel 238 = DataW.trod enc Tryz.prog w' 0 sp' true fuel 238 from funext (fnExactBehind_same1 fuel)]
theorem fnExactBehind_laidOut : laidOutB Tryz.prog = true := by kernel_rfl
theorem fnExactBehind_contract (H : Type) (enc : TypeId × Value → H) (W : World) (base : Nat) (args : Array Value) (ds gs : List (DataW H)) (before : List MemPlace)
    (hval : ∀ (j : Nat) t v, Tryz.f4.params[j]? = some t → args[j]? = some v → Value.okWide Tryz.prog W .any base t v)
    (hW : DataW.Whole enc Tryz.prog Tryz.f4.params.toList Rows.fnExactBehindSpec.vars false W args.toList ds gs before) (hL : laidMetH Tryz.prog Rows.fnExactBehindRow.laid W) :
    Calls Tryz.prog 4 args W fun e W' => ∃ v, e = .returned v ∧ Rows.fnExactBehindSpec.post enc Tryz.prog Tryz.f4 false true false false W args v W' := by
  have hW' := hW
  obtain ⟨p, q, hA0, hV, rfl, _, _⟩ := hW
  have hA : DataW.TrodAll enc Tryz.prog W 0 (fun _ => true) true Tryz.f4.params.toList args.toList ds p := hA0
  rw [Tryz.params4] at hA hval
  obtain ⟨v0, vs0, d0, ds0, p0, q0, hargs, rfl, rfl, h0, r0⟩ := trodAll_cons hA
  obtain ⟨v1, vs1, d1, ds1, p1, q1, rfl, rfl, rfl, h1, r1⟩ := trodAll_cons r0
  obtain ⟨v2, vs2, d2, ds2, p2, q2, rfl, rfl, rfl, h2, r2⟩ := trodAll_cons r1
  obtain ⟨v3, vs3, d3, ds3, p3, q3, rfl, rfl, rfl, h3, r3⟩ := trodAll_cons r2
  obtain ⟨rfl, rfl, rfl⟩ := trodAll_nil r3
  obtain rfl : args = #[v0, v1, v2, v3] := by cases args; simp_all
  have k0 := h0
  have lt0 : ∀ x ∈ p0, x.block < W.heap.size := by obtain ⟨m, hm⟩ := k0; exact DataW.trod_lt m _ _ _ hm
  obtain ⟨a0, x0, cap0, rm0, ac0, sq0, ad0, dr0, cd0, rfl, l0, f0, z0, l0', f0', z0'⟩ := engine_of (hval 0 27 v0 rfl rfl) h0
  have k1 := h1
  have lt1 : ∀ x ∈ p1, x.block < W.heap.size := by obtain ⟨m, hm⟩ := k1; exact DataW.trod_lt m _ _ _ hm
  obtain ⟨a1, x1, cap1, rfl, l1, f1, z1⟩ := acts_of (hval 1 44 v1 rfl rfl) h1
  obtain ⟨a2, rfl, rfl, rfl, w2⟩ := open_int Tryz.underlying3 (hval 2 3 v2 rfl rfl) h2
  have k3 := h3
  have lt3 : ∀ x ∈ p3, x.block < W.heap.size := by obtain ⟨m, hm⟩ := k3; exact DataW.trod_lt m _ _ _ hm
  obtain ⟨a3, x3, cap3, rfl, l3, f3, z3⟩ := ints_of (hval 3 45 v3 rfl rfl) h3
  have hTI := fnExactBehind_is hL
  obtain ⟨g', t', cs, fuel, dv, pv, rfl, hg', ht', hvar, htr, rfl⟩ := trodVars_one hV
  obtain rfl := Option.some.inj (fnExactBehind_g.symm.trans hg')
  obtain rfl := Option.some.inj (fnExactBehind_gt.symm.trans ht')
  clear hA0
  simp only [List.append_nil] at hW'
  refine (lawBehind x0 a0 ad0 cap0 cd0 rm0 ac0 sq0 dr0 x1 a1 cap1 a2 x3 a3 cap3 W l0 f0 z0 l0' f0' z0' l1 f1 z1 w2 l3 f3 z3 (fnExactBehind_sumTab hTI)).mono fun e W' ⟨he, bel⟩ => ?_
  subst he
  have hlt : 0 < W.heap.size := by
    rcases Nat.lt_or_ge 0 W.heap.size with h' | h'
    · exact h'
    · have e0 := fnExactBehind_sumTab hTI 0 (by decide)
      unfold World.cell? at e0
      rw [show W.heap[(⟨0, 0, none⟩ : Addr).block]? = none from Array.getElem?_eq_none h'] at e0
      cases e0
  exact ⟨_, rfl, _, _, _, [], _, _, hW', trodAll_mk1 (shut_bool Tryz.underlying4 _), (trodAll_cons_mk (Below.trod fnExactBehind_laidOut (by kernel_rfl) (of_decide_eq_true (by kernel_rfl)) k0 bel lt0) (trodAll_cons_mk (Below.trod fnExactBehind_laidOut (by kernel_rfl) (of_decide_eq_true (by kernel_rfl)) k1 bel lt1) (trodAll_cons_mk (shut_int Tryz.underlying3 w2) (trodAll_cons_mk (Below.trod fnExactBehind_laidOut (by kernel_rfl) (of_decide_eq_true (by kernel_rfl)) k3 bel lt3) trodAll_mk0)))), trodVars_mk1 fnExactBehind_g fnExactBehind_gt (var?_below bel fnExactBehind_g hlt hvar) (fnExactBehind_same.trans htr), bel.frame _, fun h => by cases h⟩
def fnExactBehind_dat (d : DataW Unit) : Array Value :=
  match d with
  | .agg l => (l.map fun x => match x with | .lit (.int k z) => Value.int k z | _ => undef).toArray
  | _ => #[]
def fnExactBehind_set (w : World) (g : Nat) (cs : Array Value) : World := { w with heap := w.heap.modify g fun | .cells _ t frozen => .cells cs t frozen | o => o }
def fnExactBehind_at (P : Program) (os : Os) (l : List (Nat × Array Value)) : World := l.foldl (fun w x => fnExactBehind_set w x.1 x.2) (World.holding P os ⟨#[], #[], []⟩)
def fnExactBehind_tabs : List (Nat × Array Value) := [(2, fnExactBehind_dat Rows.laid_math_bits_deBruijn32tab), (3, fnExactBehind_dat Rows.laid_math_bits_deBruijn64tab), (1, fnExactBehind_dat Rows.laid_internal_strconv_uint64pow10), (0, fnExactBehind_dat Rows.laid_loop_example_g00124_impl_halfByteSums)]
noncomputable def fnExactBehind_world (os : Os) : World := fnExactBehind_at Tryz.prog os fnExactBehind_tabs
theorem fnExactBehind_met (os : Os) : laidMet Tryz.prog Rows.fnExactBehindRow.laid ((fnExactBehind_world os).forCall (fun _ _ => 0) ⟨#[], #[.agg #[.slice none 0 0, .int .i64 0, .int .i64 0, .int .i64 0, .slice none 0 0], .slice none 0 0, .int .i64 0, .slice none 0 0], []⟩).memory :=
  laidMet_of_run' 8 (by kernel_rfl) (by kernel_rfl)
theorem fnExactBehind_reads (os : Os) {H : Type} (enc : TypeId × Value → H) : DataW.whole enc Tryz.prog ((fnExactBehind_world os).forCall (fun _ _ => 0) ⟨#[], #[.agg #[.slice none 0 0, .int .i64 0, .int .i64 0, .int .i64 0, .slice none 0 0], .slice none 0 0, .int .i64 0, .slice none 0 0], []⟩).memory Tryz.f4.params.toList Rows.fnExactBehindSpec.vars false #[Value.agg #[.slice none 0 0, .int .i64 0, .int .i64 0, .int .i64 0, .slice none 0 0], Value.slice none 0 0, Value.int .i64 0, Value.slice none 0 0].toList 8 = some ([.agg [.agg [.nil], .lit (.int .i64 0), .lit (.int .i64 0), .lit (.int .i64 0), .nil], .nil, .lit (.int .i64 0), .nil], [Rows.laid_loop_example_g00124_impl_halfByteSums], MemPlace.row ⟨0, 0, none⟩ 16) := by kernel_rfl
theorem fnExactBehind_lifted (os : Os) (started : os.Started) (H : Type) (enc : TypeId × Value → H) (F : Stop.Interp) :
    ReturnsInHanded {} Tryz.checked os 4 .any ((OpenSpec.ofChange Rows.fnExactBehindSpec).preRow enc Tryz.prog Tryz.f4 Rows.fnExactBehindRow.domain false Rows.fnExactBehindRow.laid) (((OpenSpec.ofChange Rows.fnExactBehindSpec).at F).post enc Tryz.prog Tryz.f4 false true false false) := by
  have hx := fnExactBehind_reads os enc
  refine returnsInHanded_of_row (C := Tryz.checked) (s := OpenSpec.ofChange Rows.fnExactBehindSpec) fnExactBehind_own started (by kernel_rfl) Tryz.func4
    (witness_row_at (enc := enc) (C := Tryz.checked) false (fnExactBehind_world os) #[.agg #[.slice none 0 0, .int .i64 0, .int .i64 0, .int .i64 0, .slice none 0 0], .slice none 0 0, .int .i64 0, .slice none 0 0] rfl (by kernel_rfl) (by kernel_rfl) (by kernel_rfl)
      (OpenSpec.preRow_of_cond 8 hx (by kernel_rfl) (fun k hk => by cases hk) (by kernel_rfl) (fnExactBehind_met os))) ?_
  intro W base args ds gs before hval hW _ _ _ hL _ _
  exact fnExactBehind_contract H enc W base args ds gs before hval hW hL
theorem fnExactBehind_said : Rows.FnExactBehindSaid :=
  OpenClaim.holds_of_cond 4 Tryz.f4 rfl rfl rfl rfl rfl rfl rfl ⟨rfl, rfl, rfl, rfl, rfl⟩ rfl rfl rfl rfl rfl (by kernel_rfl) Tryz.func4 (by kernel_rfl)
    (of_decide_eq_true (by kernel_rfl)) (by unfold Func.isWrapper; first | (rw [if_pos (by decide +kernel)]; kernel_rfl) | (rw [if_neg (by decide +kernel)]; exact ⟨rfl, rfl⟩))
    (fun os started H enc _ F => by rw [OpenClaim.pre_eq_preRow]; exact fnExactBehind_lifted os started H enc F)
theorem fnExactBehind_plain (f : FuncId) (fn : Func) (hf : Tryz.pinned.checked.prog.funcNamed "loop.example/g00124/laws.FnExactBehind" = some f) (hfn : Tryz.pinned.checked.prog.funcs[f]? = some fn) :
    false = Tryz.pinned.checked.prog.looks [] ∧ ∀ (j : Nat) t, fn.params[j]? = some t → Tryz.pinned.checked.prog.wantsStandIn t = false := by
  obtain rfl : f = 4 := Option.some.inj ((show Tryz.prog.funcNamed "loop.example/g00124/laws.FnExactBehind" = some 4 by kernel_rfl).symm.trans hf) |>.symm
  obtain rfl : fn = Tryz.f4 := (Option.some.inj (Tryz.func4.symm.trans hfn)).symm
  refine ⟨by kernel_rfl, fun j t ht => ?_⟩
  rw [Tryz.params4] at ht
  have hm := Array.mem_of_getElem? ht
  simp only [List.mem_toArray, List.mem_cons, List.not_mem_nil, or_false] at hm
  rcases hm with rfl | rfl | rfl | rfl
  · exact (show Tryz.prog.wantsStandIn 27 = false by kernel_rfl)
  · exact (show Tryz.prog.wantsStandIn 44 = false by kernel_rfl)
  · exact (show Tryz.prog.wantsStandIn 3 = false by kernel_rfl)
  · exact (show Tryz.prog.wantsStandIn 45 = false by kernel_rfl)
theorem fnExactBehind_card : Rows.FnExactBehindCardSaid :=
  Claim7.holds_tied_plain_at .later [] _ _ _ _ fnExactBehind_said (fun _ h => by cases h) (by kernel_rfl) (fun _ h => by cases h) fnExactBehind_row_tie rfl ⟨rfl, rfl⟩ (by kernel_rfl) rfl fnExactBehind_plain (by kernel_rfl)
#print axioms fnExactBehind_card
end Go.Proofs.YtlcfblodflgleaaGreatDoor
