import Derived.Test.YtifjneldjjmeaaaGreatDoorCards
import Derived.Test.YtifjneldjjmeaaaGreatDoorTie
import Derived.WalkKit
import Derived.ProofKit
import Derived.OpenShut
import Derived.Carry
import Derived.Deep.DeepHandedRow
import Derived.Lib.LaidTab
import Derived.Stop.LaidErr
import Derived.ChangeOld
import Derived.Below
import Derived.OpenVars
import Derived.Test.YtifjneldjjmeaaaGreatDoorLs13
set_option maxRecDepth 100000
namespace Go.Proofs.YtifjneldjjmeaaaGreatDoor
open Go.ChangeShapes Go.WideShapes Go.ChangeAt Go.RowKit
open Go.ChangeMaps (open_string shut_string)
theorem fnLists_own : ownKnob Tryz.prog.godebug = none := by kernel_rfl
theorem fnLists_gPow : Tryz.prog.globalNamed "internal/strconv.uint64pow10" = some 4 := by kernel_rfl
theorem fnLists_gPowType : (Tryz.prog.globals[4]?).map (·.type) = some 202 := by kernel_rfl
theorem fnLists_powCells : Tryz.prog.cellsOf 202 = 20 := by kernel_rfl
theorem fnLists_powCell : Tryz.prog.cellsOf 189 = 1 := by kernel_rfl
theorem fnLists_powEq : (Rows.laid_internal_strconv_uint64pow10 : DataW Unit) = Lib.tabData .u64 Lib.pow10Tab := by kernel_rfl
theorem fnLists_powTab {W : World} (h : laidMetH Tryz.prog Rows.fnListsRow.laid W) : Lib.TabIs Tryz.prog W "internal/strconv.uint64pow10" .u64 Lib.pow10Tab := by
  have h1 : laidMet Tryz.prog ([("internal/strconv.uint64pow10", Rows.laid_internal_strconv_uint64pow10), ("unicode/utf8.acceptRanges", Rows.laid_unicode_utf8_acceptRanges), ("strconv.ErrRange", Rows.laid_strconv_ErrRange), ("strconv.ErrSyntax", Rows.laid_strconv_ErrSyntax), ("loop.example/g00124/impl.errOtherCommand", Rows.laid_loop_example_g00124_impl_errOtherCommand), ("unicode/utf8.first", Rows.laid_unicode_utf8_first)]) W := laidMet.tail (laidMet.tail h)
  rw [fnLists_powEq] at h1
  exact Lib.tabIs_of_head (rest := [("unicode/utf8.acceptRanges", Rows.laid_unicode_utf8_acceptRanges), ("strconv.ErrRange", Rows.laid_strconv_ErrRange), ("strconv.ErrSyntax", Rows.laid_strconv_ErrSyntax), ("loop.example/g00124/impl.errOtherCommand", Rows.laid_loop_example_g00124_impl_errOtherCommand), ("unicode/utf8.first", Rows.laid_unicode_utf8_first)]) fnLists_gPow fnLists_gPowType Tryz.underlying202 Tryz.underlying189 fnLists_powCell fnLists_powCells h1
theorem fnLists_gES : Tryz.prog.globalNamed "strconv.ErrSyntax" = some 2 := by kernel_rfl
theorem fnLists_gESType : (Tryz.prog.globals[2]?).map (·.type) = some 100 := by kernel_rfl
theorem fnLists_gER : Tryz.prog.globalNamed "strconv.ErrRange" = some 3 := by kernel_rfl
theorem fnLists_gERType : (Tryz.prog.globals[3]?).map (·.type) = some 100 := by kernel_rfl
theorem fnLists_cellsE : Tryz.prog.cellsOf 211 = 1 := by kernel_rfl
theorem fnLists_cellsS : Tryz.prog.cellsOf 9 = 1 := by kernel_rfl
theorem fnLists_star : "*" ++ "errors.errorString" = "*errors.errorString" := by decide
theorem fnLists_row (u : TypeId) (h : Tryz.prog.typeName? 3 u = some "*errors.errorString") : u = 209 :=
  typeName_ptr_named (nm := "errors.errorString") (by rw [fnLists_star]; kernel_rfl) (by kernel_rfl) (by decide) u (by rw [fnLists_star]; exact h)
theorem fnLists_rvars {W : World} (h : laidMetH Tryz.prog Rows.fnListsRow.laid W) (hsh : W.ShapedOpen Tryz.prog) : RVars W := by
  have hs : laidMet Tryz.prog ([("strconv.ErrSyntax", Rows.laid_strconv_ErrSyntax), ("loop.example/g00124/impl.errOtherCommand", Rows.laid_loop_example_g00124_impl_errOtherCommand), ("unicode/utf8.first", Rows.laid_unicode_utf8_first)]) W := laidMet.tail (laidMet.tail (laidMet.tail (laidMet.tail (laidMet.tail h))))
  have hr : laidMet Tryz.prog ([("strconv.ErrRange", Rows.laid_strconv_ErrRange), ("strconv.ErrSyntax", Rows.laid_strconv_ErrSyntax), ("loop.example/g00124/impl.errOtherCommand", Rows.laid_loop_example_g00124_impl_errOtherCommand), ("unicode/utf8.first", Rows.laid_unicode_utf8_first)]) W := laidMet.tail (laidMet.tail (laidMet.tail (laidMet.tail h)))
  obtain ⟨a0, s0, hv0, -, -, -⟩ := laid_sentinel hs fnLists_gES fnLists_gESType Tryz.underlying100 fnLists_row Tryz.underlying209 Tryz.underlying211 rfl rfl Tryz.underlying9 fnLists_cellsE fnLists_cellsS
  obtain ⟨a1, s1, hv1, -, -, -⟩ := laid_sentinel hr fnLists_gER fnLists_gERType Tryz.underlying100 fnLists_row Tryz.underlying209 Tryz.underlying211 rfl rfl Tryz.underlying9 fnLists_cellsE fnLists_cellsS
  obtain ⟨m, hm⟩ := Go.Proofs.cell_of_shapedOpen_int (zero := #[.int .i64 0]) (t := 3) (g := 1) hsh (of_decide_eq_true (by kernel_rfl)) (by kernel_rfl) rfl (by kernel_rfl) (by kernel_rfl) Tryz.underlying3
  exact ⟨fnLists_powTab h, ⟨_, _, hv0⟩, ⟨_, _, hv1⟩, ⟨m, maxR_of hm⟩⟩
theorem fnLists_gO : Tryz.prog.globalNamed "loop.example/g00124/impl.errOtherCommand" = some 0 := by kernel_rfl
theorem fnLists_gOType : (Tryz.prog.globals[0]?).map (·.type) = some 100 := by kernel_rfl
theorem fnLists_oth {W : World} (h : laidMetH Tryz.prog Rows.fnListsRow.laid W) : ∃ x, OthV W x := by
  have ho : laidMet Tryz.prog ([("loop.example/g00124/impl.errOtherCommand", Rows.laid_loop_example_g00124_impl_errOtherCommand), ("unicode/utf8.first", Rows.laid_unicode_utf8_first)]) W := laidMet.tail (laidMet.tail (laidMet.tail (laidMet.tail (laidMet.tail (laidMet.tail h)))))
  obtain ⟨a, s, hv, -, -, -⟩ := laid_sentinel ho fnLists_gO fnLists_gOType Tryz.underlying100 fnLists_row Tryz.underlying209 Tryz.underlying211 rfl rfl Tryz.underlying9 fnLists_cellsE fnLists_cellsS
  refine ⟨_, ⟨a, rfl⟩, (by simpa using World.var?_cell fnLists_gO hv 0), ?_⟩
  rcases Nat.lt_or_ge 0 W.heap.size with h' | h'
  · exact h'
  · unfold World.var? at hv
    rw [fnLists_gO] at hv
    simp [Array.getElem?_eq_none h'] at hv
theorem fnLists_laidOut : laidOutB Tryz.prog = true := by kernel_rfl
theorem fnLists_contract (H : Type) (enc : TypeId × Value → H) (W : World) (base : Nat) (args : Array Value) (ds gs : List (DataW H)) (before : List MemPlace)
    (hval : ∀ (j : Nat) t v, Tryz.f5.params[j]? = some t → args[j]? = some v → Value.okWide Tryz.prog W .any base t v)
    (hW : DataW.Whole enc Tryz.prog Tryz.f5.params.toList Rows.fnListsSpec.vars false W args.toList ds gs before) (hL : laidMetH Tryz.prog Rows.fnListsRow.laid W) (hsh : W.ShapedOpen Tryz.prog) :
    Calls Tryz.prog 5 args W fun e W' => ∃ v, e = .returned v ∧ Rows.fnListsSpec.post enc Tryz.prog Tryz.f5 false true false false W args v W' := by
  have hW' := hW
  obtain ⟨p, q, hA0, hV, rfl, _, _⟩ := hW
  have hA : DataW.TrodAll enc Tryz.prog W 0 (fun _ => true) true Tryz.f5.params.toList args.toList ds p := hA0
  rw [Tryz.params5] at hA hval
  obtain ⟨v0, vs0, d0, ds0, p0, q0, hargs, rfl, rfl, h0, r0⟩ := trodAll_cons hA
  obtain ⟨rfl, rfl, rfl⟩ := trodAll_nil r0
  obtain rfl : args = #[v0] := by cases args; simp_all
  obtain ⟨a0, len0, cap0, rfl⟩ := okWide_slice Tryz.underlying22 (hval 0 22 v0 rfl rfl)
  have k0 := h0
  have lt0 : ∀ x ∈ p0, x.block < W.heap.size := by obtain ⟨m, hm⟩ := k0; exact DataW.trod_lt m _ _ _ hm
  have w0 : Code W a0 len0 := by
    obtain ⟨fuel0, hf⟩ := h0
    rcases open_ints Tryz.underlying22 Tryz.underlying5 (by kernel_rfl) hf with ⟨hcs, _⟩ | ⟨x, l, c, zs, hcs, _, hl, hm, hz, _, hcell, hwz⟩
    · simp [Value.cells] at hcs
      obtain ⟨rfl, rfl, rfl⟩ := hcs
      intro j hj; omega
    · simp [Value.cells] at hcs
      obtain ⟨rfl, rfl, rfl⟩ := hcs
      have hzl : zs.length = cap0 := by simpa using hz
      exact code_of (by omega) hcell hwz
  obtain ⟨X, hX⟩ := fnLists_oth hL
  obtain ⟨gv, rfl⟩ : ∃ d, gs = [d] := by
    obtain ⟨_, _, _, _, d, _, e, _⟩ := trodVars_one hV
    exact ⟨d, e⟩
  clear hA0
  simp only [List.append_nil] at hW'
  refine (lists_walk W X a0 len0 cap0 (fnLists_rvars hL hsh) hX (fun _ => w0)).mono fun e W' ⟨he, bel⟩ => ?_
  subst he
  exact ⟨_, rfl, _, _, _, [], _, _, hW', trodAll_mk1 (shut_bool Tryz.underlying4 _), (trodAll_cons_mk (Below.trod fnLists_laidOut (by kernel_rfl) (of_decide_eq_true (by kernel_rfl)) k0 bel lt0) trodAll_mk0), Below.trodVars fnLists_laidOut bel (by kernel_rfl) hV, bel.frame _, fun h => by cases h⟩
def fnLists_dat (d : DataW Unit) : Array Value :=
  match d with
  | .agg l => (l.flatMap fun x => match x with | .lit (.int k z) => [Value.int k z] | .agg m => m.map (fun y => match y with | .lit (.int k z) => Value.int k z | _ => undef) | _ => [undef]).toArray
  | _ => #[]
def fnLists_set (w : World) (g : Nat) (cs : Array Value) : World := { w with heap := w.heap.modify g fun | .cells _ t frozen => .cells cs t frozen | o => o }
def fnLists_at (P : Program) (os : Os) (l : List (Nat × Array Value)) : World := l.foldl (fun w x => fnLists_set w x.1 x.2) (World.holding P os ⟨#[.cells #[.string ⟨#[105, 110, 118, 97, 108, 105, 100, 32, 115, 121, 110, 116, 97, 120]⟩] 211, .cells #[.string ⟨#[118, 97, 108, 117, 101, 32, 111, 117, 116, 32, 111, 102, 32, 114, 97, 110, 103, 101]⟩] 211, .cells #[.string ⟨#[110, 111, 32, 99, 111, 109, 109, 97, 110, 100, 32, 111, 102, 32, 116, 104, 105, 115, 32, 108, 97, 121, 101, 114]⟩] 211], #[], []⟩)
def fnLists_tabs : List (Nat × Array Value) := [(7, fnLists_dat Rows.laid_math_bits_deBruijn32tab), (8, fnLists_dat Rows.laid_math_bits_deBruijn64tab), (4, fnLists_dat Rows.laid_internal_strconv_uint64pow10), (6, fnLists_dat Rows.laid_unicode_utf8_acceptRanges), (5, fnLists_dat Rows.laid_unicode_utf8_first)]
noncomputable def fnLists_low : Nat := (World.holding Tryz.prog default ⟨#[], #[], []⟩).heap.size
noncomputable def fnLists_world (os : Os) : World := fnLists_set (fnLists_set (fnLists_set (fnLists_at Tryz.prog os fnLists_tabs) 2 #[.iface 209 (.pointer (some ⟨fnLists_low, 0, none⟩))]) 3 #[.iface 209 (.pointer (some ⟨fnLists_low + 1, 0, none⟩))]) 0 #[.iface 209 (.pointer (some ⟨fnLists_low + 2, 0, none⟩))]
theorem fnLists_met (os : Os) : laidMet Tryz.prog Rows.fnListsRow.laid ((fnLists_world os).forCall (fun _ _ => 0) ⟨#[], #[.slice none 0 0], []⟩).memory :=
  laidMet_of_run' 8 (by kernel_rfl) (by kernel_rfl)
theorem fnLists_reads (os : Os) {H : Type} (enc : TypeId × Value → H) : DataW.whole enc Tryz.prog ((fnLists_world os).forCall (fun _ _ => 0) ⟨#[], #[.slice none 0 0], []⟩).memory Tryz.f5.params.toList Rows.fnListsSpec.vars false #[Value.slice none 0 0].toList 8 = some ([.nil], [.held (enc (209, .pointer (some ⟨fnLists_low + 2, 0, none⟩)))], MemPlace.row ⟨0, 0, none⟩ 1) := by kernel_rfl
theorem fnLists_lifted (os : Os) (started : os.Started) (H : Type) (enc : TypeId × Value → H) (F : Stop.Interp) :
    ReturnsInHanded {} Tryz.checked os 5 .any ((OpenSpec.ofChange Rows.fnListsSpec).preRow enc Tryz.prog Tryz.f5 Rows.fnListsRow.domain false Rows.fnListsRow.laid) (((OpenSpec.ofChange Rows.fnListsSpec).at F).post enc Tryz.prog Tryz.f5 false true false false) := by
  have hx := fnLists_reads os enc
  refine returnsInHanded_of_row (C := Tryz.checked) (s := OpenSpec.ofChange Rows.fnListsSpec) fnLists_own started (by kernel_rfl) Tryz.func5
    (witness_row_at (enc := enc) (C := Tryz.checked) false (fnLists_world os) #[.slice none 0 0] rfl (by kernel_rfl) (by kernel_rfl) (by kernel_rfl)
      (OpenSpec.preRow_of_cond 8 hx (by kernel_rfl) (fun k hk => by cases hk) (by kernel_rfl) (fnLists_met os))) ?_
  intro W base args ds gs before hval hW _ _ _ hL hsh _
  exact fnLists_contract H enc W base args ds gs before hval hW hL hsh
theorem fnLists_said : Rows.FnListsSaid :=
  OpenClaim.holds_of_cond 5 Tryz.f5 rfl rfl rfl rfl rfl rfl rfl ⟨rfl, rfl, rfl, rfl, rfl⟩ rfl rfl rfl rfl rfl (by kernel_rfl) Tryz.func5 (by kernel_rfl)
    (of_decide_eq_true (by kernel_rfl)) (by unfold Func.isWrapper; first | (rw [if_pos (by decide +kernel)]; kernel_rfl) | (rw [if_neg (by decide +kernel)]; exact ⟨rfl, rfl⟩))
    (fun os started H enc _ F => by rw [OpenClaim.pre_eq_preRow]; exact fnLists_lifted os started H enc F)
theorem fnLists_plain (f : FuncId) (fn : Func) (hf : Tryz.pinned.checked.prog.funcNamed "loop.example/g00124/laws.FnLists" = some f) (hfn : Tryz.pinned.checked.prog.funcs[f]? = some fn) :
    true = Tryz.pinned.checked.prog.looks [] ∧ ∀ (j : Nat) t, fn.params[j]? = some t → Tryz.pinned.checked.prog.wantsStandIn t = false := by
  obtain rfl : f = 5 := Option.some.inj ((show Tryz.prog.funcNamed "loop.example/g00124/laws.FnLists" = some 5 by kernel_rfl).symm.trans hf) |>.symm
  obtain rfl : fn = Tryz.f5 := (Option.some.inj (Tryz.func5.symm.trans hfn)).symm
  refine ⟨by kernel_rfl, fun j t ht => ?_⟩
  rw [Tryz.params5] at ht
  obtain rfl : t = 22 := by simpa using Array.mem_of_getElem? ht
  exact (show Tryz.prog.wantsStandIn 22 = false by kernel_rfl)
theorem fnLists_card : Rows.FnListsCardSaid :=
  Claim7.holds_tied_plain_at .later [] _ _ _ _ fnLists_said (fun _ h => by cases h) (by kernel_rfl) (fun _ h => by cases h) fnLists_row_tie rfl ⟨rfl, rfl⟩ (by kernel_rfl) rfl fnLists_plain (by kernel_rfl)
#print axioms fnLists_card
end Go.Proofs.YtifjneldjjmeaaaGreatDoor
