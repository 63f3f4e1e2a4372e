import Derived.Test.YtpibnhodlojajaaDoorCards
import Derived.Test.YtpibnhodlojajaaDoorTie
import Derived.WalkKit
import Derived.ProofKit
import Derived.OpenShut
import Derived.Carry
import Derived.Deep.DeepHandedRow
import Derived.Lib.LaidTab
import Derived.Stop.LaidErr
import Derived.ChangeOld
import Derived.Below
import Derived.Test.YtpibnhodlojajaaDoorAr7
set_option maxRecDepth 100000
namespace Go.Proofs.YtpibnhodlojajaaDoor
open Go.ChangeShapes Go.WideShapes Go.ChangeAt Go.RowKit
open Go.ChangeMaps (open_string shut_string)
theorem fnArities_own : ownKnob Tryd.prog.godebug = none := by kernel_rfl
theorem fnArities_gPow : Tryd.prog.globalNamed "internal/strconv.uint64pow10" = some 2 := by kernel_rfl
theorem fnArities_gPowType : (Tryd.prog.globals[2]?).map (·.type) = some 110 := by kernel_rfl
theorem fnArities_powCells : Tryd.prog.cellsOf 110 = 20 := by kernel_rfl
theorem fnArities_powCell : Tryd.prog.cellsOf 87 = 1 := by kernel_rfl
theorem fnArities_powEq : (Rows.laid_internal_strconv_uint64pow10 : DataW Unit) = Lib.tabData .u64 Lib.pow10Tab := by kernel_rfl
theorem fnArities_powTab {W : World} (h : laidMetH Tryd.prog Rows.fnAritiesRow.laid W) : Lib.TabIs Tryd.prog W "internal/strconv.uint64pow10" .u64 Lib.pow10Tab := by
  have h1 : laidMet Tryd.prog ([("internal/strconv.uint64pow10", Rows.laid_internal_strconv_uint64pow10), ("unicode/utf8.acceptRanges", Rows.laid_unicode_utf8_acceptRanges), ("strconv.ErrRange", Rows.laid_strconv_ErrRange), ("strconv.ErrSyntax", Rows.laid_strconv_ErrSyntax), ("unicode/utf8.first", Rows.laid_unicode_utf8_first)]) W := laidMet.tail (laidMet.tail h)
  rw [fnArities_powEq] at h1
  exact Lib.tabIs_of_head (rest := [("unicode/utf8.acceptRanges", Rows.laid_unicode_utf8_acceptRanges), ("strconv.ErrRange", Rows.laid_strconv_ErrRange), ("strconv.ErrSyntax", Rows.laid_strconv_ErrSyntax), ("unicode/utf8.first", Rows.laid_unicode_utf8_first)]) fnArities_gPow fnArities_gPowType Tryd.underlying110 Tryd.underlying87 fnArities_powCell fnArities_powCells h1
theorem fnArities_gES : Tryd.prog.globalNamed "strconv.ErrSyntax" = some 0 := by kernel_rfl
theorem fnArities_gESType : (Tryd.prog.globals[0]?).map (·.type) = some 56 := by kernel_rfl
theorem fnArities_gER : Tryd.prog.globalNamed "strconv.ErrRange" = some 1 := by kernel_rfl
theorem fnArities_gERType : (Tryd.prog.globals[1]?).map (·.type) = some 56 := by kernel_rfl
theorem fnArities_cellsE : Tryd.prog.cellsOf 99 = 1 := by kernel_rfl
theorem fnArities_cellsS : Tryd.prog.cellsOf 9 = 1 := by kernel_rfl
theorem fnArities_star : "*" ++ "errors.errorString" = "*errors.errorString" := by decide
theorem fnArities_row (u : TypeId) (h : Tryd.prog.typeName? 3 u = some "*errors.errorString") : u = 97 :=
  typeName_ptr_named (nm := "errors.errorString") (by rw [fnArities_star]; kernel_rfl) (by kernel_rfl) (by decide) u (by rw [fnArities_star]; exact h)
theorem fnArities_rvars {W : World} (h : laidMetH Tryd.prog Rows.fnAritiesRow.laid W) (hsh : W.ShapedOpen Tryd.prog) : RVars W := by
  have hs : laidMet Tryd.prog ([("strconv.ErrSyntax", Rows.laid_strconv_ErrSyntax), ("unicode/utf8.first", Rows.laid_unicode_utf8_first)]) W := laidMet.tail (laidMet.tail (laidMet.tail (laidMet.tail (laidMet.tail h))))
  have hr : laidMet Tryd.prog ([("strconv.ErrRange", Rows.laid_strconv_ErrRange), ("strconv.ErrSyntax", Rows.laid_strconv_ErrSyntax), ("unicode/utf8.first", Rows.laid_unicode_utf8_first)]) W := laidMet.tail (laidMet.tail (laidMet.tail (laidMet.tail h)))
  obtain ⟨a0, s0, hv0, -, -, -⟩ := laid_sentinel hs fnArities_gES fnArities_gESType Tryd.underlying56 fnArities_row Tryd.underlying97 Tryd.underlying99 rfl rfl Tryd.underlying9 fnArities_cellsE fnArities_cellsS
  obtain ⟨a1, s1, hv1, -, -, -⟩ := laid_sentinel hr fnArities_gER fnArities_gERType Tryd.underlying56 fnArities_row Tryd.underlying97 Tryd.underlying99 rfl rfl Tryd.underlying9 fnArities_cellsE fnArities_cellsS
  obtain ⟨m, hm⟩ := Go.Proofs.cell_of_shapedOpen_int (zero := #[.int .i64 0]) (t := 3) (g := 5) hsh (of_decide_eq_true (by kernel_rfl)) (by kernel_rfl) rfl (by kernel_rfl) (by kernel_rfl) Tryd.underlying3
  exact ⟨fnArities_powTab h, ⟨_, _, hv0⟩, ⟨_, _, hv1⟩, ⟨m, maxR_of hm⟩⟩
theorem fnArities_laidOut : laidOutB Tryd.prog = true := by kernel_rfl
theorem fnArities_contract (H : Type) (enc : TypeId × Value → H) (W : World) (base : Nat) (args : Array Value) (ds gs : List (DataW H)) (before : List MemPlace)
    (hval : ∀ (j : Nat) t v, Tryd.f4.params[j]? = some t → args[j]? = some v → Value.okWide Tryd.prog W .any base t v)
    (hW : DataW.Whole enc Tryd.prog Tryd.f4.params.toList Rows.fnAritiesSpec.vars false W args.toList ds gs before) (hL : laidMetH Tryd.prog Rows.fnAritiesRow.laid W) (hsh : W.ShapedOpen Tryd.prog) :
    Calls Tryd.prog 4 args W fun e W' => ∃ v, e = .returned v ∧ Rows.fnAritiesSpec.post enc Tryd.prog Tryd.f4 false true false false W args v W' := by
  have hW' := hW
  obtain ⟨p, q, hA0, hV, rfl, _, _⟩ := hW
  have hA : DataW.TrodAll enc Tryd.prog W 0 (fun _ => true) true Tryd.f4.params.toList args.toList ds p := hA0
  rw [Tryd.params4] at hA hval
  obtain ⟨v0, vs0, d0, ds0, p0, q0, hargs, rfl, rfl, h0, r0⟩ := trodAll_cons hA
  obtain ⟨rfl, rfl, rfl⟩ := trodAll_nil r0
  obtain rfl : args = #[v0] := by cases args; simp_all
  obtain ⟨a0, len0, cap0, rfl⟩ := okWide_slice Tryd.underlying25 (hval 0 25 v0 rfl rfl)
  have k0 := h0
  have lt0 : ∀ x ∈ p0, x.block < W.heap.size := by obtain ⟨m, hm⟩ := k0; exact DataW.trod_lt m _ _ _ hm
  have w0 : Code W a0 len0 := by
    obtain ⟨fuel0, hf⟩ := h0
    rcases open_ints Tryd.underlying25 Tryd.underlying5 (by kernel_rfl) hf with ⟨hcs, _⟩ | ⟨x, l, c, zs, hcs, _, hl, hm, hz, _, hcell, hwz⟩
    · simp [Value.cells] at hcs
      obtain ⟨rfl, rfl, rfl⟩ := hcs
      intro j hj; omega
    · simp [Value.cells] at hcs
      obtain ⟨rfl, rfl, rfl⟩ := hcs
      have hzl : zs.length = cap0 := by simpa using hz
      exact code_of (by omega) hcell hwz
  obtain ⟨rfl, rfl⟩ := trodVars_none hV
  clear hA0
  simp only [List.append_nil] at hW'
  refine (arities_walk W a0 len0 cap0 (fnArities_rvars hL hsh) (fun _ => w0)).mono fun e W' ⟨he, bel⟩ => ?_
  subst he
  exact ⟨_, rfl, _, _, _, [], _, [], hW', trodAll_mk1 (shut_bool Tryd.underlying4 _), (trodAll_cons_mk (Below.trod fnArities_laidOut (by kernel_rfl) (of_decide_eq_true (by kernel_rfl)) k0 bel lt0) trodAll_mk0), rfl, bel.frame _, fun h => by cases h⟩
def fnArities_dat (d : DataW Unit) : Array Value :=
  match d with
  | .agg l => (l.flatMap fun x => match x with | .lit (.int k z) => [Value.int k z] | .agg m => m.map (fun y => match y with | .lit (.int k z) => Value.int k z | _ => undef) | _ => [undef]).toArray
  | _ => #[]
def fnArities_set (w : World) (g : Nat) (cs : Array Value) : World := { w with heap := w.heap.modify g fun | .cells _ t frozen => .cells cs t frozen | o => o }
def fnArities_at (P : Program) (os : Os) (l : List (Nat × Array Value)) : World := l.foldl (fun w x => fnArities_set w x.1 x.2) (World.holding P os ⟨#[.cells #[.string ⟨#[105, 110, 118, 97, 108, 105, 100, 32, 115, 121, 110, 116, 97, 120]⟩] 99, .cells #[.string ⟨#[118, 97, 108, 117, 101, 32, 111, 117, 116, 32, 111, 102, 32, 114, 97, 110, 103, 101]⟩] 99], #[], []⟩)
def fnArities_tabs : List (Nat × Array Value) := [(6, fnArities_dat Rows.laid_math_bits_deBruijn32tab), (7, fnArities_dat Rows.laid_math_bits_deBruijn64tab), (2, fnArities_dat Rows.laid_internal_strconv_uint64pow10), (4, fnArities_dat Rows.laid_unicode_utf8_acceptRanges), (3, fnArities_dat Rows.laid_unicode_utf8_first)]
noncomputable def fnArities_low : Nat := (World.holding Tryd.prog default ⟨#[], #[], []⟩).heap.size
noncomputable def fnArities_world (os : Os) : World := fnArities_set (fnArities_set (fnArities_at Tryd.prog os fnArities_tabs) 0 #[.iface 97 (.pointer (some ⟨fnArities_low, 0, none⟩))]) 1 #[.iface 97 (.pointer (some ⟨fnArities_low + 1, 0, none⟩))]
theorem fnArities_met (os : Os) : laidMet Tryd.prog Rows.fnAritiesRow.laid ((fnArities_world os).forCall (fun _ _ => 0) ⟨#[], #[.slice none 0 0], []⟩).memory :=
  laidMet_of_run' 8 (by kernel_rfl) (by kernel_rfl)
theorem fnArities_reads (os : Os) {H : Type} (enc : TypeId × Value → H) : DataW.whole enc Tryd.prog ((fnArities_world os).forCall (fun _ _ => 0) ⟨#[], #[.slice none 0 0], []⟩).memory Tryd.f4.params.toList Rows.fnAritiesSpec.vars false #[Value.slice none 0 0].toList 8 = some ([.nil], [], []) := by kernel_rfl
theorem fnArities_lifted (os : Os) (started : os.Started) (H : Type) (enc : TypeId × Value → H) (F : Stop.Interp) :
    ReturnsInHanded {} Tryd.checked os 4 .any ((OpenSpec.ofChange Rows.fnAritiesSpec).preRow enc Tryd.prog Tryd.f4 Rows.fnAritiesRow.domain false Rows.fnAritiesRow.laid) (((OpenSpec.ofChange Rows.fnAritiesSpec).at F).post enc Tryd.prog Tryd.f4 false true false false) := by
  have hx := fnArities_reads os enc
  refine returnsInHanded_of_row (C := Tryd.checked) (s := OpenSpec.ofChange Rows.fnAritiesSpec) fnArities_own started (by kernel_rfl) Tryd.func4
    (witness_row_at (enc := enc) (C := Tryd.checked) false (fnArities_world os) #[.slice none 0 0] rfl (by kernel_rfl) (by kernel_rfl) (by kernel_rfl)
      (OpenSpec.preRow_of_cond 8 hx (by kernel_rfl) (fun k hk => by cases hk) (by kernel_rfl) (fnArities_met os))) ?_
  intro W base args ds gs before hval hW _ _ _ hL hsh _
  exact fnArities_contract H enc W base args ds gs before hval hW hL hsh
theorem fnArities_said : Rows.FnAritiesSaid :=
  OpenClaim.holds_of_cond 4 Tryd.f4 rfl rfl rfl rfl rfl rfl rfl ⟨rfl, rfl, rfl, rfl, rfl⟩ rfl rfl rfl rfl rfl (by kernel_rfl) Tryd.func4 (by kernel_rfl)
    (of_decide_eq_true (by kernel_rfl)) (by unfold Func.isWrapper; first | (rw [if_pos (by decide +kernel)]; kernel_rfl) | (rw [if_neg (by decide +kernel)]; exact ⟨rfl, rfl⟩))
    (fun os started H enc _ F => by rw [OpenClaim.pre_eq_preRow]; exact fnArities_lifted os started H enc F)
theorem fnArities_plain (f : FuncId) (fn : Func) (hf : Tryd.pinned.checked.prog.funcNamed "loop.example/g00124/laws.FnArities" = some f) (hfn : Tryd.pinned.checked.prog.funcs[f]? = some fn) :
    true = Tryd.pinned.checked.prog.looks [] ∧ ∀ (j : Nat) t, fn.params[j]? = some t → Tryd.pinned.checked.prog.wantsStandIn t = false := by
  obtain rfl : f = 4 := Option.some.inj ((show Tryd.prog.funcNamed "loop.example/g00124/laws.FnArities" = some 4 by kernel_rfl).symm.trans hf) |>.symm
  obtain rfl : fn = Tryd.f4 := (Option.some.inj (Tryd.func4.symm.trans hfn)).symm
  refine ⟨by kernel_rfl, fun j t ht => ?_⟩
  rw [Tryd.params4] at ht
  obtain rfl : t = 25 := by simpa using Array.mem_of_getElem? ht
  exact (show Tryd.prog.wantsStandIn 25 = false by kernel_rfl)
theorem fnArities_card : Rows.FnAritiesCardSaid :=
  Claim7.holds_tied_plain_at .later [] _ _ _ _ fnArities_said (fun _ h => by cases h) (by kernel_rfl) (fun _ h => by cases h) fnArities_row_tie rfl ⟨rfl, rfl⟩ (by kernel_rfl) rfl fnArities_plain (by kernel_rfl)
#print axioms fnArities_card
end Go.Proofs.YtpibnhodlojajaaDoor
