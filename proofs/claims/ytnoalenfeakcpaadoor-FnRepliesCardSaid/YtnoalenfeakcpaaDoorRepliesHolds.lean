/- 'FnReplies': for every argument the law returns true, and each argument reads behind the call as it read before; the tables that the row lists are as the program's text lays them, and the card ties them to that text. -/
import Derived.Test.YtnoalenfeakcpaaDoorCards
import Derived.Test.YtnoalenfeakcpaaDoorTie
import Derived.Test.YtnoalenfeakcpaaDoorLawReplies
import Derived.Test.YtnoalenfeakcpaaDoorCodeOf
import Derived.WalkKit
import Derived.ProofKit
import Derived.OpenShut
import Derived.Carry
import Derived.Deep.DeepHandedRow
import Derived.Lib.LaidTab
import Derived.Stop.LaidErr
import Derived.ChangeOld
import Derived.Below
namespace Go.Proofs.YtnoalenfeakcpaaDoor
open Go.ChangeShapes Go.WideShapes Go.ChangeAt Go.RowKit
open Go.ChangeMaps (open_string shut_string)

theorem fnReplies_own : ownKnob Tryd.prog.godebug = none := by kernel_rfl
theorem fnReplies_gPow : Tryd.prog.globalNamed "internal/strconv.uint64pow10" = some 3 := by kernel_rfl
theorem fnReplies_gPowType : (Tryd.prog.globals[3]?).map (·.type) = some 104 := by kernel_rfl
theorem fnReplies_powCells : Tryd.prog.cellsOf 104 = 20 := by kernel_rfl
theorem fnReplies_powCell : Tryd.prog.cellsOf 90 = 1 := by kernel_rfl
theorem fnReplies_powEq : (Rows.laid_internal_strconv_uint64pow10 : DataW Unit) = Lib.tabData .u64 Lib.pow10Tab := by kernel_rfl

/-- What the row's list gives: the table of powers holds its numbers. -/
theorem fnReplies_powTab {W : World} (h : laidMetH Tryd.prog Rows.fnRepliesRow.laid W) : Lib.TabIs Tryd.prog W "internal/strconv.uint64pow10" .u64 Lib.pow10Tab := by
  have h1 : laidMet Tryd.prog ([("internal/strconv.uint64pow10", Rows.laid_internal_strconv_uint64pow10), ("strconv.ErrRange", Rows.laid_strconv_ErrRange), ("strconv.ErrSyntax", Rows.laid_strconv_ErrSyntax)]) W := laidMet.tail (laidMet.tail h)
  rw [fnReplies_powEq] at h1
  exact Lib.tabIs_of_head (rest := [("strconv.ErrRange", Rows.laid_strconv_ErrRange), ("strconv.ErrSyntax", Rows.laid_strconv_ErrSyntax)]) fnReplies_gPow fnReplies_gPowType Tryd.underlying104 Tryd.underlying90 fnReplies_powCell fnReplies_powCells h1

theorem fnReplies_gES : Tryd.prog.globalNamed "strconv.ErrSyntax" = some 1 := by kernel_rfl
theorem fnReplies_gESType : (Tryd.prog.globals[1]?).map (·.type) = some 73 := by kernel_rfl
theorem fnReplies_gER : Tryd.prog.globalNamed "strconv.ErrRange" = some 2 := by kernel_rfl
theorem fnReplies_gERType : (Tryd.prog.globals[2]?).map (·.type) = some 73 := by kernel_rfl
theorem fnReplies_cellsE : Tryd.prog.cellsOf 110 = 1 := by kernel_rfl
theorem fnReplies_cellsS : Tryd.prog.cellsOf 9 = 1 := by kernel_rfl
theorem fnReplies_star : "*" ++ "errors.errorString" = "*errors.errorString" := by decide
theorem fnReplies_row (u : TypeId) (h : Tryd.prog.typeName? 3 u = some "*errors.errorString") : u = 108 :=
  typeName_ptr_named (nm := "errors.errorString") (by rw [fnReplies_star]; kernel_rfl) (by kernel_rfl) (by decide) u (by rw [fnReplies_star]; exact h)
/-- What the row's list gives of the library's variables, and of the one that is not listed. -/
theorem fnReplies_rvars {W : World} (h : laidMetH Tryd.prog Rows.fnRepliesRow.laid W) (hsh : W.ShapedOpen Tryd.prog) : RVars W := by
  have hs : laidMet Tryd.prog ([("strconv.ErrSyntax", Rows.laid_strconv_ErrSyntax)]) W := laidMet.tail (laidMet.tail (laidMet.tail (laidMet.tail h)))
  have hr : laidMet Tryd.prog ([("strconv.ErrRange", Rows.laid_strconv_ErrRange), ("strconv.ErrSyntax", Rows.laid_strconv_ErrSyntax)]) W := laidMet.tail (laidMet.tail (laidMet.tail h))
  obtain ⟨a0, s0, hv0, -, -, -⟩ := laid_sentinel hs fnReplies_gES fnReplies_gESType Tryd.underlying73 fnReplies_row Tryd.underlying108 Tryd.underlying110 rfl rfl Tryd.underlying9 fnReplies_cellsE fnReplies_cellsS
  obtain ⟨a1, s1, hv1, -, -, -⟩ := laid_sentinel hr fnReplies_gER fnReplies_gERType Tryd.underlying73 fnReplies_row Tryd.underlying108 Tryd.underlying110 rfl rfl Tryd.underlying9 fnReplies_cellsE fnReplies_cellsS
  obtain ⟨m, hm⟩ := Go.Proofs.cell_of_shapedOpen_int (zero := #[.int .i64 0]) (t := 3) (g := 0) hsh (of_decide_eq_true (by kernel_rfl)) (by kernel_rfl) rfl (by kernel_rfl) (by kernel_rfl) Tryd.underlying3
  exact ⟨fnReplies_powTab h, ⟨_, _, hv0⟩, ⟨_, _, hv1⟩, ⟨m, maxR_of hm⟩⟩

theorem fnReplies_laidOut : laidOutB Tryd.prog = true := by kernel_rfl
set_option maxRecDepth 100000 in
theorem fnReplies_contract (H : Type) (enc : TypeId × Value → H) (W : World) (base : Nat) (args : Array Value) (ds gs : List (DataW H)) (before : List MemPlace)
    (hval : ∀ (j : Nat) t v, Tryd.f5.params[j]? = some t → args[j]? = some v → Value.okWide Tryd.prog W .any base t v)
    (hW : DataW.Whole enc Tryd.prog Tryd.f5.params.toList Rows.fnRepliesSpec.vars false W args.toList ds gs before) (hL : laidMetH Tryd.prog Rows.fnRepliesRow.laid W) (hsh : W.ShapedOpen Tryd.prog) :
    Calls Tryd.prog 5 args W fun e W' => ∃ v, e = .returned v ∧ Rows.fnRepliesSpec.post enc Tryd.prog Tryd.f5 false true false false W args v W' := by
  have hW' := hW
  obtain ⟨p, q, hA0, hV, rfl, _, _⟩ := hW
  have hA : DataW.TrodAll enc Tryd.prog W 0 (fun _ => true) true Tryd.f5.params.toList args.toList ds p := hA0
  rw [Tryd.params5] at hA hval
  obtain ⟨v0, vs0, d0, ds0, p0, q0, hargs, rfl, rfl, h0, r0⟩ := trodAll_cons hA
  obtain ⟨rfl, rfl, rfl⟩ := trodAll_nil r0
  obtain rfl : args = #[v0] := by cases args; simp_all
  obtain ⟨a0, len0, cap0, rfl⟩ := okWide_slice Tryd.underlying31 (hval 0 31 v0 rfl rfl)
  have k0 := h0
  have lt0 : ∀ x ∈ p0, x.block < W.heap.size := by obtain ⟨m, hm⟩ := k0; exact DataW.trod_lt m _ _ _ hm
  have w0 : Code W a0 len0 := by
    obtain ⟨fuel0, hf⟩ := h0
    rcases open_ints Tryd.underlying31 Tryd.underlying5 (by kernel_rfl) hf with ⟨hcs, _⟩ | ⟨x, l, c, zs, hcs, _, hl, hm, hz, _, hcell, hwz⟩
    · simp [Value.cells] at hcs
      obtain ⟨rfl, rfl, rfl⟩ := hcs
      intro j hj; omega
    · simp [Value.cells] at hcs
      obtain ⟨rfl, rfl, rfl⟩ := hcs
      have hzl : zs.length = cap0 := by simpa using hz
      exact code_of (by omega) hcell hwz
  obtain ⟨rfl, rfl⟩ := trodVars_none hV
  clear hA0
  simp only [List.append_nil] at hW'
  refine (replies_walk W a0 len0 cap0 (fnReplies_rvars hL hsh) (fun _ => w0)).mono fun e W' ⟨he, bel⟩ => ?_
  subst he
  exact ⟨_, rfl, _, _, _, [], _, [], hW', trodAll_mk1 (shut_bool Tryd.underlying4 _), (trodAll_cons_mk (Below.trod fnReplies_laidOut (by kernel_rfl) (of_decide_eq_true (by kernel_rfl)) k0 bel lt0) trodAll_mk0), rfl, bel.frame _, fun h => by cases h⟩

/-- A world for the witness: the settled one, the tables as the text lays them. -/
def fnReplies_dat (d : DataW Unit) : Array Value :=
  match d with
  | .agg l => (l.map fun x => match x with | .lit (.int k z) => Value.int k z | _ => undef).toArray
  | _ => #[]
def fnReplies_set (w : World) (g : Nat) (cs : Array Value) : World := { w with heap := w.heap.modify g fun | .cells _ t frozen => .cells cs t frozen | o => o }
def fnReplies_at (P : Program) (os : Os) (l : List (Nat × Array Value)) : World := l.foldl (fun w x => fnReplies_set w x.1 x.2) (World.holding P os ⟨#[.cells #[.string ⟨#[105, 110, 118, 97, 108, 105, 100, 32, 115, 121, 110, 116, 97, 120]⟩] 110, .cells #[.string ⟨#[118, 97, 108, 117, 101, 32, 111, 117, 116, 32, 111, 102, 32, 114, 97, 110, 103, 101]⟩] 110], #[], []⟩)
def fnReplies_tabs : List (Nat × Array Value) := [(4, fnReplies_dat Rows.laid_math_bits_deBruijn32tab), (5, fnReplies_dat Rows.laid_math_bits_deBruijn64tab), (3, fnReplies_dat Rows.laid_internal_strconv_uint64pow10)]
/-- So many blocks has the settled world. -/
noncomputable def fnReplies_low : Nat := (World.holding Tryd.prog default ⟨#[], #[], []⟩).heap.size
noncomputable def fnReplies_world (os : Os) : World := fnReplies_set (fnReplies_set (fnReplies_at Tryd.prog os fnReplies_tabs) 1 #[.iface 108 (.pointer (some ⟨fnReplies_low, 0, none⟩))]) 2 #[.iface 108 (.pointer (some ⟨fnReplies_low + 1, 0, none⟩))]
theorem fnReplies_met (os : Os) : laidMet Tryd.prog Rows.fnRepliesRow.laid ((fnReplies_world os).forCall (fun _ _ => 0) ⟨#[], #[.slice none 0 0], []⟩).memory :=
  laidMet_of_run' 8 (by kernel_rfl) (by kernel_rfl)
theorem fnReplies_reads (os : Os) {H : Type} (enc : TypeId × Value → H) : DataW.whole enc Tryd.prog ((fnReplies_world os).forCall (fun _ _ => 0) ⟨#[], #[.slice none 0 0], []⟩).memory Tryd.f5.params.toList Rows.fnRepliesSpec.vars false #[Value.slice none 0 0].toList 8 = some ([.nil], [], []) := by kernel_rfl

set_option maxRecDepth 100000 in
theorem fnReplies_lifted (os : Os) (started : os.Started) (H : Type) (enc : TypeId × Value → H) (F : Stop.Interp) :
    ReturnsInHanded {} Tryd.checked os 5 .any ((OpenSpec.ofChange Rows.fnRepliesSpec).preRow enc Tryd.prog Tryd.f5 Rows.fnRepliesRow.domain false Rows.fnRepliesRow.laid) (((OpenSpec.ofChange Rows.fnRepliesSpec).at F).post enc Tryd.prog Tryd.f5 false true false false) := by
  have hx := fnReplies_reads os enc
  refine returnsInHanded_of_row (C := Tryd.checked) (s := OpenSpec.ofChange Rows.fnRepliesSpec) fnReplies_own started (by kernel_rfl) Tryd.func5
    (witness_row_at (enc := enc) (C := Tryd.checked) false (fnReplies_world os) #[.slice none 0 0] rfl (by kernel_rfl) (by kernel_rfl) (by kernel_rfl)
      (OpenSpec.preRow_of_cond 8 hx (by kernel_rfl) (fun k hk => by cases hk) (by kernel_rfl) (fnReplies_met os))) ?_
  intro W base args ds gs before hval hW _ _ _ hL hsh _
  exact fnReplies_contract H enc W base args ds gs before hval hW hL hsh

theorem fnReplies_said : Rows.FnRepliesSaid :=
  OpenClaim.holds_of_cond 5 Tryd.f5 rfl rfl rfl rfl rfl rfl rfl ⟨rfl, rfl, rfl, rfl, rfl⟩ rfl rfl rfl rfl rfl (by kernel_rfl) Tryd.func5 (by kernel_rfl)
    (of_decide_eq_true (by kernel_rfl)) (by unfold Func.isWrapper; first | (rw [if_pos (by decide +kernel)]; kernel_rfl) | (rw [if_neg (by decide +kernel)]; exact ⟨rfl, rfl⟩))
    (fun os started H enc _ F => by rw [OpenClaim.pre_eq_preRow]; exact fnReplies_lifted os started H enc F)

theorem fnReplies_plain (f : FuncId) (fn : Func) (hf : Tryd.pinned.checked.prog.funcNamed "loop.example/g00124/laws.FnReplies" = some f) (hfn : Tryd.pinned.checked.prog.funcs[f]? = some fn) :
    true = Tryd.pinned.checked.prog.looks [] ∧ ∀ (j : Nat) t, fn.params[j]? = some t → Tryd.pinned.checked.prog.wantsStandIn t = false := by
  obtain rfl : f = 5 := Option.some.inj ((show Tryd.prog.funcNamed "loop.example/g00124/laws.FnReplies" = some 5 by kernel_rfl).symm.trans hf) |>.symm
  obtain rfl : fn = Tryd.f5 := (Option.some.inj (Tryd.func5.symm.trans hfn)).symm
  refine ⟨by kernel_rfl, fun j t ht => ?_⟩
  rw [Tryd.params5] at ht
  obtain rfl : t = 31 := by simpa using Array.mem_of_getElem? ht
  exact (show Tryd.prog.wantsStandIn 31 = false by kernel_rfl)

/-- The given statement: the card. -/
theorem fnReplies_card : Rows.FnRepliesCardSaid :=
  Claim7.holds_tied_plain_at .later [] _ _ _ _ fnReplies_said (fun _ h => by cases h) (by kernel_rfl) (fun _ h => by cases h) fnReplies_row_tie rfl ⟨rfl, rfl⟩ (by kernel_rfl) rfl fnReplies_plain (by kernel_rfl)
#print axioms fnReplies_card
end Go.Proofs.YtnoalenfeakcpaaDoor
