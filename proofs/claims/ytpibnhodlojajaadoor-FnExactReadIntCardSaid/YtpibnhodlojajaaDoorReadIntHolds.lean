/- 'FnExactReadInt': for every argument the law returns true, and each argument reads behind the call as it read before; the tables that the row lists are as the program's text lays them, and the card ties them to that text. -/
import Derived.Test.YtpibnhodlojajaaDoorCards
import Derived.Test.YtpibnhodlojajaaDoorTie
import Derived.Test.YtpibnhodlojajaaDoorRdI
import Derived.WalkKit
import Derived.ProofKit
import Derived.OpenShut
import Derived.Carry
import Derived.Deep.DeepHandedRow
import Derived.Lib.LaidTab
import Derived.Stop.LaidErr
namespace Go.Proofs.YtpibnhodlojajaaDoor
open Go.ChangeShapes Go.WideShapes Go.ChangeAt Go.RowKit
open Go.ChangeMaps (open_string shut_string)

theorem fnExactReadInt_own : ownKnob Tryd.prog.godebug = none := by kernel_rfl
theorem fnExactReadInt_gPow : Tryd.prog.globalNamed "internal/strconv.uint64pow10" = some 2 := by kernel_rfl
theorem fnExactReadInt_gPowType : (Tryd.prog.globals[2]?).map (·.type) = some 110 := by kernel_rfl
theorem fnExactReadInt_powCells : Tryd.prog.cellsOf 110 = 20 := by kernel_rfl
theorem fnExactReadInt_powCell : Tryd.prog.cellsOf 87 = 1 := by kernel_rfl
theorem fnExactReadInt_powEq : (Rows.laid_internal_strconv_uint64pow10 : DataW Unit) = Lib.tabData .u64 Lib.pow10Tab := by kernel_rfl

/-- What the row's list gives: the table of powers holds its numbers. -/
theorem fnExactReadInt_powTab {W : World} (h : laidMetH Tryd.prog Rows.fnExactReadIntRow.laid W) : Lib.TabIs Tryd.prog W "internal/strconv.uint64pow10" .u64 Lib.pow10Tab := by
  have h1 : laidMet Tryd.prog ([("internal/strconv.uint64pow10", Rows.laid_internal_strconv_uint64pow10), ("strconv.ErrRange", Rows.laid_strconv_ErrRange), ("strconv.ErrSyntax", Rows.laid_strconv_ErrSyntax)]) W := laidMet.tail (laidMet.tail h)
  rw [fnExactReadInt_powEq] at h1
  exact Lib.tabIs_of_head (rest := [("strconv.ErrRange", Rows.laid_strconv_ErrRange), ("strconv.ErrSyntax", Rows.laid_strconv_ErrSyntax)]) fnExactReadInt_gPow fnExactReadInt_gPowType Tryd.underlying110 Tryd.underlying87 fnExactReadInt_powCell fnExactReadInt_powCells h1

theorem fnExactReadInt_gES : Tryd.prog.globalNamed "strconv.ErrSyntax" = some 0 := by kernel_rfl
theorem fnExactReadInt_gESType : (Tryd.prog.globals[0]?).map (·.type) = some 56 := by kernel_rfl
theorem fnExactReadInt_gER : Tryd.prog.globalNamed "strconv.ErrRange" = some 1 := by kernel_rfl
theorem fnExactReadInt_gERType : (Tryd.prog.globals[1]?).map (·.type) = some 56 := by kernel_rfl
theorem fnExactReadInt_cellsE : Tryd.prog.cellsOf 99 = 1 := by kernel_rfl
theorem fnExactReadInt_cellsS : Tryd.prog.cellsOf 9 = 1 := by kernel_rfl
theorem fnExactReadInt_star : "*" ++ "errors.errorString" = "*errors.errorString" := by decide
theorem fnExactReadInt_row (u : TypeId) (h : Tryd.prog.typeName? 3 u = some "*errors.errorString") : u = 97 :=
  typeName_ptr_named (nm := "errors.errorString") (by rw [fnExactReadInt_star]; kernel_rfl) (by kernel_rfl) (by decide) u (by rw [fnExactReadInt_star]; exact h)
/-- What the row's list gives of the library's variables, and of the one that is not listed. -/
theorem fnExactReadInt_rvars {W : World} (h : laidMetH Tryd.prog Rows.fnExactReadIntRow.laid W) (hsh : W.ShapedOpen Tryd.prog) : RVars W := by
  have hs : laidMet Tryd.prog ([("strconv.ErrSyntax", Rows.laid_strconv_ErrSyntax)]) W := laidMet.tail (laidMet.tail (laidMet.tail (laidMet.tail h)))
  have hr : laidMet Tryd.prog ([("strconv.ErrRange", Rows.laid_strconv_ErrRange), ("strconv.ErrSyntax", Rows.laid_strconv_ErrSyntax)]) W := laidMet.tail (laidMet.tail (laidMet.tail h))
  obtain ⟨a0, s0, hv0, -, -, -⟩ := laid_sentinel hs fnExactReadInt_gES fnExactReadInt_gESType Tryd.underlying56 fnExactReadInt_row Tryd.underlying97 Tryd.underlying99 rfl rfl Tryd.underlying9 fnExactReadInt_cellsE fnExactReadInt_cellsS
  obtain ⟨a1, s1, hv1, -, -, -⟩ := laid_sentinel hr fnExactReadInt_gER fnExactReadInt_gERType Tryd.underlying56 fnExactReadInt_row Tryd.underlying97 Tryd.underlying99 rfl rfl Tryd.underlying9 fnExactReadInt_cellsE fnExactReadInt_cellsS
  obtain ⟨m, hm⟩ := Go.Proofs.cell_of_shapedOpen_int (zero := #[.int .i64 0]) (t := 3) (g := 5) hsh (of_decide_eq_true (by kernel_rfl)) (by kernel_rfl) rfl (by kernel_rfl) (by kernel_rfl) Tryd.underlying3
  exact ⟨fnExactReadInt_powTab h, ⟨_, _, hv0⟩, ⟨_, _, hv1⟩, ⟨m, maxR_of hm⟩⟩

set_option maxRecDepth 100000 in
theorem fnExactReadInt_contract (H : Type) (enc : TypeId × Value → H) (W : World) (base : Nat) (args : Array Value) (ds gs : List (DataW H)) (before : List MemPlace)
    (hval : ∀ (j : Nat) t v, Tryd.f3.params[j]? = some t → args[j]? = some v → Value.okWide Tryd.prog W .any base t v)
    (hW : DataW.Whole enc Tryd.prog Tryd.f3.params.toList Rows.fnExactReadIntSpec.vars false W args.toList ds gs before) (hL : laidMetH Tryd.prog Rows.fnExactReadIntRow.laid W) (hsh : W.ShapedOpen Tryd.prog) :
    Calls Tryd.prog 3 args W fun e W' => ∃ v, e = .returned v ∧ Rows.fnExactReadIntSpec.post enc Tryd.prog Tryd.f3 false true false false W args v W' := by
  have hW' := hW
  obtain ⟨p, q, hA0, hV, rfl, _, _⟩ := hW
  have hA : DataW.TrodAll enc Tryd.prog W 0 (fun _ => true) true Tryd.f3.params.toList args.toList ds p := hA0
  rw [Tryd.params3] at hA hval
  obtain ⟨v0, vs0, d0, ds0, p0, q0, hargs, rfl, rfl, h0, r0⟩ := trodAll_cons hA
  obtain ⟨rfl, rfl, rfl⟩ := trodAll_nil r0
  obtain rfl : args = #[v0] := by cases args; simp_all
  obtain ⟨a0, rfl, rfl, rfl, w0⟩ := open_string Tryd.underlying9 (hval 0 9 v0 rfl rfl) h0
  obtain ⟨rfl, rfl⟩ := trodVars_none hV
  clear hA0
  simp only [List.append_nil] at hW'
  refine (lawReadInt a0 W w0  (fnExactReadInt_rvars hL hsh)).mono fun e W' ⟨he, bel⟩ => ?_
  subst he
  exact ⟨_, rfl, _, _, _, [], [], [], hW', trodAll_mk1 (shut_bool Tryd.underlying4 _), (trodAll_cons_mk (shut_string Tryd.underlying9 w0) trodAll_mk0), rfl, bel.frame _, fun h => by cases h⟩

/-- A world for the witness: the settled one, the tables as the text lays them. -/
def fnExactReadInt_dat (d : DataW Unit) : Array Value :=
  match d with
  | .agg l => (l.flatMap fun x => match x with | .lit (.int k z) => [Value.int k z] | .agg m => m.map (fun y => match y with | .lit (.int k z) => Value.int k z | _ => undef) | _ => [undef]).toArray
  | _ => #[]
def fnExactReadInt_set (w : World) (g : Nat) (cs : Array Value) : World := { w with heap := w.heap.modify g fun | .cells _ t frozen => .cells cs t frozen | o => o }
def fnExactReadInt_at (P : Program) (os : Os) (l : List (Nat × Array Value)) : World := l.foldl (fun w x => fnExactReadInt_set w x.1 x.2) (World.holding P os ⟨#[.cells #[.string ⟨#[105, 110, 118, 97, 108, 105, 100, 32, 115, 121, 110, 116, 97, 120]⟩] 99, .cells #[.string ⟨#[118, 97, 108, 117, 101, 32, 111, 117, 116, 32, 111, 102, 32, 114, 97, 110, 103, 101]⟩] 99], #[], []⟩)
def fnExactReadInt_tabs : List (Nat × Array Value) := [(6, fnExactReadInt_dat Rows.laid_math_bits_deBruijn32tab), (7, fnExactReadInt_dat Rows.laid_math_bits_deBruijn64tab), (2, fnExactReadInt_dat Rows.laid_internal_strconv_uint64pow10)]
/-- So many blocks has the settled world. -/
noncomputable def fnExactReadInt_low : Nat := (World.holding Tryd.prog default ⟨#[], #[], []⟩).heap.size
noncomputable def fnExactReadInt_world (os : Os) : World := fnExactReadInt_set (fnExactReadInt_set (fnExactReadInt_at Tryd.prog os fnExactReadInt_tabs) 0 #[.iface 97 (.pointer (some ⟨fnExactReadInt_low, 0, none⟩))]) 1 #[.iface 97 (.pointer (some ⟨fnExactReadInt_low + 1, 0, none⟩))]
theorem fnExactReadInt_met (os : Os) : laidMet Tryd.prog Rows.fnExactReadIntRow.laid ((fnExactReadInt_world os).forCall (fun _ _ => 0) ⟨#[], #[.string ⟨#[]⟩], []⟩).memory :=
  laidMet_of_run' 8 (by kernel_rfl) (by kernel_rfl)
theorem fnExactReadInt_reads (os : Os) {H : Type} (enc : TypeId × Value → H) : DataW.whole enc Tryd.prog ((fnExactReadInt_world os).forCall (fun _ _ => 0) ⟨#[], #[.string ⟨#[]⟩], []⟩).memory Tryd.f3.params.toList Rows.fnExactReadIntSpec.vars false #[Value.string ⟨#[]⟩].toList 8 = some ([.lit (.string [])], [], []) := by kernel_rfl

set_option maxRecDepth 100000 in
theorem fnExactReadInt_lifted (os : Os) (started : os.Started) (H : Type) (enc : TypeId × Value → H) (F : Stop.Interp) :
    ReturnsInHanded {} Tryd.checked os 3 .any ((OpenSpec.ofChange Rows.fnExactReadIntSpec).preRow enc Tryd.prog Tryd.f3 Rows.fnExactReadIntRow.domain false Rows.fnExactReadIntRow.laid) (((OpenSpec.ofChange Rows.fnExactReadIntSpec).at F).post enc Tryd.prog Tryd.f3 false true false false) := by
  have hx := fnExactReadInt_reads os enc
  refine returnsInHanded_of_row (C := Tryd.checked) (s := OpenSpec.ofChange Rows.fnExactReadIntSpec) fnExactReadInt_own started (by kernel_rfl) Tryd.func3
    (witness_row_at (enc := enc) (C := Tryd.checked) false (fnExactReadInt_world os) #[.string ⟨#[]⟩] rfl (by kernel_rfl) (by kernel_rfl) (by kernel_rfl)
      (OpenSpec.preRow_of_cond 8 hx (by kernel_rfl) (fun k hk => by cases hk) (by kernel_rfl) (fnExactReadInt_met os))) ?_
  intro W base args ds gs before hval hW _ _ _ hL hsh _
  exact fnExactReadInt_contract H enc W base args ds gs before hval hW hL hsh

theorem fnExactReadInt_said : Rows.FnExactReadIntSaid :=
  OpenClaim.holds_of_cond 3 Tryd.f3 rfl rfl rfl rfl rfl rfl rfl ⟨rfl, rfl, rfl, rfl, rfl⟩ rfl rfl rfl rfl rfl (by kernel_rfl) Tryd.func3 (by kernel_rfl)
    (of_decide_eq_true (by kernel_rfl)) (by unfold Func.isWrapper; first | (rw [if_pos (by decide +kernel)]; kernel_rfl) | (rw [if_neg (by decide +kernel)]; exact ⟨rfl, rfl⟩))
    (fun os started H enc _ F => by rw [OpenClaim.pre_eq_preRow]; exact fnExactReadInt_lifted os started H enc F)

theorem fnExactReadInt_plain (f : FuncId) (fn : Func) (hf : Tryd.pinned.checked.prog.funcNamed "loop.example/g00124/laws.FnExactReadInt" = some f) (hfn : Tryd.pinned.checked.prog.funcs[f]? = some fn) :
    true = Tryd.pinned.checked.prog.looks [] ∧ ∀ (j : Nat) t, fn.params[j]? = some t → Tryd.pinned.checked.prog.wantsStandIn t = false := by
  obtain rfl : f = 3 := Option.some.inj ((show Tryd.prog.funcNamed "loop.example/g00124/laws.FnExactReadInt" = some 3 by kernel_rfl).symm.trans hf) |>.symm
  obtain rfl : fn = Tryd.f3 := (Option.some.inj (Tryd.func3.symm.trans hfn)).symm
  refine ⟨by kernel_rfl, fun j t ht => ?_⟩
  rw [Tryd.params3] at ht
  obtain rfl : t = 9 := by simpa using Array.mem_of_getElem? ht
  exact (show Tryd.prog.wantsStandIn 9 = false by kernel_rfl)

/-- The given statement: the card. -/
theorem fnExactReadInt_card : Rows.FnExactReadIntCardSaid :=
  Claim7.holds_tied_plain_at .later [] _ _ _ _ fnExactReadInt_said (fun _ h => by cases h) (by kernel_rfl) (fun _ h => by cases h) fnExactReadInt_row_tie rfl ⟨rfl, rfl⟩ (by kernel_rfl) rfl fnExactReadInt_plain (by kernel_rfl)
#print axioms fnExactReadInt_card
end Go.Proofs.YtpibnhodlojajaaDoor
