import Derived.Test.YtepdckehokdjlaaGreatDoorCards
import Derived.Test.YtepdckehokdjlaaGreatDoorTie
import Derived.WalkKit
import Derived.ProofKit
import Derived.OpenShut
import Derived.Carry
import Derived.Deep.DeepHandedRow
import Derived.Lib.LaidTab
import Derived.Stop.LaidErr
import Derived.ChangeOld
import Derived.Below
import Derived.Test.YtepdckehokdjlaaGreatDoorMg46
import Derived.Test.YtepdckehokdjlaaGreatDoorMg47
import Derived.Test.YtepdckehokdjlaaGreatDoorMg7
set_option maxRecDepth 100000
namespace Go.Proofs.YtepdckehokdjlaaGreatDoor
open Go.ChangeShapes Go.WideShapes Go.ChangeAt Go.RowKit
open Go.ChangeMaps (open_string shut_string)
theorem fnExactMerge_own:ownKnob Tryz.prog.godebug=none:=by kernel_rfl
theorem fnExactMerge_g : Tryz.prog.globalNamed "loop.example/g00124/impl.halfByteSums" = some 0 := by kernel_rfl
theorem fnExactMerge_gt:(Tryz.prog.globals[0]?).map (·.type)=some 264:=by kernel_rfl
theorem fnExactMerge_cells:Tryz.prog.cellsOf 264=16:=by kernel_rfl
theorem fnExactMerge_cell:Tryz.prog.cellsOf 223=1:=by kernel_rfl
theorem fnExactMerge_tab:(Rows.laid_loop_example_g00124_impl_halfByteSums:DataW Unit)=Lib.tabData .u32 (htab.map Int.ofNat):=by kernel_rfl
theorem fnExactMerge_is {W : World} (h : laidMetH Tryz.prog Rows.fnExactMergeRow.laid W) : Lib.TabIs Tryz.prog W "loop.example/g00124/impl.halfByteSums" .u32 (htab.map Int.ofNat) := by
 have h1 : laidMet Tryz.prog ([("loop.example/g00124/impl.halfByteSums", Rows.laid_loop_example_g00124_impl_halfByteSums)]) W := laidMet.tail (laidMet.tail (laidMet.tail h))
 rw [fnExactMerge_tab] at h1
 exact Lib.tabIs_of_head (rest:=[]) fnExactMerge_g fnExactMerge_gt Tryz.underlying264 Tryz.underlying223 fnExactMerge_cell fnExactMerge_cells h1
theorem fnExactMerge_sumTab {W : World} (h : Lib.TabIs Tryz.prog W "loop.example/g00124/impl.halfByteSums" .u32 (htab.map Int.ofNat)) : SumTab W := by
 intro r hr
 have e:∀ r,r < 16→(htab.map Int.ofNat).getD r 0=((htab.getD r 0:Nat):Int):=by decide
 rw [← e r hr]
 exact h.cell fnExactMerge_g r (by simpa [htab] using hr)
theorem fnExactMerge_same1 {H:Type} {enc:TypeId × Value→H} {w w':World} {sp sp':Nat→Bool} (fuel:Nat) (cs:List Value):DataW.trod enc Tryz.prog w 0 sp true fuel 223 cs=DataW.trod enc Tryz.prog w' 0 sp' true fuel 223 cs:=by
 cases fuel with
 | zero => simp only [DataW.trod]
 | succ fuel =>
  simp only [DataW.trod,Tryz.underlying223]
  rcases cs with _ | ⟨v,_ | ⟨_,_⟩⟩
  · rfl
  · cases v <;> rfl
  · cases v <;> rfl
theorem fnExactMerge_same {H:Type} {enc:TypeId × Value→H} {w w':World} {sp sp':Nat→Bool} {fuel:Nat} {cs:List Value}:DataW.trod enc Tryz.prog w 0 sp true fuel 264 cs=DataW.trod enc Tryz.prog w' 0 sp' true fuel 264 cs:=by
 cases fuel with
 | zero => simp only [DataW.trod]
 | succ fuel =>
  simp only [DataW.trod,Tryz.underlying264]
  rw [show DataW.trod enc Tryz.prog w 0 sp true fuel 223=DataW.trod enc Tryz.prog w' 0 sp' true fuel 223 from funext (fnExactMerge_same1 fuel)]
theorem fnExactMerge_laidOut:laidOutB Tryz.prog=true:=by kernel_rfl
theorem fnExactMerge_contract (H:Type) (enc:TypeId × Value→H) (W:World) (base:Nat) (args:Array Value) (ds gs:List (DataW H)) (before:List MemPlace)
  (hval:∀ (j:Nat) t v,Tryz.f3.params[j]? = some t→args[j]? = some v→Value.okWide Tryz.prog W .any base t v)
  (hW:DataW.Whole enc Tryz.prog Tryz.f3.params.toList Rows.fnExactMergeSpec.vars false W args.toList ds gs before) (hL:laidMetH Tryz.prog Rows.fnExactMergeRow.laid W) :
  Calls Tryz.prog 3 args W fun e W' => ∃ v,e=.returned v∧Rows.fnExactMergeSpec.post enc Tryz.prog Tryz.f3 false true false false W args v W':=by
 have hW':=hW
 obtain ⟨p,q,hA0,hV,rfl,_,_⟩:=hW
 have hA:DataW.TrodAll enc Tryz.prog W 0 (fun _ => true) true Tryz.f3.params.toList args.toList ds p:=hA0
 rw [Tryz.params3] at hA hval
 obtain ⟨v0,vs0,d0,ds0,p0,q0,hargs,rfl,rfl,h0,r0⟩:=trodAll_cons hA
 obtain ⟨rfl,rfl,rfl⟩:=trodAll_nil r0
 obtain rfl:args = #[v0]:=by cases args;simp_all
 have k0:=h0
 have lt0:∀ x ∈ p0,x.block < W.heap.size:=by obtain ⟨m,hm⟩:=k0;exact DataW.trod_lt m _ _ _ hm
 obtain ⟨a0,x0,cap0,rm0,ac0,sq0,ad0,dr0,cd0,rfl,l0,f0,z0,l0',f0',z0'⟩:=engine_of (hval 0 27 v0 rfl rfl) h0
 have hTI:=fnExactMerge_is hL
 obtain ⟨g',t',cs,fuel,dv,pv,rfl,hg',ht',hvar,htr,rfl⟩:=trodVars_one hV
 obtain rfl:=Option.some.inj (fnExactMerge_g.symm.trans hg')
 obtain rfl:=Option.some.inj (fnExactMerge_gt.symm.trans ht')
 clear hA0
 simp only [List.append_nil] at hW'
 refine (lawMerge x0 a0 ad0 cap0 cd0 rm0 ac0 sq0 dr0 W l0 f0 z0 l0' f0' z0'  (fnExactMerge_sumTab hTI)).mono fun e W' ⟨he,bel⟩ => ?_
 subst he
 have hlt:0 < W.heap.size:=by
  rcases Nat.lt_or_ge 0 W.heap.size with h' | h'
  · exact h'
  ·
   have e0:=fnExactMerge_sumTab hTI 0 (by decide)
   unfold World.cell? at e0
   rw [show W.heap[(⟨0,0,none⟩:Addr).block]? = none from Array.getElem?_eq_none h'] at e0
   cases e0
 exact ⟨_,rfl,_,_,_,[],_,_,hW',trodAll_mk1 (shut_bool Tryz.underlying4 _),(trodAll_cons_mk (Below.trod fnExactMerge_laidOut (by kernel_rfl) (of_decide_eq_true (by kernel_rfl)) k0 bel lt0) trodAll_mk0),trodVars_mk1 fnExactMerge_g fnExactMerge_gt (var?_below bel fnExactMerge_g hlt hvar) (fnExactMerge_same.trans htr),bel.frame _,fun h => by cases h⟩
def fnExactMerge_dat (d:DataW Unit):Array Value :=
 match d with
 | .agg l => (l.flatMap fun x => match x with | .lit (.int k z) => [Value.int k z] | .agg m => m.map (fun y => match y with | .lit (.int k z) => Value.int k z | _ => undef) | _ => [undef]).toArray
 | _ => #[]
def fnExactMerge_set (w:World) (g:Nat) (cs:Array Value):World:={ w with heap:=w.heap.modify g fun | .cells _ t frozen => .cells cs t frozen | o => o }
def fnExactMerge_at (P:Program) (os:Os) (l:List (Nat × Array Value)):World:=l.foldl (fun w x => fnExactMerge_set w x.1 x.2) (World.holding P os ⟨#[],#[],[]⟩)
def fnExactMerge_tabs:List (Nat × Array Value):=[(2,fnExactMerge_dat Rows.laid_math_bits_deBruijn32tab),(3,fnExactMerge_dat Rows.laid_math_bits_deBruijn64tab),(1,fnExactMerge_dat Rows.laid_internal_strconv_uint64pow10),(0,fnExactMerge_dat Rows.laid_loop_example_g00124_impl_halfByteSums)]
noncomputable def fnExactMerge_world (os:Os):World:=fnExactMerge_at Tryz.prog os fnExactMerge_tabs
theorem fnExactMerge_met (os:Os):laidMet Tryz.prog Rows.fnExactMergeRow.laid ((fnExactMerge_world os).forCall (fun _ _ => 0) ⟨#[],#[.agg #[.slice none 0 0,.int .i64 0,.int .i64 0,.int .i64 0,.slice none 0 0]],[]⟩).memory :=
 laidMet_of_run' 8 (by kernel_rfl) (by kernel_rfl)
theorem fnExactMerge_reads (os:Os) {H:Type} (enc:TypeId × Value→H):DataW.whole enc Tryz.prog ((fnExactMerge_world os).forCall (fun _ _ => 0) ⟨#[],#[.agg #[.slice none 0 0,.int .i64 0,.int .i64 0,.int .i64 0,.slice none 0 0]],[]⟩).memory Tryz.f3.params.toList Rows.fnExactMergeSpec.vars false #[Value.agg #[.slice none 0 0,.int .i64 0,.int .i64 0,.int .i64 0,.slice none 0 0]].toList 8=some ([.agg [.agg [.nil],.lit (.int .i64 0),.lit (.int .i64 0),.lit (.int .i64 0),.nil]],[Rows.laid_loop_example_g00124_impl_halfByteSums],MemPlace.row ⟨0,0,none⟩ 16):=by kernel_rfl
theorem fnExactMerge_lifted (os:Os) (started:os.Started) (H:Type) (enc:TypeId × Value→H) (F:Stop.Interp) :
  ReturnsInHanded {} Tryz.checked os 3 .any ((OpenSpec.ofChange Rows.fnExactMergeSpec).preRow enc Tryz.prog Tryz.f3 Rows.fnExactMergeRow.domain false Rows.fnExactMergeRow.laid) (((OpenSpec.ofChange Rows.fnExactMergeSpec).at F).post enc Tryz.prog Tryz.f3 false true false false):=by
 have hx:=fnExactMerge_reads os enc
 refine returnsInHanded_of_row (C:=Tryz.checked) (s:=OpenSpec.ofChange Rows.fnExactMergeSpec) fnExactMerge_own started (by kernel_rfl) Tryz.func3
  (witness_row_at (enc:=enc) (C:=Tryz.checked) false (fnExactMerge_world os) #[.agg #[.slice none 0 0,.int .i64 0,.int .i64 0,.int .i64 0,.slice none 0 0]] rfl (by kernel_rfl) (by kernel_rfl) (by kernel_rfl)
   (OpenSpec.preRow_of_cond 8 hx (by kernel_rfl) (fun k hk => by cases hk) (by kernel_rfl) (fnExactMerge_met os))) ?_
 intro W base args ds gs before hval hW _ _ _ hL _ _
 exact fnExactMerge_contract H enc W base args ds gs before hval hW hL
theorem fnExactMerge_said:Rows.FnExactMergeSaid :=
 OpenClaim.holds_of_cond 3 Tryz.f3 rfl rfl rfl rfl rfl rfl rfl ⟨rfl,rfl,rfl,rfl,rfl⟩ rfl rfl rfl rfl rfl (by kernel_rfl) Tryz.func3 (by kernel_rfl)
  (of_decide_eq_true (by kernel_rfl)) (by unfold Func.isWrapper;first | (rw [if_pos (by decide +kernel)];kernel_rfl) | (rw [if_neg (by decide +kernel)];exact ⟨rfl,rfl⟩))
  (fun os started H enc _ F => by rw [OpenClaim.pre_eq_preRow];exact fnExactMerge_lifted os started H enc F)
theorem fnExactMerge_plain (f : FuncId) (fn : Func) (hf : Tryz.pinned.checked.prog.funcNamed "loop.example/g00124/laws.FnExactMerge" = some f) (hfn : Tryz.pinned.checked.prog.funcs[f]? = some fn) :
  false=Tryz.pinned.checked.prog.looks []∧∀ (j:Nat) t,fn.params[j]? = some t→Tryz.pinned.checked.prog.wantsStandIn t=false:=by
 obtain rfl : f = 3 := Option.some.inj ((show Tryz.prog.funcNamed "loop.example/g00124/laws.FnExactMerge" = some 3 by kernel_rfl).symm.trans hf) |>.symm
 obtain rfl:fn=Tryz.f3:=(Option.some.inj (Tryz.func3.symm.trans hfn)).symm
 refine ⟨by kernel_rfl,fun j t ht => ?_⟩
 rw [Tryz.params3] at ht
 obtain rfl:t=27:=by simpa using Array.mem_of_getElem? ht
 exact (show Tryz.prog.wantsStandIn 27=false by kernel_rfl)
theorem fnExactMerge_card:Rows.FnExactMergeCardSaid :=
 Claim7.holds_tied_plain_at .later [] _ _ _ _ fnExactMerge_said (fun _ h => by cases h) (by kernel_rfl) (fun _ h => by cases h) fnExactMerge_row_tie rfl ⟨rfl,rfl⟩ (by kernel_rfl) rfl fnExactMerge_plain (by kernel_rfl)
#print axioms fnExactMerge_card
end Go.Proofs.YtepdckehokdjlaaGreatDoor
