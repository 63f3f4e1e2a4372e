import Derived.Lib.SmallJoins
import Derived.OpenShut
import Derived.Test.YtmmchemgegmhhaaGreatDoorCards
import Derived.Test.YtmmchemgegmhhaaGreatDoorTie
import Derived.WalkKit
import Derived.ProofKit
import Derived.Carry
import Derived.Deep.DeepHandedRow
import Derived.Lib.LaidTab
import Derived.Stop.LaidErr
import Derived.ChangeOld
import Derived.Below
import Derived.Test.YtmmchemgegmhhaaGreatDoorSlim1
import Derived.Test.YtmmchemgegmhhaaGreatDoorSlim2
import Derived.Test.YtmmchemgegmhhaaGreatDoorSlim30
set_option maxRecDepth 100000
namespace Go.Proofs.YtmmchemgegmhhaaGreatDoor
open Go.RowKit Go.ChangeShapes Go.WideShapes Go.Deep
theorem file_of {H : Type} {enc : TypeId × Value → H} {w : World} {fuel : Nat} {cs : List Value} {x : DataW H × List MemPlace} (h : DataW.trod enc Tryz.prog w 0 (fun _ => true) true fuel 197 cs = some x) :
    ∃ F : FileD, cs = [.string F.name, .string F.text, .int .i64 F.kept] ∧ F.name.size ≤ maxLen ∧ F.text.size ≤ maxLen := by
  obtain ⟨y0, y1, y2, n, hx, hl, h0, h1, h2⟩ := trod_struct3 Tryz.underlying197 h
  have hc : Tryz.prog.cellsOf 197 = 3 := by kernel_rfl
  have k0 : Tryz.prog.cellsOf 9 = 1 := by kernel_rfl
  have k1 : Tryz.prog.cellsOf 3 = 1 := by kernel_rfl
  rw [hc] at hl
  match cs, hl with
  | [v0, v1, v2], _ =>
    simp only [k0, k1] at h0 h1 h2
    obtain ⟨s0, e0, _, z0⟩ := DataW.trod_string Tryz.underlying9 h0
    obtain ⟨s1, e1, _, z1⟩ := DataW.trod_string Tryz.underlying9 h1
    obtain ⟨x2, e2, _, _⟩ := DataW.trod_int Tryz.underlying3 h2
    simp at e0 e1 e2
    subst e0 e1 e2
    exact ⟨⟨s0, s1, x2⟩, rfl, z0, z1⟩
end Go.Proofs.YtmmchemgegmhhaaGreatDoor
namespace Go.Proofs.YtmmchemgegmhhaaGreatDoor
open Go.RowKit
end Go.Proofs.YtmmchemgegmhhaaGreatDoor
namespace Go.Proofs.YtmmchemgegmhhaaGreatDoor
open Go.RowKit Go.ChangeShapes Go.WideShapes Go.Deep Go.Joins
theorem files_in {H : Type} {enc : TypeId × Value → H} {w : World} {n : Nat} {c0 : Value} {y0 : DataW H × List MemPlace} (h0' : DataW.trod enc Tryz.prog w 0 (fun _ => true) true n 40 [c0] = some y0) :
    ∃ (ao : Option Addr) (fs : List FileD) (cap : Nat), c0 = .slice ao fs.length cap ∧ fs.length ≤ maxLen ∧ FilesAt w ao fs ∧ ∀ F ∈ fs, F.name.size ≤ maxLen ∧ F.text.size ≤ maxLen := by
  have hc : Tryz.prog.cellsOf 197 = 3 := by kernel_rfl
  rcases open_slice Tryz.underlying40 h0' with ⟨e, _⟩ | ⟨a, len, cap, m, n', D, Pl, e, _, hle, hmx, hm, _, hel⟩
  · simp at e
    subst e
    exact ⟨none, [], 0, rfl, by unfold maxLen; simp, fun j hj => absurd hj (by simp), fun F hF => absurd hF List.not_mem_nil⟩
  · simp at e
    subst e
    rw [hc] at hel
    have hm' : len ≤ m := by rw [hm]; simpa using hle
    have hch : ∀ i, i < len → ∃ F : FileD, w.cells? 0 (a.add (i * 3)) 3 = some [.string F.name, .string F.text, .int .i64 F.kept] ∧ F.name.size ≤ maxLen ∧ F.text.size ≤ maxLen := by
      intro i hi
      obtain ⟨cs', g1, g2⟩ := hel i (by omega)
      obtain ⟨F, rfl, z0, z1⟩ := file_of g2
      exact ⟨F, g1, z0, z1⟩
    haveI : Inhabited FileD := ⟨⟨⟨#[]⟩, ⟨#[]⟩, 0⟩⟩
    obtain ⟨G, hG⟩ := choose_lt hch
    refine ⟨some a, (List.range len).map G, cap, by simp, by simp; omega, ?_, ?_⟩
    · intro j hj
      have hj' : j < len := by simpa using hj
      obtain ⟨g1, _, _⟩ := hG j hj'
      obtain ⟨_, _, hcell⟩ := World.cells?_some g1
      have q0 := hcell 0 (by omega)
      have q1 := hcell 1 (by omega)
      have q2 := hcell 2 (by omega)
      obtain ⟨b, off, spot⟩ := a
      have hspot : spot = none := by
        obtain ⟨_, _, hcell0⟩ := World.cells?_some (hG 0 (by omega)).1
        have q := hcell0 0 (by omega)
        simpa [Addr.add] using World.cell?_spot q
      subst hspot
      have ha : ∀ o i, ((⟨b, o, none⟩ : Addr).add i) = ⟨b, o + i, none⟩ := by intro o i; cases i <;> simp [Addr.add]
      simp only [ha] at q0 q1 q2
      refine ⟨b, off, rfl, ?_, ?_, ?_, ?_⟩
      · rcases Nat.lt_or_ge b w.heap.size with h | h
        · exact h
        · unfold World.cell? at q0
          rw [show w.heap[(⟨b, off + j * 3 + 0, none⟩ : Addr).block]? = none from Array.getElem?_eq_none h] at q0
          cases q0
      · simpa using q0
      · simpa using q1
      · simpa using q2
    · intro F hF
      obtain ⟨i, hi, rfl⟩ := List.mem_map.1 hF
      exact (hG i (by simpa using hi)).2
theorem spots_in {H : Type} {enc : TypeId × Value → H} {w : World} {fuel : Nat} {c0 : Value} {y0 : DataW H × List MemPlace} (h0' : DataW.trod enc Tryz.prog w 0 (fun _ => true) true fuel 43 [c0] = some y0) :
    ∃ (ao : Option Addr) (fs : List SpotD) (cap : Nat), c0 = .slice ao fs.length cap ∧ fs.length ≤ maxLen ∧ SpotsAt w ao fs ∧ ∀ A ∈ fs, A.key.size ≤ maxLen := by
  have hc : Tryz.prog.cellsOf 150 = 4 := by kernel_rfl
  rcases open_slice Tryz.underlying43 h0' with ⟨e, _⟩ | ⟨a, len, cap, m, n', D, Pl, e, _, hle, hmx, hm, _, hel⟩
  · simp at e
    subst e
    exact ⟨none, [], 0, rfl, by unfold maxLen; simp, fun j hj => absurd hj (by simp), fun F hF => absurd hF List.not_mem_nil⟩
  · simp at e
    subst e
    rw [hc] at hel
    have hm' : len ≤ m := by rw [hm]; simpa using hle
    have hch : ∀ i, i < len → ∃ A : SpotD, w.cells? 0 (a.add (i * 4)) 4 = some [.string A.key, .int .i64 A.seg, .int .i64 A.pos, .int .i64 A.seq] ∧ A.key.size ≤ maxLen := by
      intro i hi
      obtain ⟨cs', g1, g2⟩ := hel i (by omega)
      obtain ⟨A, rfl, z0⟩ := spot_in g2
      exact ⟨A, g1, z0⟩
    haveI : Inhabited SpotD := ⟨⟨⟨#[]⟩, 0, 0, 0⟩⟩
    obtain ⟨G, hG⟩ := choose_lt hch
    refine ⟨some a, (List.range len).map G, cap, by simp, by simp; omega, ?_, ?_⟩
    · intro j hj
      have hj' : j < len := by simpa using hj
      have g1 := (hG j hj').1
      obtain ⟨_, _, hcell⟩ := World.cells?_some g1
      have q0 := hcell 0 (by omega)
      have q1 := hcell 1 (by omega)
      have q2 := hcell 2 (by omega)
      have q3 := hcell 3 (by omega)
      obtain ⟨b, off, spot⟩ := a
      have hspot : spot = none := by
        obtain ⟨_, _, hcell0⟩ := World.cells?_some (hG 0 (by omega)).1
        have q := hcell0 0 (by omega)
        simpa [Addr.add] using World.cell?_spot q
      subst hspot
      have ha : ∀ o i, ((⟨b, o, none⟩ : Addr).add i) = ⟨b, o + i, none⟩ := by intro o i; cases i <;> simp [Addr.add]
      simp only [ha] at q0 q1 q2 q3
      refine ⟨b, off, rfl, ?_, ?_, ?_, ?_, ?_⟩
      · rcases Nat.lt_or_ge b w.heap.size with h | h
        · exact h
        · unfold World.cell? at q0
          rw [show w.heap[(⟨b, off + j * 4 + 0, none⟩ : Addr).block]? = none from Array.getElem?_eq_none h] at q0
          cases q0
      · simpa using q0
      · simpa using q1
      · simpa using q2
      · simpa using q3
    · intro A hA
      obtain ⟨i, hi, rfl⟩ := List.mem_map.1 hA
      exact (hG i (by simpa using hi)).2
theorem engine_of {H : Type} {enc : TypeId × Value → H} {w : World} {base : Nat} {v : Value} {d : DataW H} {p : List MemPlace} (hv : Value.okWide Tryz.prog w .any base 45 v)
    (h : DataW.Trod enc Tryz.prog w 0 (fun _ => true) true 45 v d p) :
    ∃ (ao : Option Addr) (fs : List FileD) (cap : Nat) (room act seq : Int) (ad : Option Addr) (dir : List SpotD) (cd : Nat), v = .agg #[.slice ao fs.length cap, .int .i64 room, .int .i64 act, .int .i64 seq, .slice ad dir.length cd] ∧
      fs.length ≤ maxLen ∧ FilesAt w ao fs ∧ (∀ F ∈ fs, F.name.size ≤ maxLen ∧ F.text.size ≤ maxLen) ∧ dir.length ≤ maxLen ∧ SpotsAt w ad dir ∧ ∀ A ∈ dir, A.key.size ≤ maxLen := by
  have hd : Tryz.prog.cellsOf 45 = 5 := by kernel_rfl
  have hk : Tryz.prog.cellsOf 42 = 1 := by kernel_rfl
  have hi : Tryz.prog.cellsOf 3 = 1 := by kernel_rfl
  have hs : Tryz.prog.cellsOf 43 = 1 := by kernel_rfl
  have hf : Tryz.prog.cellsOf 40 = 1 := by kernel_rfl
  obtain ⟨cs, rfl, hsz⟩ := okWide_struct Tryz.underlying45 hv
  rw [hd] at hsz
  obtain ⟨l⟩ := cs
  match l, hsz with
  | [c0, c1, c2, c3, c4], _ =>
    obtain ⟨fuel, hh⟩ := h
    obtain ⟨xs, n, _, _, _, hlen, hfl⟩ := DataW.trod_struct Tryz.underlying45 hh
    match xs, hlen with
    | [y0, y1, y2, y3, y4], _ =>
      have t0 : DataW.trod enc Tryz.prog w 0 (fun _ => true) true n 42 [c0] = some y0 := by
        have q := hfl 0 _ rfl
        simpa [hk, Value.cells] using q
      have t1 : DataW.trod enc Tryz.prog w 0 (fun _ => true) true n 3 [c1] = some y1 := by
        have q := hfl 1 _ rfl
        simpa [hi, Value.cells] using q
      have t2 : DataW.trod enc Tryz.prog w 0 (fun _ => true) true n 3 [c2] = some y2 := by
        have q := hfl 2 _ rfl
        simpa [hi, Value.cells] using q
      have t3 : DataW.trod enc Tryz.prog w 0 (fun _ => true) true n 3 [c3] = some y3 := by
        have q := hfl 3 _ rfl
        simpa [hi, Value.cells] using q
      have t4 : DataW.trod enc Tryz.prog w 0 (fun _ => true) true n 43 [c4] = some y4 := by
        have q := hfl 4 _ rfl
        simpa [hs, Value.cells] using q
      obtain ⟨z0, n0, _, _, u0⟩ := trod_struct1 Tryz.underlying42 t0
      simp only [hf] at u0
      obtain ⟨ao, fs, cap, e0, l0, f0, s0⟩ := files_in (c0 := c0) u0
      obtain ⟨x1, e1, _, _⟩ := DataW.trod_int Tryz.underlying3 t1
      obtain ⟨x2, e2, _, _⟩ := DataW.trod_int Tryz.underlying3 t2
      obtain ⟨x3, e3, _, _⟩ := DataW.trod_int Tryz.underlying3 t3
      obtain ⟨ad, dir, cd, e4, l4, f4, s4⟩ := spots_in (c0 := c4) t4
      simp at e1 e2 e3
      subst e0 e1 e2 e3 e4
      exact ⟨ao, fs, cap, x1, x2, x3, ad, dir, cd, rfl, l0, f0, s0, l4, f4, s4⟩
end Go.Proofs.YtmmchemgegmhhaaGreatDoor
namespace Go.Proofs.YtmmchemgegmhhaaGreatDoor
open Go.ChangeShapes Go.WideShapes Go.ChangeAt Go.RowKit
open Go.ChangeMaps (open_string shut_string)
theorem fnExactMergeActs_own : ownKnob Tryz.prog.godebug = none := by kernel_rfl
theorem fnExactMergeActs_g : Tryz.prog.globalNamed "loop.example/g00124/impl.halfByteSums" = some 0 := by kernel_rfl
theorem fnExactMergeActs_gt : (Tryz.prog.globals[0]?).map (·.type) = some 270 := by kernel_rfl
theorem fnExactMergeActs_cells : Tryz.prog.cellsOf 270 = 16 := by kernel_rfl
theorem fnExactMergeActs_cell : Tryz.prog.cellsOf 183 = 1 := by kernel_rfl
theorem fnExactMergeActs_tab : (Rows.laid_loop_example_g00124_impl_halfByteSums : DataW Unit) = Lib.tabData .u32 (htab.map Int.ofNat) := by kernel_rfl
theorem fnExactMergeActs_is {W : World} (h : laidMetH Tryz.prog Rows.fnExactMergeActsRow.laid W) : Lib.TabIs Tryz.prog W "loop.example/g00124/impl.halfByteSums" .u32 (htab.map Int.ofNat) := by
  have h1 : laidMet Tryz.prog ([("loop.example/g00124/impl.halfByteSums", Rows.laid_loop_example_g00124_impl_halfByteSums)]) W := laidMet.tail (laidMet.tail (laidMet.tail h))
  rw [fnExactMergeActs_tab] at h1
  exact Lib.tabIs_of_head (rest := []) fnExactMergeActs_g fnExactMergeActs_gt Tryz.underlying270 Tryz.underlying183 fnExactMergeActs_cell fnExactMergeActs_cells h1
theorem fnExactMergeActs_sumTab {W : World} (h : Lib.TabIs Tryz.prog W "loop.example/g00124/impl.halfByteSums" .u32 (htab.map Int.ofNat)) : SumTab W := by
  intro r hr
  have e : ∀ r, r < 16 → (htab.map Int.ofNat).getD r 0 = ((htab.getD r 0 : Nat) : Int) := by decide
  rw [← e r hr]
  exact h.cell fnExactMergeActs_g r (by simpa [htab] using hr)
theorem fnExactMergeActs_same1 {H : Type} {enc : TypeId × Value → H} {w w' : World} {sp sp' : Nat → Bool} (fuel : Nat) (cs : List Value) : DataW.trod enc Tryz.prog w 0 sp true fuel 183 cs = DataW.trod enc Tryz.prog w' 0 sp' true fuel 183 cs := by
  cases fuel with
  | zero => simp only [DataW.trod]
  | succ fuel =>
    simp only [DataW.trod, Tryz.underlying183]
    rcases cs with _ | ⟨v, _ | ⟨_, _⟩⟩
    · rfl
    · cases v <;> rfl
    · cases v <;> rfl
theorem fnExactMergeActs_same {H : Type} {enc : TypeId × Value → H} {w w' : World} {sp sp' : Nat → Bool} {fuel : Nat} {cs : List Value} : DataW.trod enc Tryz.prog w 0 sp true fuel 270 cs = DataW.trod enc Tryz.prog w' 0 sp' true fuel 270 cs := by
  cases fuel with
  | zero => simp only [DataW.trod]
  | succ fuel =>
    simp only [DataW.trod, Tryz.underlying270]
    rw [show DataW.trod enc Tryz.prog w 0 sp true fuel 183 = DataW.trod enc Tryz.prog w' 0 sp' true fuel 183 from funext (fnExactMergeActs_same1 fuel)]
theorem fnExactMergeActs_laidOut : laidOutB Tryz.prog = true := by kernel_rfl
theorem fnExactMergeActs_contract (H : Type) (enc : TypeId × Value → H) (W : World) (base : Nat) (args : Array Value) (ds gs : List (DataW H)) (before : List MemPlace)
    (hval : ∀ (j : Nat) t v, Tryz.f6.params[j]? = some t → args[j]? = some v → Value.okWide Tryz.prog W .any base t v)
    (hW : DataW.Whole enc Tryz.prog Tryz.f6.params.toList Rows.fnExactMergeActsSpec.vars false W args.toList ds gs before) (hL : laidMetH Tryz.prog Rows.fnExactMergeActsRow.laid W) :
    Calls Tryz.prog 6 args W fun e W' => ∃ v, e = .returned v ∧ Rows.fnExactMergeActsSpec.post enc Tryz.prog Tryz.f6 false true false false W args v W' := by
  have hW' := hW
  obtain ⟨p, q, hA0, hV, rfl, _, _⟩ := hW
  have hA : DataW.TrodAll enc Tryz.prog W 0 (fun _ => true) true Tryz.f6.params.toList args.toList ds p := hA0
  rw [Tryz.params6] at hA hval
  obtain ⟨v0, vs0, d0, ds0, p0, q0, hargs, rfl, rfl, h0, r0⟩ := trodAll_cons hA
  obtain ⟨rfl, rfl, rfl⟩ := trodAll_nil r0
  obtain rfl : args = #[v0] := by cases args; simp_all
  have k0 := h0
  have lt0 : ∀ x ∈ p0, x.block < W.heap.size := by obtain ⟨m, hm⟩ := k0; exact DataW.trod_lt m _ _ _ hm
  obtain ⟨a0, x0, cap0, rm0, ac0, sq0, ad0, dr0, cd0, rfl, l0, f0, z0, l0', f0', z0'⟩ := engine_of (hval 0 45 v0 rfl rfl) h0
  have hTI := fnExactMergeActs_is hL
  obtain ⟨g', t', cs, fuel, dv, pv, rfl, hg', ht', hvar, htr, rfl⟩ := trodVars_one hV
  obtain rfl := Option.some.inj (fnExactMergeActs_g.symm.trans hg')
  obtain rfl := Option.some.inj (fnExactMergeActs_gt.symm.trans ht')
  clear hA0
  simp only [List.append_nil] at hW'
  refine (lawMergeActs x0 a0 ad0 cap0 cd0 rm0 ac0 sq0 dr0 W l0 f0 z0 l0' f0' z0'  (fnExactMergeActs_sumTab hTI)).mono fun e W' ⟨he, bel⟩ => ?_
  subst he
  have hlt : 0 < W.heap.size := by
    rcases Nat.lt_or_ge 0 W.heap.size with h' | h'
    · exact h'
    · have e0 := fnExactMergeActs_sumTab hTI 0 (by decide)
      unfold World.cell? at e0
      rw [show W.heap[(⟨0, 0, none⟩ : Addr).block]? = none from Array.getElem?_eq_none h'] at e0
      cases e0
  exact ⟨_, rfl, _, _, _, [], _, _, hW', trodAll_mk1 (shut_bool Tryz.underlying4 _), (trodAll_cons_mk (Below.trod fnExactMergeActs_laidOut (by kernel_rfl) (of_decide_eq_true (by kernel_rfl)) k0 bel lt0) trodAll_mk0), trodVars_mk1 fnExactMergeActs_g fnExactMergeActs_gt (var?_below bel fnExactMergeActs_g hlt hvar) (fnExactMergeActs_same.trans htr), bel.frame _, fun h => by cases h⟩
def fnExactMergeActs_dat (d : DataW Unit) : Array Value :=
  match d with
  | .agg l => (l.map fun x => match x with | .lit (.int k z) => Value.int k z | _ => undef).toArray
  | _ => #[]
def fnExactMergeActs_set (w : World) (g : Nat) (cs : Array Value) : World := { w with heap := w.heap.modify g fun | .cells _ t frozen => .cells cs t frozen | o => o }
def fnExactMergeActs_at (P : Program) (os : Os) (l : List (Nat × Array Value)) : World := l.foldl (fun w x => fnExactMergeActs_set w x.1 x.2) (World.holding P os ⟨#[], #[], []⟩)
def fnExactMergeActs_tabs : List (Nat × Array Value) := [(2, fnExactMergeActs_dat Rows.laid_math_bits_deBruijn32tab), (3, fnExactMergeActs_dat Rows.laid_math_bits_deBruijn64tab), (1, fnExactMergeActs_dat Rows.laid_internal_strconv_uint64pow10), (0, fnExactMergeActs_dat Rows.laid_loop_example_g00124_impl_halfByteSums)]
noncomputable def fnExactMergeActs_world (os : Os) : World := fnExactMergeActs_at Tryz.prog os fnExactMergeActs_tabs
theorem fnExactMergeActs_met (os : Os) : laidMet Tryz.prog Rows.fnExactMergeActsRow.laid ((fnExactMergeActs_world os).forCall (fun _ _ => 0) ⟨#[], #[.agg #[.slice none 0 0, .int .i64 0, .int .i64 0, .int .i64 0, .slice none 0 0]], []⟩).memory :=
  laidMet_of_run' 8 (by kernel_rfl) (by kernel_rfl)
theorem fnExactMergeActs_reads (os : Os) {H : Type} (enc : TypeId × Value → H) : DataW.whole enc Tryz.prog ((fnExactMergeActs_world os).forCall (fun _ _ => 0) ⟨#[], #[.agg #[.slice none 0 0, .int .i64 0, .int .i64 0, .int .i64 0, .slice none 0 0]], []⟩).memory Tryz.f6.params.toList Rows.fnExactMergeActsSpec.vars false #[Value.agg #[.slice none 0 0, .int .i64 0, .int .i64 0, .int .i64 0, .slice none 0 0]].toList 8 = some ([.agg [.agg [.nil], .lit (.int .i64 0), .lit (.int .i64 0), .lit (.int .i64 0), .nil]], [Rows.laid_loop_example_g00124_impl_halfByteSums], MemPlace.row ⟨0, 0, none⟩ 16) := by kernel_rfl
theorem fnExactMergeActs_lifted (os : Os) (started : os.Started) (H : Type) (enc : TypeId × Value → H) (F : Stop.Interp) :
    ReturnsInHanded {} Tryz.checked os 6 .any ((OpenSpec.ofChange Rows.fnExactMergeActsSpec).preRow enc Tryz.prog Tryz.f6 Rows.fnExactMergeActsRow.domain false Rows.fnExactMergeActsRow.laid) (((OpenSpec.ofChange Rows.fnExactMergeActsSpec).at F).post enc Tryz.prog Tryz.f6 false true false false) := by
  have hx := fnExactMergeActs_reads os enc
  refine returnsInHanded_of_row (C := Tryz.checked) (s := OpenSpec.ofChange Rows.fnExactMergeActsSpec) fnExactMergeActs_own started (by kernel_rfl) Tryz.func6
    (witness_row_at (enc := enc) (C := Tryz.checked) false (fnExactMergeActs_world os) #[.agg #[.slice none 0 0, .int .i64 0, .int .i64 0, .int .i64 0, .slice none 0 0]] rfl (by kernel_rfl) (by kernel_rfl) (by kernel_rfl)
      (OpenSpec.preRow_of_cond 8 hx (by kernel_rfl) (fun k hk => by cases hk) (by kernel_rfl) (fnExactMergeActs_met os))) ?_
  intro W base args ds gs before hval hW _ _ _ hL _ _
  exact fnExactMergeActs_contract H enc W base args ds gs before hval hW hL
theorem fnExactMergeActs_said : Rows.FnExactMergeActsSaid :=
  OpenClaim.holds_of_cond 6 Tryz.f6 rfl rfl rfl rfl rfl rfl rfl ⟨rfl, rfl, rfl, rfl, rfl⟩ rfl rfl rfl rfl rfl (by kernel_rfl) Tryz.func6 (by kernel_rfl)
    (of_decide_eq_true (by kernel_rfl)) (by unfold Func.isWrapper; first | (rw [if_pos (by decide +kernel)]; kernel_rfl) | (rw [if_neg (by decide +kernel)]; exact ⟨rfl, rfl⟩))
    (fun os started H enc _ F => by rw [OpenClaim.pre_eq_preRow]; exact fnExactMergeActs_lifted os started H enc F)
theorem fnExactMergeActs_plain (f : FuncId) (fn : Func) (hf : Tryz.pinned.checked.prog.funcNamed "loop.example/g00124/laws.FnExactMergeActs" = some f) (hfn : Tryz.pinned.checked.prog.funcs[f]? = some fn) :
    false = Tryz.pinned.checked.prog.looks [] ∧ ∀ (j : Nat) t, fn.params[j]? = some t → Tryz.pinned.checked.prog.wantsStandIn t = false := by
  obtain rfl : f = 6 := Option.some.inj ((show Tryz.prog.funcNamed "loop.example/g00124/laws.FnExactMergeActs" = some 6 by kernel_rfl).symm.trans hf) |>.symm
  obtain rfl : fn = Tryz.f6 := (Option.some.inj (Tryz.func6.symm.trans hfn)).symm
  refine ⟨by kernel_rfl, fun j t ht => ?_⟩
  rw [Tryz.params6] at ht
  obtain rfl : t = 45 := by simpa using Array.mem_of_getElem? ht
  exact (show Tryz.prog.wantsStandIn 45 = false by kernel_rfl)
theorem fnExactMergeActs_card : Rows.FnExactMergeActsCardSaid :=
  Claim7.holds_tied_plain_at .later [] _ _ _ _ fnExactMergeActs_said (fun _ h => by cases h) (by kernel_rfl) (fun _ h => by cases h) fnExactMergeActs_row_tie rfl ⟨rfl, rfl⟩ (by kernel_rfl) rfl fnExactMergeActs_plain (by kernel_rfl)
#print axioms fnExactMergeActs_card
end Go.Proofs.YtmmchemgegmhhaaGreatDoor
