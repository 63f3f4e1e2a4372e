import Derived.Lib.SmallJoins
import Derived.OpenShut
import Derived.Laws.MakeOwn
import Derived.Test.YtmmchemgegmhhaaGreatDoorFo7
import Derived.Test.YtmmchemgegmhhaaGreatDoorFo9
import Derived.Test.YtmmchemgegmhhaaGreatDoorFo2
import Derived.Test.YtmmchemgegmhhaaGreatDoorFo8
set_option maxRecDepth 100000
set_option maxHeartbeats 1600000
namespace Go.Proofs.YtmmchemgegmhhaaGreatDoor
open Go.RowKit
theorem allKept_any (fs : List FileD) (ao : Option Addr) (cap : Nat) (w : World) (hl : fs.length ≤ 1048576) (hfs : FilesAt w ao fs) (hsz : ∀ F ∈ fs, F.name.size ≤ 1048576 ∧ F.text.size ≤ 1048576) :
    Calls Tryz.prog 168 #[.agg #[.slice ao fs.length cap]] w fun e w' => e = .returned (.bool (allKeptD fs)) ∧ Below w.heap.size w w' := by
  have HF := hide hfs
  have HS := hide hsz
  clear hfs hsz
  have b0 : Below w.heap.size w (w.alloc (.cells #[.slice ao fs.length cap] 27)) := (Below.refl _ w).alloc (Nat.le_refl _) _
  have HB0 := hide b0
  clear b0
  cases hok : diskOkD fs
  · go_enter Tryz.func168, Tryz.ntmps168
    go_wp2_with fail
    refine (diskOk_any fs ao cap _ hl (filesAt_keep HF.out HB0.out) (fun F h => ⟨small_max (HS.out F h).1, small_max (HS.out F h).2⟩)).mono ?_
    rintro e w1 ⟨rfl, b1⟩
    rw [hok]
    have HB1 := hide (HB0.out.trans (b1.mono HB0.out.size))
    clear b1
    go_wp2
    go_ret
    rw [allKeptD, hok]
    exact ⟨rfl, HB1.out⟩
  · obtain ⟨R, HR⟩ : ∃ R, Hid (keptD (fs.drop 0) = R) := ⟨_, hide rfl⟩
    have e : allKeptD fs = R := by rw [allKeptD, hok, ← HR.out]; rfl
    rw [e]
    clear e
    go_enter Tryz.func168, Tryz.ntmps168
    go_wp2_with fail
    refine (diskOk_any fs ao cap _ hl (filesAt_keep HF.out HB0.out) (fun F h => ⟨small_max (HS.out F h).1, small_max (HS.out F h).2⟩)).mono ?_
    rintro e w1 ⟨rfl, b1⟩
    rw [hok]
    have hbox : w1.cell? ⟨w.heap.size, 0, none⟩ = some (.slice ao fs.length cap) := (b1.cell (p := ⟨w.heap.size, 0, none⟩) (by simp)).trans (by rw [cell_of_row _ _ _ _ _ (0, 0) (heap_alloc_new w _)]; rfl)
    have HB1 := hide (HB0.out.trans (b1.mono HB0.out.size))
    clear b1
    go_wp2
    go_loopw [11] (fun ii wr => ∃ (k : Nat), ii = .int .i64 k ∧ k ≤ fs.length ∧ Hid (keptD (fs.drop k) = R) ∧ Hid (Below w.heap.size w wr)) (fun ii _ => fs.length - (intOf ii).toNat)
    case atStart => exact ⟨0, rfl, Nat.zero_le _, HR, HB1⟩
    case round =>
      obtain ⟨k, rfl, hk, HK, HB⟩ := hrel
      by_cases hlt : k < fs.length
      · have hlt' : decide ((k : Int) < (fs.length : Int)) = true := by simp; omega
        obtain ⟨b, off, rfl, hbw, hc0, hc1, hc2⟩ := filesAt_keep HF.out HB.out k hlt
        have HX := hide (HS.out fs[k] (List.getElem_mem hlt))
        obtain ⟨F, HFk⟩ : ∃ F, Hid (fs[k] = F) := ⟨fs[k], hide rfl⟩
        rw [HFk.out] at hc0 hc1 hc2
        have hi0 : (0 : Int) ≤ (k : Int) := by omega
        have hi1 : (k : Int) < (fs.length : Int) := by omega
        have hs2 : F.text.size ≤ 1048576 := by have := HX.out.2; rw [HFk.out] at this; exact this
        cases hq : decide (F.kept < (F.text.size : Int))
        · have HK1 : Hid (keptD (fs.drop (k + 1)) = R) := by show _ = _; rw [← HK.out]; exact (kept_more hlt (by rw [HFk.out]; exact hq)).symm
          go_wp2
          go_roundw
          case rel => exact ⟨k + 1, by go_num, by omega, HK1, HB.out.alloc HB.out.size _⟩
          case measure => simp [intOf]; omega
        · have hR : Hid (R = false) := by show _ = _; rw [← HK.out]; exact kept_bad hlt (by rw [HFk.out]; exact hq)
          go_wp2
          go_ret
          rw [hR.out]
          exact ⟨rfl, HB.out.alloc HB.out.size _⟩
      · have hlt' : decide ((k : Int) < (fs.length : Int)) = false := by simp; omega
        have hR : Hid (R = true) := by show _ = _; rw [← HK.out]; exact kept_end (by omega)
        go_wp2
        go_ret
        rw [hR.out]
        exact ⟨rfl, HB.out⟩
abbrev nmNew : ByteArray := ⟨#[109, 43]⟩
def isBelow (m : Nat) (nm : ByteArray) : Bool := (List.range m).any fun n => (segNm (n : Int)).toList == nm.toList
theorem isBelow_zero (nm : ByteArray) : isBelow 0 nm = false := rfl
theorem isBelow_succ (m : Nat) (nm : ByteArray) : isBelow (m + 1) nm = (isBelow m nm || ((segNm (m : Int)).toList == nm.toList)) := by
  unfold isBelow
  rw [List.range_succ, List.any_append]
  simp
theorem isBelow_at {m k : Nat} {nm : ByteArray} (hk : k < m) (h : ((segNm (k : Int)).toList == nm.toList) = true) : isBelow m nm = true := by
  unfold isBelow
  rw [List.any_eq_true]
  exact ⟨k, List.mem_range.2 hk, h⟩
def lastB (q : Int) (bs : List BatchD) : Int := (bs.getLast?.map BatchD.seq).getD q
def seqD (l : List SegD) : Int := l.foldl (fun q s => lastB q s.bs) 0
theorem seqD_snoc (l : List SegD) (s : SegD) : seqD (l ++ [s]) = lastB (seqD l) s.bs := by simp [seqD]
theorem lastB_last (q : Int) (bs : List BatchD) (h : 0 < bs.length) : lastB q bs = (bs[bs.length - 1]'(by omega)).seq := by
  unfold lastB
  rw [List.getLast?_eq_getElem?, List.getElem?_eq_getElem (by omega)]
  rfl
theorem seqD_take_succ {l : List SegD} {k : Nat} (h : k < l.length) : seqD (l.take (k + 1)) = lastB (seqD (l.take k)) l[k].bs := by
  rw [List.take_succ_eq_append_getElem h, seqD_snoc]
def dropA (nm : ByteArray) : ActD := ⟨4, nm, ⟨#[]⟩, ⟨#[]⟩⟩
def newA (nm text : ByteArray) : List ActD := [⟨1, nmNew, text, ⟨#[]⟩⟩, ⟨2, nmNew, ⟨#[]⟩, ⟨#[]⟩⟩, ⟨3, nmNew, ⟨#[]⟩, nm⟩]
def addA (t : ByteArray) : ActD := ⟨1, nmNew, t, ⟨#[]⟩⟩
def newsA (nm : ByteArray) (ts : List ByteArray) : List ActD := ts.map addA ++ [⟨2, nmNew, ⟨#[]⟩, ⟨#[]⟩⟩, ⟨3, nmNew, ⟨#[]⟩, nm⟩]
def isNew (nm : ByteArray) : Bool := nm.toList == nmNew.toList
def goesB (m : Nat) (F : FileD) : Bool := isNew F.name || isBelow m F.name
def dropsI (m : Nat) (fs : List FileD) : List ActD := (fs.filter (goesB m)).map fun F => dropA F.name
theorem dropsI_snoc_yes {m : Nat} {fs : List FileD} {F : FileD} (h : goesB m F = true) : dropsI m (fs ++ [F]) = dropsI m fs ++ [dropA F.name] := by simp [dropsI, h]
theorem dropsI_snoc_no {m : Nat} {fs : List FileD} {F : FileD} (h : goesB m F = false) : dropsI m (fs ++ [F]) = dropsI m fs := by simp [dropsI, h]
theorem dropsI_len (m : Nat) (fs : List FileD) : (dropsI m fs).length ≤ fs.length := by
  unfold dropsI
  rw [List.length_map]
  exact List.length_filter_le _ _
theorem dropsI_empty {m : Nat} {fs : List FileD} : dropsI m fs = [] ↔ ∀ F ∈ fs, goesB m F = false := by
  unfold dropsI
  rw [List.map_eq_nil_iff, List.filter_eq_nil_iff]
  constructor
  · intro h F hF
    simpa using h F hF
  · intro h F hF
    simp [h F hF]
def firstG (fs : List FileD) : Nat := ((segsL fs).head?.map SegD.num).getD 0
def lastG (fs : List FileD) : SegD := (segsL fs).getLast?.getD ⟨0, 0, [], 0, false, false⟩
def mendA (fs : List FileD) : List ActD := if (lastG fs).torn then newA (segNm ((lastG fs).num : Int)) ((((fileD fs (segNm ((lastG fs).num : Int))).map FileD.text).getD ⟨#[]⟩).extract 0 (lastG fs).fin) else []
def actsI (fs : List FileD) : List ActD := dropsI (firstG fs) fs ++ mendA fs
def wholeB (fs : List FileD) : Bool := (segsL fs).dropLast.all fun s => !s.torn
def soundB (fs : List FileD) : Bool := seqsRise fs && (allKeptD fs && wholeB fs)
def roomB (room : Int) : Bool := decide (100 ≤ room) && decide (room ≤ 20000)
def openIB (fs : List FileD) (room : Int) : Bool := roomB room && (soundB fs && decide ((actsF fs (actsI fs)).2 = (actsI fs).length))
def calmB (fs : List FileD) : Bool := (actsI fs).isEmpty
def engB (fs : List FileD) (room act seq : Int) (dir : List SpotD) : Prop := roomB room = true ∧ soundB fs = true ∧ calmB fs = true ∧ ((lastG fs).num : Int) = act ∧ seqD (segsL fs) = seq ∧ dirD fs = dir
theorem soundB_segs {fs : List FileD} (h : soundB fs = true) : segsOk fs = true ∧ seqsRise fs = true ∧ allKeptD fs = true ∧ wholeB fs = true ∧ diskOkD fs = true ∧ 0 < (segsL fs).length := by
  unfold soundB at h
  simp only [Bool.and_eq_true] at h
  obtain ⟨h1, h2, h3⟩ := h
  have h4 : segsOk fs = true := by
    unfold seqsRise at h1
    simp only [Bool.and_eq_true] at h1
    exact h1.1
  have h5 := h4
  unfold segsOk at h5
  simp only [Bool.and_eq_true, decide_eq_true_eq] at h5
  refine ⟨h4, h1, h2, h3, h5.1, ?_⟩
  unfold segsL
  rw [if_pos h4]
  exact h5.2.2
end Go.Proofs.YtmmchemgegmhhaaGreatDoor
namespace Go.Proofs.YtmmchemgegmhhaaGreatDoor
open Go.RowKit Go.Shelf
attribute [local go_sem] Oper.semAt_some
def KpT (n₀ Bn : Nat) (t : TypeId) (W W' : World) : Prop := Below n₀ W W' ∧ ∀ v, Boxed W Bn t v → Boxed W' Bn t v
theorem kpT_t {n₀ Bn : Nat} {t : TypeId} {A B C : World} (h : KpT n₀ Bn t A B) (k : KpT n₀ Bn t B C) : KpT n₀ Bn t A C := ⟨h.1.trans k.1, fun v hv => k.2 v (h.2 v hv)⟩
theorem kpT_b {n₀ Bn : Nat} {t : TypeId} {w : World} (hn : n₀ ≤ w.heap.size) (W : World) (l : Nat) (o o' : Obj) (hl : w.heap.size ≤ l) (h : W.heap[l]? = some o) (hc : o.isCells = false) (hw : o.isWalk = false) : KpT n₀ Bn t W (W.putObj l o') :=
  ⟨belowK_b hn W l o o' hl h hc hw, fun v hv => hv.kept (grownBy_putObj' W l o') (fun e => by
    cases e
    have hv' : W.heap[Bn]? = some (.cells #[v] t (0, 0)) := hv
    rw [hv'] at h
    cases h
    cases hc)⟩
def sliceAC : Value → Option Addr × Nat
  | .slice a _ c => (a, c)
  | _ => (none, 0)
abbrev segC (s : SegD) (v p : Option Addr × Nat) : Array Value := #[.int .i64 (s.num : Int), .int .i64 (s.frm : Int), .slice v.1 s.bs.length v.2, .slice p.1 s.pls.length p.2, .int .i64 (s.fin : Int), .bool s.right, .bool s.torn]
abbrev segV (s : SegD) (v p : Option Addr × Nat) : Value := .agg (segC s v p)
def SegsV (w : World) (ao : Option Addr) (l : List SegD) (vs ps : List (Option Addr × Nat)) : Prop := vs.length = l.length ∧ ps.length = l.length ∧ ∀ j (s : SegD) (v p : Option Addr × Nat), l[j]? = some s → vs[j]? = some v → ps[j]? = some p → ∃ g, ao = some ⟨g, 0, none⟩ ∧ g < w.heap.size ∧
  w.cell? ⟨g, j * 7, none⟩ = some (.int .i64 (s.num : Int)) ∧ w.cell? ⟨g, j * 7 + 1, none⟩ = some (.int .i64 (s.frm : Int)) ∧ w.cell? ⟨g, j * 7 + 2, none⟩ = some (.slice v.1 s.bs.length v.2) ∧ w.cell? ⟨g, j * 7 + 3, none⟩ = some (.slice p.1 s.pls.length p.2) ∧ w.cell? ⟨g, j * 7 + 4, none⟩ = some (.int .i64 (s.fin : Int)) ∧ w.cell? ⟨g, j * 7 + 5, none⟩ = some (.bool s.right) ∧ w.cell? ⟨g, j * 7 + 6, none⟩ = some (.bool s.torn)
theorem segsV_of {w : World} {B K n cap : Nat} {ao : Option Addr} {l : List SegD} (h : BuildG w B K (.slice ao n cap) l) : ∃ vs ps, SegsV w ao l vs ps ∧ (∀ (j : Nat) (x : Option Addr × Nat) (s : SegD), vs[j]? = some x → l[j]? = some s → RowBatch w K (.slice x.1 s.bs.length x.2) s.bs) := by
  obtain ⟨vs, ps, h0, h1, h2, h3, h4⟩ := h
  refine ⟨vs.map sliceAC, ps.map sliceAC, ⟨by simp [h0], by simp [h1], fun j s v p hs hv hp => ?_⟩, fun j x s hx hs => ?_⟩
  · rw [List.getElem?_map, Option.map_eq_some_iff] at hv hp
    obtain ⟨v', hv, rfl⟩ := hv
    obtain ⟨p', hp, rfl⟩ := hp
    have hj : j < l.length := (List.getElem?_eq_some_iff.1 hs).1
    obtain ⟨a, c, rfl, -⟩ := rowBatch_at (h3 j v' s hv hs)
    obtain ⟨a', c', rfl⟩ := rowNat_form (h4 j p' s hp hs)
    rcases h2.2 with ⟨_, hn⟩ | ⟨g, cap', cur, hv', hB, hC, hle, _, hsz, ht⟩
    · omega
    · cases hv'
      obtain ⟨k1, k2, k3, k4, k5, k6, k7⟩ := cellsSeg_get l vs ps j s _ _ hs hv hp
      refine ⟨g, rfl, (Array.getElem?_eq_some_iff.1 hC).1, ?_, ?_, ?_, ?_, ?_, ?_, ?_⟩
      · exact (cell_of_row w g (j * 7) _ _ (0, 0) hC).trans (take_getChange ht (by omega) k1)
      · exact (cell_of_row w g (j * 7 + 1) _ _ (0, 0) hC).trans (take_getChange ht (by omega) k2)
      · exact (cell_of_row w g (j * 7 + 2) _ _ (0, 0) hC).trans (take_getChange ht (by omega) k3)
      · exact (cell_of_row w g (j * 7 + 3) _ _ (0, 0) hC).trans (take_getChange ht (by omega) k4)
      · exact (cell_of_row w g (j * 7 + 4) _ _ (0, 0) hC).trans (take_getChange ht (by omega) k5)
      · exact (cell_of_row w g (j * 7 + 5) _ _ (0, 0) hC).trans (take_getChange ht (by omega) k6)
      · exact (cell_of_row w g (j * 7 + 6) _ _ (0, 0) hC).trans (take_getChange ht (by omega) k7)
  · rw [List.getElem?_map, Option.map_eq_some_iff] at hx
    obtain ⟨v', hv, rfl⟩ := hx
    have := h3 j v' s hv hs
    obtain ⟨a, c, rfl, -⟩ := rowBatch_at this
    exact this
theorem segsV_keep {w w' : World} {n₀ : Nat} {ao : Option Addr} {l : List SegD} {vs ps : List (Option Addr × Nat)} (h : SegsV w ao l vs ps) (hao : ∀ g, ao = some ⟨g, 0, none⟩ → g < n₀) (hb : Below n₀ w w') (hw : w.heap.size ≤ w'.heap.size) : SegsV w' ao l vs ps := by
  refine ⟨h.1, h.2.1, fun j s v p hs hv hp => ?_⟩
  obtain ⟨g, h1, h2, h3, h4, h5, h6, h7, h8, h9⟩ := h.2.2 j s v p hs hv hp
  have hg := hao g h1
  exact ⟨g, h1, by omega, (hb.cell (p := ⟨g, j * 7, none⟩) hg).trans h3, (hb.cell (p := ⟨g, j * 7 + 1, none⟩) hg).trans h4, (hb.cell (p := ⟨g, j * 7 + 2, none⟩) hg).trans h5, (hb.cell (p := ⟨g, j * 7 + 3, none⟩) hg).trans h6, (hb.cell (p := ⟨g, j * 7 + 4, none⟩) hg).trans h7, (hb.cell (p := ⟨g, j * 7 + 5, none⟩) hg).trans h8, (hb.cell (p := ⟨g, j * 7 + 6, none⟩) hg).trans h9⟩
abbrev Pl (l : List SegD) := { j : Nat // j < l.length }
def pv {l : List SegD} (x : List (Pl l)) : List Nat := x.map Subtype.val
theorem pv_snoc {l : List SegD} (x : List (Pl l)) (y : Pl l) : pv (x ++ [y]) = pv x ++ [y.1] := by simp [pv]
theorem pv_len {l : List SegD} (x : List (Pl l)) : (pv x).length = x.length := by simp [pv]
def downTo (n k : Nat) : List Nat := ((List.range n).drop k).reverse
theorem downTo_step {n k : Nat} (h : k < n) : downTo n k = downTo n (k + 1) ++ [k] := by
  unfold downTo
  rw [List.drop_eq_getElem_cons (by simpa using h)]
  simp
theorem downTo_top (n : Nat) : downTo n n = [] := by
  unfold downTo
  rw [List.drop_eq_nil_of_le (by simp)]
  rfl
theorem downTo_pre {n k : Nat} : ∃ rest, downTo n 0 = downTo n k ++ rest := by
  unfold downTo
  refine ⟨((List.range n).take k).reverse, ?_⟩
  rw [← List.reverse_append, List.take_append_drop, List.drop_zero]
theorem back1_pre (l : List SegD) (vs ps : List (Option Addr × Nat)) (hvs : vs.length = l.length) (hps : ps.length = l.length) (hl : l.length ≤ 100) (ao : Option Addr) (cap : Nat) (n L Bn n₀ : Nat) (hn : 1 ≤ n) (J Jx : List (Pl l) → World → Prop)
    (hY : ∀ pre x W, J pre W → pre.length < l.length → YieldAt Fence.wide (n - 1) Tryz.prog L #[.int .i64 (x.1 : Int), segV (l[x.1]'x.2) (vs[x.1]'(by have := x.2; omega)) (ps[x.1]'(by have := x.2; omega))] W fun e W' =>
      (e = .returned (.bool true) ∧ J (pre ++ [x]) W' ∧ KpT n₀ Bn 138 W W') ∨ (e = .returned (.bool false) ∧ Jx (pre ++ [x]) W'))
    (W : World) (hJ : AbidesFrom W.heap.size J) (hbox : Boxed W Bn 138 (.slice ao l.length cap)) (hao : ∀ g, ao = some ⟨g, 0, none⟩ → g < n₀) (hV : SegsV W ao l vs ps) (h0 : J [] W) :
    CallsIn Fence.wide n Tryz.prog 200 #[.func (.yield L) #[] #[], .pointer (some ⟨Bn, 0, none⟩)] W fun e W' => (∃ v, e = .returned v) ∧
      ((∃ ys, pv ys = downTo l.length 0 ∧ J ys W') ∨ (∃ pre, (∃ rest, downTo l.length 0 = pv pre ++ rest) ∧ Jx pre W')) := by
  have HY := hide hY
  have HJ := hide hJ
  have HV := hide hV
  have HAO := hide hao
  clear hY hJ hV hao
  have hc0 := hbox.cell
  have hw0 : IntKind.i64.wrap ((l.length : Int) - 1) = (l.length : Int) - 1 := by rw [IntKind.wrap_i64]; omega
  refine callsIn_of_wp Tryz.func200 rfl trivial ?_ rfl
  simp only [Tryz.ntmps200, List.size_toArray, List.length_cons, List.length_nil, Nat.reduceAdd, Nat.reduceSub, Array.replicate_succ, Array.replicate_zero, List.push_toArray, List.append_toArray, List.nil_append, List.cons_append]
  gi_wp2
  gi_loopw [3] (fun a wr => ∃ (pre : List (Pl l)) (i : Nat), a = .int .i64 ((i : Int) - 1) ∧ i ≤ l.length ∧ Hid (pv pre = downTo l.length i) ∧ Hid (J pre wr) ∧ Boxed wr Bn 138 (.slice ao l.length cap) ∧ Below n₀ W wr ∧ W.heap.size ≤ wr.heap.size) (fun a _ => (intOf a + 1).toNat)
  case atStart => exact ⟨[], l.length, rfl, Nat.le_refl _, (downTo_top _).symm, h0, hbox, Below.refl _ _, Nat.le_refl _⟩
  case round =>
    obtain ⟨pre, i, rfl, hi, hpre, hJp, hbx, hbl, hsz⟩ := hrel
    have hc := hbx.cell
    have HVr := hide (segsV_keep HV.out HAO.out hbl hsz)
    cases i with
    | zero =>
      have hz : decide ((0 : Int) ≤ ((0 : Nat) : Int) - 1) = false := by decide
      gi_wp2
      refine bodyPost_end (results_none rfl _ _ _) rfl ?_
      exact ⟨⟨_, rfl⟩, .inl ⟨pre, hpre.out, hJp.out⟩⟩
    | succ i =>
      have hz : decide ((0 : Int) ≤ (i : Int)) = true := by simp
      have hi1 : ((i + 1 : Nat) : Int) - 1 = (i : Int) := by omega
      have hi0 : (0 : Int) ≤ (i : Int) := by omega
      have hi2 : (i : Int) < (l.length : Int) := by omega
      rw [hi1]
      have hil : i < l.length := by omega
      obtain ⟨g, hg, hgw, e0, e1, e2, e3, e4, e5, e6⟩ := HVr.out.2.2 i l[i] (vs[i]'(by omega)) (ps[i]'(by omega)) (List.getElem?_eq_getElem hil) (List.getElem?_eq_getElem (by omega)) (List.getElem?_eq_getElem (by omega))
      subst hg
      have hlen : pre.length < l.length := by
        have e := congrArg List.length hpre.out
        rw [pv_len] at e
        unfold downTo at e
        rw [List.length_reverse, List.length_drop, List.length_range] at e
        omega
      have HS : Hid (pv (pre ++ [⟨i, hil⟩]) = downTo l.length i) := by show _ = _; rw [pv_snoc, hpre.out, ← downTo_step hil]
      obtain ⟨fn, tmps, assign, body, hy, hR⟩ := HY.out pre ⟨i, hil⟩ wr hJp.out hlen
      have hwr : IntKind.i64.wrap ((i : Int) - 1) = (i : Int) - 1 := by rw [IntKind.wrap_i64]; omega
      gi_wp2
      refine hR.mono ?_
      rintro e W3 (⟨rfl, hJ3, hk3⟩ | ⟨rfl, hJx3⟩)
      · gi_wp2
        go_roundw
        case rel => exact ⟨pre ++ [⟨i, hil⟩], i, rfl, by omega, HS, hide hJ3, hk3.2 _ hbx, hbl.trans hk3.1, Nat.le_trans hsz hk3.1.size⟩
        case measure => first | omega | (simp [intOf]; done) | (simp [intOf]; omega)
      · gi_wp2
        refine bodyPost_ret (results_none rfl _ _ _) rfl ?_
        exact ⟨⟨_, rfl⟩, .inr ⟨_, by rw [HS.out]; exact downTo_pre, hJx3⟩⟩
theorem backward_any (ao : Option Addr) (n cap : Nat) (w : World) :
    Calls Tryz.prog 172 #[.slice ao n cap] w fun e w' => e = .returned (.func (.func 200) #[] #[.pointer (some ⟨w.heap.size, 0, none⟩)]) ∧ w' = w.alloc (.cells #[.slice ao n cap] 138) := by
  go_enter Tryz.func172, Tryz.ntmps172
  go_wp2
  go_ret
  exact ⟨rfl, rfl⟩
theorem back_stops (l : List SegD) (vs ps : List (Option Addr × Nat)) (hvs : vs.length = l.length) (hps : ps.length = l.length) (hl : l.length ≤ 100) (ao : Option Addr) (cap : Nat) (n Bn n₀ : Nat) (hn : 1 ≤ n) (w : World) (hn₀ : n₀ ≤ w.heap.size) (hbox : Boxed w Bn 138 (.slice ao l.length cap)) (hao : ∀ g, ao = some ⟨g, 0, none⟩ → g < n₀) (hV : SegsV w ao l vs ps) :
    SeqStopsK Fence.wide n Tryz.prog 200 #[.pointer (some ⟨Bn, 0, none⟩)] (fun x : Pl l => #[Value.int .i64 (x.1 : Int), segV (l[x.1]'x.2) (vs[x.1]'(by have := x.2; omega)) (ps[x.1]'(by have := x.2; omega))]) (KpT n₀ Bn 138) (fun ys => pv ys = downTo l.length 0) (fun pre => ∃ rest, downTo l.length 0 = pv pre ++ rest) l.length w := fun L J Jx W hW hJ _ hY h0 =>
  back1_pre l vs ps hvs hps hl ao cap n L Bn n₀ hn J Jx hY W hJ (hbox.kept (grownBy_below none hW) (by simp)) hao (segsV_keep hV hao (hW.mono hn₀) hW.size) h0
end Go.Proofs.YtmmchemgegmhhaaGreatDoor
namespace Go.Proofs.YtmmchemgegmhhaaGreatDoor
open Go.RowKit
def ActsIn (C : Array Value) (fs : List ActD) (k : Nat) : Prop := ∀ j (h : j < fs.length), j < k → C[j * 4]? = some (.int .i64 fs[j].kind) ∧ C[j * 4 + 1]? = some (.string fs[j].name) ∧ C[j * 4 + 2]? = some (.string fs[j].text) ∧ C[j * 4 + 3]? = some (.string fs[j].toN)
theorem Tryz.infoAct : (Tryz.prog.info? 103).map (fun i => (i.zero, i.size, i.bytes)) = some (some (.agg #[.int .i64 0, .string ⟨#[]⟩, .string ⟨#[]⟩, .string ⟨#[]⟩]), 4, 56) := by kernel_rfl
theorem actsAt_own {w : World} {g : Nat} {C : Array Value} {t : TypeId} {fs : List ActD} (h : w.heap[g]? = some (.cells C t (0, 0))) (hC : ActsIn C fs fs.length) : ActsAt w (some ⟨g, 0, none⟩) fs := by
  intro j hj
  obtain ⟨h0, h1, h2, h3⟩ := hC j hj hj
  have hg : g < w.heap.size := (Array.getElem?_eq_some_iff.1 h).1
  refine ⟨g, 0, rfl, hg, ?_, ?_, ?_, ?_⟩
  · rw [Nat.zero_add, cell_of_row w g _ C t (0, 0) h, h0]
  · rw [Nat.zero_add, cell_of_row w g _ C t (0, 0) h, h1]
  · rw [Nat.zero_add, cell_of_row w g _ C t (0, 0) h, h2]
  · rw [Nat.zero_add, cell_of_row w g _ C t (0, 0) h, h3]
def cellsAct : List ActD → List Value
  | [] => []
  | A :: r => .int .i64 A.kind :: .string A.name :: .string A.text :: .string A.toN :: cellsAct r
theorem cellsAct_append : ∀ (a b : List ActD), cellsAct (a ++ b) = cellsAct a ++ cellsAct b
  | [], _ => rfl
  | A :: r, b => by simp [cellsAct, cellsAct_append r b]
theorem cellsAct_length : ∀ a : List ActD, (cellsAct a).length = a.length * 4
  | [] => rfl
  | A :: r => by simp [cellsAct, cellsAct_length r]; omega
theorem cellsAct_one : ∀ (a : List ActD), ∀ u ∈ cellsAct a, u.oneCell' = true
  | [], u, h => absurd h List.not_mem_nil
  | A :: r, u, h => by
    simp only [cellsAct, List.mem_cons] at h
    rcases h with rfl | rfl | rfl | rfl | h
    · rfl
    · rfl
    · rfl
    · rfl
    · exact cellsAct_one r u h
theorem cellsAct_get : ∀ (a : List ActD) (j : Nat) (h : j < a.length), (cellsAct a)[j * 4]? = some (.int .i64 a[j].kind) ∧ (cellsAct a)[j * 4 + 1]? = some (.string a[j].name) ∧ (cellsAct a)[j * 4 + 2]? = some (.string a[j].text) ∧ (cellsAct a)[j * 4 + 3]? = some (.string a[j].toN)
  | [], _, h => absurd h (by simp)
  | A :: r, 0, _ => by simp [cellsAct]
  | A :: r, j + 1, h => by
    have := cellsAct_get r j (by simpa using h)
    have e : (j + 1) * 4 = j * 4 + 4 := by omega
    simp only [cellsAct, e]
    simpa using this
def RowAct (w : World) (B : Nat) (v : Value) (fs : List ActD) : Prop := (v = .slice none 0 0 ∧ fs = []) ∨
  ∃ (g cap : Nat) (C : Array Value), v = .slice (some ⟨g, 0, none⟩) fs.length cap ∧ B ≤ g ∧ w.heap[g]? = some (.cells C 103 (0, 0)) ∧ fs.length * 4 ≤ C.size ∧ ActsIn C fs fs.length
theorem rowAct_at {w : World} {B : Nat} {v : Value} {fs : List ActD} (h : RowAct w B v fs) : ∃ ao cap, v = .slice ao fs.length cap ∧ ActsAt w ao fs := by
  rcases h with ⟨rfl, rfl⟩ | ⟨g, cap, C, rfl, _, hC, _, hI⟩
  · exact ⟨none, 0, rfl, fun j hj => absurd hj (by simp)⟩
  · exact ⟨_, cap, rfl, actsAt_own hC hI⟩
theorem take_getAct {C : Array Value} {xs : List Value} {n : Nat} (h : C.toList.take n = xs) {j : Nat} {u : Value} (hj : j < n) (hu : xs[j]? = some u) : C[j]? = some u := by
  rw [← h, List.getElem?_take_of_lt hj] at hu
  simpa using hu
theorem rowAct_own {w : World} {B : Nat} {v : Value} {fs : List ActD} (h : w.ownsRow B 103 4 v fs.length (cellsAct fs)) : RowAct w B v fs := by
  rcases h.2 with ⟨rfl, hn⟩ | ⟨g, cap, cur, rfl, hB, hC, hle, _, hs, ht⟩
  · exact .inl ⟨rfl, List.eq_nil_of_length_eq_zero hn⟩
  · refine .inr ⟨g, cap, cur, rfl, hB, hC, by omega, ?_⟩
    intro j hj _
    obtain ⟨h0, h1, h2, h3⟩ := cellsAct_get fs j hj
    exact ⟨take_getAct ht (by omega) h0, take_getAct ht (by omega) h1, take_getAct ht (by omega) h2, take_getAct ht (by omega) h3⟩
theorem app_act {ops : Array Oper} {rest : List Oper} {o : Oper} {a : Act} {Q : Exit → Act → World → Prop} (W : World) (B : Nat) (hgd : o.guard = none) (s y : Operand)
    (ho : o.op = .call { callee := .builtin .append, args := #[s, y], argTypes := #[51, 51] }) (v : Value) (l : List ActD) (F : ActD) (hs : a.eval s = v)
    (hown : W.ownsRow B 103 4 v l.length (cellsAct l)) (k : Nat) (hx : a.eval y = .slice (some ⟨k, 0, none⟩) 1 1) (hblk : W.heap[k]? = some (.cells #[.int .i64 F.kind, .string F.name, .string F.text, .string F.toN] 103 (0, 0)))
    (hlen : l.length ≤ 1048576) (hbase : B ≤ W.heap.size)
    (h : ∀ g cap w', w'.ownsRow B 103 4 (.slice (some ⟨g, 0, none⟩) (l.length + 1) cap) (l ++ [F]).length (cellsAct (l ++ [F])) → Below B W w' → B ≤ g → g < w'.heap.size → wpList Tryz.prog ops Q rest (a.put o.dst (.slice (some ⟨g, 0, none⟩) (l.length + 1) cap)) w') :
    wpList Tryz.prog ops Q (o :: rest) a W := by
  obtain ⟨i0, hi, hz0, hz1, hz2⟩ := info_parts Tryz.infoAct
  refine wpList_append_lies W hgd s y 51 ho B 103 i0 (.agg #[.int .i64 0, .string ⟨#[]⟩, .string ⟨#[]⟩, .string ⟨#[]⟩]) 4 56 Tryz.underlying51 hi hz0 hz1 hz2 rfl (by decide) v l.length (cellsAct l) hs hown ⟨k, 0, none⟩ 1 1 (cellsAct [F]) hx (by rw [cellsAct_length]; rfl)
    (fun j u hj => World.news_of_block hblk j u hj) (cellsAct_one [F]) (by omega) (by unfold maxLen; omega) (by omega) hbase W.heap.size rfl ?_
  intro g cap w' hown' hgrow hg hgl
  have hlt := hown.lt
  refine h g cap w' ?_ ((Below.refl B W).grown hgrow hbase (fun k hk => (hlt k hk).1)) ?_ hgl
  · rw [cellsAct_append, List.length_append]
    exact hown'
  · rcases hg with hg | rfl
    · exact (hlt g hg).1
    · exact hbase
theorem app_acts {ops : Array Oper} {rest : List Oper} {o : Oper} {a : Act} {Q : Exit → Act → World → Prop} (W : World) (B : Nat) (hgd : o.guard = none) (s y : Operand)
    (ho : o.op = .call { callee := .builtin .append, args := #[s, y], argTypes := #[51, 51] }) (v : Value) (l rs : List ActD) (hs : a.eval s = v)
    (hown : W.ownsRow B 103 4 v l.length (cellsAct l)) (k n : Nat) (hn : rs.length = n) (hx : a.eval y = .slice (some ⟨k, 0, none⟩) n n) (hblk : W.heap[k]? = some (.cells (cellsAct rs).toArray 103 (0, 0)))
    (hlen : l.length ≤ 1048576) (hn0 : 0 < n) (hn1 : n ≤ 1000) (hbase : B ≤ W.heap.size)
    (h : ∀ g cap w', w'.ownsRow B 103 4 (.slice (some ⟨g, 0, none⟩) (l.length + n) cap) (l ++ rs).length (cellsAct (l ++ rs)) → Below B W w' → B ≤ g → g < w'.heap.size → wpList Tryz.prog ops Q rest (a.put o.dst (.slice (some ⟨g, 0, none⟩) (l.length + n) cap)) w') :
    wpList Tryz.prog ops Q (o :: rest) a W := by
  subst hn
  obtain ⟨i0, hi, hz0, hz1, hz2⟩ := info_parts Tryz.infoAct
  refine wpList_append_lies W hgd s y 51 ho B 103 i0 (.agg #[.int .i64 0, .string ⟨#[]⟩, .string ⟨#[]⟩, .string ⟨#[]⟩]) 4 56 Tryz.underlying51 hi hz0 hz1 hz2 rfl (by decide) v l.length (cellsAct l) hs hown ⟨k, 0, none⟩ rs.length rs.length (cellsAct rs) hx (by rw [cellsAct_length])
    (fun j u hj => World.news_of_block hblk j u (by simpa using hj)) (cellsAct_one rs) (by omega) (by unfold maxLen; omega) (by omega) hbase W.heap.size rfl ?_
  intro g cap w' hown' hgrow hg hgl
  have hlt := hown.lt
  refine h g cap w' ?_ ((Below.refl B W).grown hgrow hbase (fun k hk => (hlt k hk).1)) ?_ hgl
  · rw [cellsAct_append, List.length_append]
    exact hown'
  · rcases hg with hg | rfl
    · exact (hlt g hg).1
    · exact hbase
theorem app_actsR {ops : Array Oper} {rest : List Oper} {o : Oper} {a : Act} {Q : Exit → Act → World → Prop} (W : World) (B : Nat) (hgd : o.guard = none) (s y : Operand)
    (ho : o.op = .call { callee := .builtin .append, args := #[s, y], argTypes := #[51, 51] }) (v : Value) (l rs : List ActD) (hs : a.eval s = v)
    (hown : W.ownsRow B 103 4 v l.length (cellsAct l)) (B2 n : Nat) (v2 : Value) (hn : rs.length = n) (hx : a.eval y = v2) (hown2 : W.ownsRow B2 103 4 v2 rs.length (cellsAct rs))
    (hlen : l.length ≤ 1048576) (hn0 : 0 < n) (hn1 : n ≤ 1000000) (hbase : B ≤ W.heap.size)
    (h : ∀ g cap w', w'.ownsRow B 103 4 (.slice (some ⟨g, 0, none⟩) (l.length + n) cap) (l ++ rs).length (cellsAct (l ++ rs)) → Below B W w' → B ≤ g → g < w'.heap.size → wpList Tryz.prog ops Q rest (a.put o.dst (.slice (some ⟨g, 0, none⟩) (l.length + n) cap)) w') :
    wpList Tryz.prog ops Q (o :: rest) a W := by
  subst hn
  obtain ⟨i0, hi, hz0, hz1, hz2⟩ := info_parts Tryz.infoAct
  rcases hown2.2 with ⟨rfl, hn⟩ | ⟨g2, cap2, cur2, rfl, -⟩
  · omega
  refine wpList_append_lies W hgd s y 51 ho B 103 i0 (.agg #[.int .i64 0, .string ⟨#[]⟩, .string ⟨#[]⟩, .string ⟨#[]⟩]) 4 56 Tryz.underlying51 hi hz0 hz1 hz2 rfl (by decide) v l.length (cellsAct l) hs hown ⟨g2, 0, none⟩ rs.length cap2 (cellsAct rs) hx (by rw [cellsAct_length])
    (fun j u hj => hown2.cells (g := g2) rfl j u hj) (cellsAct_one rs) (by omega) (by unfold maxLen; omega) (by omega) hbase W.heap.size rfl ?_
  intro g cap w' hown' hgrow hg hgl
  have hlt := hown.lt
  refine h g cap w' ?_ ((Below.refl B W).grown hgrow hbase (fun k hk => (hlt k hk).1)) ?_ hgl
  · rw [cellsAct_append, List.length_append]
    exact hown'
  · rcases hg with hg | rfl
    · exact (hlt g hg).1
    · exact hbase
end Go.Proofs.YtmmchemgegmhhaaGreatDoor
