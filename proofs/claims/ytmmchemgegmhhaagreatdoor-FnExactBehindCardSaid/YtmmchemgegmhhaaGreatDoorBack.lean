/- slices.Backward over a row of segments: the last first. -/
import Derived.Test.YtmmchemgegmhhaaGreatDoorFramesP
import Derived.Test.YtmmchemgegmhhaaGreatDoorSegI0
import Derived.Test.YtmmchemgegmhhaaGreatDoorEngP
namespace Go.Proofs.YtmmchemgegmhhaaGreatDoor
open Go.RowKit Go.Shelf

attribute [local go_sem] Oper.semAt_some

/-- What a round must keep: what lay below n₀, and the box of the row. -/
def KpT (n₀ Bn : Nat) (t : TypeId) (W W' : World) : Prop := Below n₀ W W' ∧ ∀ v, Boxed W Bn t v → Boxed W' Bn t v
theorem kpT_t {n₀ Bn : Nat} {t : TypeId} {A B C : World} (h : KpT n₀ Bn t A B) (k : KpT n₀ Bn t B C) : KpT n₀ Bn t A C := ⟨h.1.trans k.1, fun v hv => k.2 v (h.2 v hv)⟩
theorem kpT_b {n₀ Bn : Nat} {t : TypeId} {w : World} (hn : n₀ ≤ w.heap.size) (W : World) (l : Nat) (o o' : Obj) (hl : w.heap.size ≤ l) (h : W.heap[l]? = some o) (hc : o.isCells = false) (hw : o.isWalk = false) : KpT n₀ Bn t W (W.putObj l o') :=
  ⟨belowK_b hn W l o o' hl h hc hw, fun v hv => hv.kept (grownBy_putObj' W l o') (fun e => by
    cases e
    have hv' : W.heap[Bn]? = some (.cells #[v] t (0, 0)) := hv
    rw [hv'] at h
    cases h
    cases hc)⟩

/-- Where a slice lies, and its room. -/
def sliceAC : Value → Option Addr × Nat
  | .slice a _ c => (a, c)
  | _ => (none, 0)
abbrev segC (s : SegD) (v p : Option Addr × Nat) : Array Value := #[.int .i64 (s.num : Int), .int .i64 (s.frm : Int), .slice v.1 s.bs.length v.2, .slice p.1 s.pls.length p.2, .int .i64 (s.fin : Int), .bool s.right, .bool s.torn]
/-- The values of the segments of a row, as a round is handed them. -/
abbrev segV (s : SegD) (v p : Option Addr × Nat) : Value := .agg (segC s v p)
/-- The segments of a row, with where their batches and places lie. -/
def SegsV (w : World) (ao : Option Addr) (l : List SegD) (vs ps : List (Option Addr × Nat)) : Prop := vs.length = l.length ∧ ps.length = l.length ∧ ∀ j (s : SegD) (v p : Option Addr × Nat), l[j]? = some s → vs[j]? = some v → ps[j]? = some p → ∃ g, ao = some ⟨g, 0, none⟩ ∧ g < w.heap.size ∧
  w.cell? ⟨g, j * 7, none⟩ = some (.int .i64 (s.num : Int)) ∧ w.cell? ⟨g, j * 7 + 1, none⟩ = some (.int .i64 (s.frm : Int)) ∧ w.cell? ⟨g, j * 7 + 2, none⟩ = some (.slice v.1 s.bs.length v.2) ∧ w.cell? ⟨g, j * 7 + 3, none⟩ = some (.slice p.1 s.pls.length p.2) ∧ w.cell? ⟨g, j * 7 + 4, none⟩ = some (.int .i64 (s.fin : Int)) ∧ w.cell? ⟨g, j * 7 + 5, none⟩ = some (.bool s.right) ∧ w.cell? ⟨g, j * 7 + 6, none⟩ = some (.bool s.torn)
theorem segsV_of {w : World} {B K n cap : Nat} {ao : Option Addr} {l : List SegD} (h : BuildG w B K (.slice ao n cap) l) : ∃ vs ps, SegsV w ao l vs ps ∧ (∀ (j : Nat) (x : Option Addr × Nat) (s : SegD), vs[j]? = some x → l[j]? = some s → RowBatch w K (.slice x.1 s.bs.length x.2) s.bs) := by
  obtain ⟨vs, ps, h0, h1, h2, h3, h4⟩ := h
  refine ⟨vs.map sliceAC, ps.map sliceAC, ⟨by simp [h0], by simp [h1], fun j s v p hs hv hp => ?_⟩, fun j x s hx hs => ?_⟩
  · rw [List.getElem?_map, Option.map_eq_some_iff] at hv hp
    obtain ⟨v', hv, rfl⟩ := hv
    obtain ⟨p', hp, rfl⟩ := hp
    have hj : j < l.length := (List.getElem?_eq_some_iff.1 hs).1
    obtain ⟨a, c, rfl, -⟩ := rowBatch_at (h3 j v' s hv hs)
    obtain ⟨a', c', rfl⟩ := rowNat_form (h4 j p' s hp hs)
    rcases h2.2 with ⟨_, hn⟩ | ⟨g, cap', cur, hv', hB, hC, hle, _, hsz, ht⟩
    · omega
    · cases hv'
      obtain ⟨k1, k2, k3, k4, k5, k6, k7⟩ := cellsSeg_get l vs ps j s _ _ hs hv hp
      refine ⟨g, rfl, (Array.getElem?_eq_some_iff.1 hC).1, ?_, ?_, ?_, ?_, ?_, ?_, ?_⟩
      · exact (cell_of_row w g (j * 7) _ _ (0, 0) hC).trans (take_getChange ht (by omega) k1)
      · exact (cell_of_row w g (j * 7 + 1) _ _ (0, 0) hC).trans (take_getChange ht (by omega) k2)
      · exact (cell_of_row w g (j * 7 + 2) _ _ (0, 0) hC).trans (take_getChange ht (by omega) k3)
      · exact (cell_of_row w g (j * 7 + 3) _ _ (0, 0) hC).trans (take_getChange ht (by omega) k4)
      · exact (cell_of_row w g (j * 7 + 4) _ _ (0, 0) hC).trans (take_getChange ht (by omega) k5)
      · exact (cell_of_row w g (j * 7 + 5) _ _ (0, 0) hC).trans (take_getChange ht (by omega) k6)
      · exact (cell_of_row w g (j * 7 + 6) _ _ (0, 0) hC).trans (take_getChange ht (by omega) k7)
  · rw [List.getElem?_map, Option.map_eq_some_iff] at hx
    obtain ⟨v', hv, rfl⟩ := hx
    have := h3 j v' s hv hs
    obtain ⟨a, c, rfl, -⟩ := rowBatch_at this
    exact this
theorem segsV_keep {w w' : World} {n₀ : Nat} {ao : Option Addr} {l : List SegD} {vs ps : List (Option Addr × Nat)} (h : SegsV w ao l vs ps) (hao : ∀ g, ao = some ⟨g, 0, none⟩ → g < n₀) (hb : Below n₀ w w') (hw : w.heap.size ≤ w'.heap.size) : SegsV w' ao l vs ps := by
  refine ⟨h.1, h.2.1, fun j s v p hs hv hp => ?_⟩
  obtain ⟨g, h1, h2, h3, h4, h5, h6, h7, h8, h9⟩ := h.2.2 j s v p hs hv hp
  have hg := hao g h1
  exact ⟨g, h1, by omega, (hb.cell (p := ⟨g, j * 7, none⟩) hg).trans h3, (hb.cell (p := ⟨g, j * 7 + 1, none⟩) hg).trans h4, (hb.cell (p := ⟨g, j * 7 + 2, none⟩) hg).trans h5, (hb.cell (p := ⟨g, j * 7 + 3, none⟩) hg).trans h6, (hb.cell (p := ⟨g, j * 7 + 4, none⟩) hg).trans h7, (hb.cell (p := ⟨g, j * 7 + 5, none⟩) hg).trans h8, (hb.cell (p := ⟨g, j * 7 + 6, none⟩) hg).trans h9⟩

/-- The places of a row. -/
abbrev Pl (l : List SegD) := { j : Nat // j < l.length }
def pv {l : List SegD} (x : List (Pl l)) : List Nat := x.map Subtype.val
theorem pv_snoc {l : List SegD} (x : List (Pl l)) (y : Pl l) : pv (x ++ [y]) = pv x ++ [y.1] := by simp [pv]
theorem pv_len {l : List SegD} (x : List (Pl l)) : (pv x).length = x.length := by simp [pv]
/-- The places from the last on down to k. -/
def downTo (n k : Nat) : List Nat := ((List.range n).drop k).reverse
theorem downTo_step {n k : Nat} (h : k < n) : downTo n k = downTo n (k + 1) ++ [k] := by
  unfold downTo
  rw [List.drop_eq_getElem_cons (by simpa using h)]
  simp
theorem downTo_top (n : Nat) : downTo n n = [] := by
  unfold downTo
  rw [List.drop_eq_nil_of_le (by simp)]
  rfl
theorem downTo_zero (n : Nat) : downTo n 0 = (List.range n).reverse := rfl
theorem downTo_pre {n k : Nat} : ∃ rest, downTo n 0 = downTo n k ++ rest := by
  unfold downTo
  refine ⟨((List.range n).take k).reverse, ?_⟩
  rw [← List.reverse_append, List.take_append_drop, List.drop_zero]
theorem downTo_len (n k : Nat) : (downTo n k).length ≤ n := by
  unfold downTo
  rw [List.length_reverse, List.length_drop, List.length_range]
  omega

set_option maxRecDepth 100000 in
set_option maxHeartbeats 1000000 in
theorem back1_pre (l : List SegD) (vs ps : List (Option Addr × Nat)) (hvs : vs.length = l.length) (hps : ps.length = l.length) (hl : l.length ≤ 100) (ao : Option Addr) (cap : Nat) (n L Bn n₀ : Nat) (hn : 1 ≤ n) (J Jx : List (Pl l) → World → Prop)
    (hY : ∀ pre x W, J pre W → pre.length < l.length → YieldAt Fence.wide (n - 1) Tryz.prog L #[.int .i64 (x.1 : Int), segV (l[x.1]'x.2) (vs[x.1]'(by have := x.2; omega)) (ps[x.1]'(by have := x.2; omega))] W fun e W' =>
      (e = .returned (.bool true) ∧ J (pre ++ [x]) W' ∧ KpT n₀ Bn 138 W W') ∨ (e = .returned (.bool false) ∧ Jx (pre ++ [x]) W'))
    (W : World) (hJ : AbidesFrom W.heap.size J) (hbox : Boxed W Bn 138 (.slice ao l.length cap)) (hao : ∀ g, ao = some ⟨g, 0, none⟩ → g < n₀) (hV : SegsV W ao l vs ps) (h0 : J [] W) :
    CallsIn Fence.wide n Tryz.prog 200 #[.func (.yield L) #[] #[], .pointer (some ⟨Bn, 0, none⟩)] W fun e W' => (∃ v, e = .returned v) ∧
      ((∃ ys, pv ys = downTo l.length 0 ∧ J ys W') ∨ (∃ pre, (∃ rest, downTo l.length 0 = pv pre ++ rest) ∧ Jx pre W')) := by
  have HY := hide hY
  have HJ := hide hJ
  have HV := hide hV
  have HAO := hide hao
  clear hY hJ hV hao
  have hc0 := hbox.cell
  have hw0 : IntKind.i64.wrap ((l.length : Int) - 1) = (l.length : Int) - 1 := by rw [IntKind.wrap_i64]; omega
  refine callsIn_of_wp Tryz.func200 rfl trivial ?_ rfl
  simp only [Tryz.ntmps200, List.size_toArray, List.length_cons, List.length_nil, Nat.reduceAdd, Nat.reduceSub, Array.replicate_succ, Array.replicate_zero, List.push_toArray, List.append_toArray, List.nil_append, List.cons_append]
  gi_wp2
  gi_loopw [3] (fun a wr => ∃ (pre : List (Pl l)) (i : Nat), a = .int .i64 ((i : Int) - 1) ∧ i ≤ l.length ∧ Hid (pv pre = downTo l.length i) ∧ Hid (J pre wr) ∧ Boxed wr Bn 138 (.slice ao l.length cap) ∧ Below n₀ W wr ∧ W.heap.size ≤ wr.heap.size) (fun a _ => (intOf a + 1).toNat)
  case atStart => exact ⟨[], l.length, rfl, Nat.le_refl _, (downTo_top _).symm, h0, hbox, Below.refl _ _, Nat.le_refl _⟩
  case round =>
    obtain ⟨pre, i, rfl, hi, hpre, hJp, hbx, hbl, hsz⟩ := hrel
    have hc := hbx.cell
    have HVr := hide (segsV_keep HV.out HAO.out hbl hsz)
    cases i with
    | zero =>
      have hz : decide ((0 : Int) ≤ ((0 : Nat) : Int) - 1) = false := by decide
      gi_wp2
      refine bodyPost_end (results_none rfl _ _ _) rfl ?_
      exact ⟨⟨_, rfl⟩, .inl ⟨pre, hpre.out, hJp.out⟩⟩
    | succ i =>
      have hz : decide ((0 : Int) ≤ (i : Int)) = true := by simp
      have hi1 : ((i + 1 : Nat) : Int) - 1 = (i : Int) := by omega
      have hi0 : (0 : Int) ≤ (i : Int) := by omega
      have hi2 : (i : Int) < (l.length : Int) := by omega
      rw [hi1]
      have hil : i < l.length := by omega
      obtain ⟨g, hg, hgw, e0, e1, e2, e3, e4, e5, e6⟩ := HVr.out.2.2 i l[i] (vs[i]'(by omega)) (ps[i]'(by omega)) (List.getElem?_eq_getElem hil) (List.getElem?_eq_getElem (by omega)) (List.getElem?_eq_getElem (by omega))
      subst hg
      have hlen : pre.length < l.length := by
        have e := congrArg List.length hpre.out
        rw [pv_len] at e
        unfold downTo at e
        rw [List.length_reverse, List.length_drop, List.length_range] at e
        omega
      have HS : Hid (pv (pre ++ [⟨i, hil⟩]) = downTo l.length i) := by show _ = _; rw [pv_snoc, hpre.out, ← downTo_step hil]
      obtain ⟨fn, tmps, assign, body, hy, hR⟩ := HY.out pre ⟨i, hil⟩ wr hJp.out hlen
      have hwr : IntKind.i64.wrap ((i : Int) - 1) = (i : Int) - 1 := by rw [IntKind.wrap_i64]; omega
      gi_wp2
      refine hR.mono ?_
      rintro e W3 (⟨rfl, hJ3, hk3⟩ | ⟨rfl, hJx3⟩)
      · gi_wp2
        go_roundw
        case rel => exact ⟨pre ++ [⟨i, hil⟩], i, rfl, by omega, HS, hide hJ3, hk3.2 _ hbx, hbl.trans hk3.1, Nat.le_trans hsz hk3.1.size⟩
        case measure => first | omega | (simp [intOf]; done) | (simp [intOf]; omega)
      · gi_wp2
        refine bodyPost_ret (results_none rfl _ _ _) rfl ?_
        exact ⟨⟨_, rfl⟩, .inr ⟨_, by rw [HS.out]; exact downTo_pre, hJx3⟩⟩

theorem backward_any (ao : Option Addr) (n cap : Nat) (w : World) :
    Calls Tryz.prog 172 #[.slice ao n cap] w fun e w' => e = .returned (.func (.func 200) #[] #[.pointer (some ⟨w.heap.size, 0, none⟩)]) ∧ w' = w.alloc (.cells #[.slice ao n cap] 138) := by
  go_enter Tryz.func172, Tryz.ntmps172
  go_wp2
  go_ret
  exact ⟨rfl, rfl⟩

/-- The segments are handed out from the last on. -/
theorem back_stops (l : List SegD) (vs ps : List (Option Addr × Nat)) (hvs : vs.length = l.length) (hps : ps.length = l.length) (hl : l.length ≤ 100) (ao : Option Addr) (cap : Nat) (n Bn n₀ : Nat) (hn : 1 ≤ n) (w : World) (hn₀ : n₀ ≤ w.heap.size) (hbox : Boxed w Bn 138 (.slice ao l.length cap)) (hao : ∀ g, ao = some ⟨g, 0, none⟩ → g < n₀) (hV : SegsV w ao l vs ps) :
    SeqStopsK Fence.wide n Tryz.prog 200 #[.pointer (some ⟨Bn, 0, none⟩)] (fun x : Pl l => #[Value.int .i64 (x.1 : Int), segV (l[x.1]'x.2) (vs[x.1]'(by have := x.2; omega)) (ps[x.1]'(by have := x.2; omega))]) (KpT n₀ Bn 138) (fun ys => pv ys = downTo l.length 0) (fun pre => ∃ rest, downTo l.length 0 = pv pre ++ rest) l.length w := fun L J Jx W hW hJ _ hY h0 =>
  back1_pre l vs ps hvs hps hl ao cap n L Bn n₀ hn J Jx hY W hJ (hbox.kept (grownBy_below none hW) (by simp)) hao (segsV_keep hV hao (hW.mono hn₀) hW.size) h0
end Go.Proofs.YtmmchemgegmhhaaGreatDoor
