/- A drawn batch, right or not (written by tools/gen_drawany.py). -/
import Derived.Test.YtcpbkllonamleabDrawL
import Derived.Test.YtcpbkllonamleabPickI
import Derived.Test.YtcpbkllonamleabDec
namespace Go.Proofs.Ytcpbkllonamleab
open Go.RowKit

/-- One change is put behind a row of the call's own, at a step of a region that draws its order: which blocks are kept. -/
theorem step_app_change_g {ops : Array Oper} {o : Oper} {a : Act} {K : Act → World → Prop} {Q : Exit → Act → World → Prop} {E : Prop} (W : World) (B : Nat) (hgd : o.guard = none) (s y : Operand)
    (ho : o.op = .call { callee := .builtin .append, args := #[s, y], argTypes := #[24, 24] }) (v : Value) (l : List ChangeD) (F : ChangeD) (hs : a.eval s = v)
    (hown : W.ownsRow B 40 3 v l.length (cellsChange l)) (k : Nat) (hx : a.eval y = .slice (some ⟨k, 0, none⟩) 1 1) (hblk : W.heap[k]? = some (.cells #[.string F.key, .string F.value, .bool F.gone] 40 (0, 0)))
    (hlen : l.length ≤ 1048576) (hbase : B ≤ W.heap.size)
    (h : ∀ g cap w', w'.ownsRow B 40 3 (.slice (some ⟨g, 0, none⟩) (l.length + 1) cap) (l ++ [F]).length (cellsChange (l ++ [F])) → W.grownBy w' v.ownBlock → (v.ownBlock = some g ∨ g = W.heap.size) → K (a.put o.dst (.slice (some ⟨g, 0, none⟩) (l.length + 1) cap)) w') :
    if Region.wanted o (yielded ops a.tmps) = true then Oper.wp Try.prog o a W K Q else E := by
  obtain ⟨i0, hi, hz0, hz1, hz2⟩ := info_parts Try.infoChange
  refine step_append_lies W hgd s y 24 ho B 40 i0 (.agg #[.string ⟨#[]⟩, .string ⟨#[]⟩, .bool false]) 3 40 Try.underlying24 hi hz0 hz1 hz2 rfl (by decide) v l.length (cellsChange l) hs hown ⟨k, 0, none⟩ 1 1 (cellsChange [F]) hx (by rw [cellsChange_length]; rfl)
    (fun j u hj => World.news_of_block hblk j u hj) (cellsChange_one [F]) (by omega) (by unfold maxLen; omega) (by omega) hbase W.heap.size rfl ?_
  intro g cap w' hown' hgrow hg _
  refine h g cap w' ?_ hgrow hg
  rw [cellsChange_append, List.length_append]
  exact hown'

theorem cellsChange_set0 : ∀ (fs : List ChangeD) (k : Nat) (h : k < fs.length) (Z : ByteArray), (cellsChange fs).set (k * 3) (.string Z) = cellsChange (fs.set k ⟨Z, fs[k].value, fs[k].gone⟩)
  | A :: r, 0, _, Z => by simp [cellsChange]
  | A :: r, k + 1, h, Z => by
    have ih := cellsChange_set0 r k (by simpa using h) Z
    rw [show (k + 1) * 3 = k * 3 + 1 + 1 + 1 from by omega]
    simp [cellsChange, ih]
theorem cellsChange_set1 : ∀ (fs : List ChangeD) (k : Nat) (h : k < fs.length) (Z : ByteArray), (cellsChange fs).set (k * 3 + 1) (.string Z) = cellsChange (fs.set k ⟨fs[k].key, Z, fs[k].gone⟩)
  | A :: r, 0, _, Z => by simp [cellsChange]
  | A :: r, k + 1, h, Z => by
    have ih := cellsChange_set1 r k (by simpa using h) Z
    rw [show (k + 1) * 3 + 1 = k * 3 + 1 + 1 + 1 + 1 from by omega]
    simp [cellsChange, ih]
theorem cellsChange_set2 : ∀ (fs : List ChangeD) (k : Nat) (h : k < fs.length) (b : Bool), (cellsChange fs).set (k * 3 + 2) (.bool b) = cellsChange (fs.set k ⟨fs[k].key, fs[k].value, b⟩)
  | A :: r, 0, _, b => by simp [cellsChange]
  | A :: r, k + 1, h, b => by
    have ih := cellsChange_set2 r k (by simpa using h) b
    rw [show (k + 1) * 3 + 2 = k * 3 + 2 + 1 + 1 + 1 from by omega]
    simp [cellsChange, ih]

/-- What bounds a drawn batch. -/
def BD (fs : List ChangeD) : Prop := fs.length ≤ 42 ∧ ∀ A ∈ fs, A.key.size ≤ 100 ∧ A.value.size ≤ 3000
theorem bd_set {fs : List ChangeD} {k : Nat} {F : ChangeD} (h : BD fs) (h1 : F.key.size ≤ 100) (h2 : F.value.size ≤ 3000) : BD (fs.set k F) := by
  refine ⟨by rw [List.length_set]; exact h.1, fun A hA => ?_⟩
  rcases List.mem_or_eq_of_mem_set hA with hA | rfl
  · exact h.2 A hA
  · exact ⟨h1, h2⟩
theorem bd_snoc {fs : List ChangeD} {F : ChangeD} {n : Nat} (h : BD fs) (hn : fs.length ≤ n) (hn' : n ≤ 41) (h1 : F.key.size ≤ 100) (h2 : F.value.size ≤ 3000) : BD (fs ++ [F]) := by
  refine ⟨by rw [List.length_append]; simp only [List.length_cons, List.length_nil]; omega, fun A hA => ?_⟩
  rcases List.mem_append.1 hA with hA | hA
  · exact h.2 A hA
  · rw [List.mem_singleton.1 hA]; exact ⟨h1, h2⟩
theorem bd_at {fs : List ChangeD} {k : Nat} (h : BD fs) (hk : k < fs.length) : fs[k].key.size ≤ 100 ∧ fs[k].value.size ≤ 3000 := h.2 _ (List.getElem_mem hk)

/-- What l05Any holds: the cursor, the cells of its answer, the batch in block p, its row. -/
def AS (w0 w wr : World) (g p : Nat) (ao : Option Addr) (len cap : Nat) (q : Int) (v : Value) (fs : List ChangeD) : Prop :=
  CurAt w0 wr g ao len cap ∧ w.grownBy wr (some g) ∧ wr.heap[w.heap.size]? = some (.cells #[.int .i64 0, .slice none 0 0] 26 (0, 0)) ∧ wr.heap[p]? = some (.cells #[.int .i64 q, v] 26 (0, 0)) ∧
  wr.ownsRow (w.heap.size + 1) 40 3 v fs.length (cellsChange fs) ∧ v.ownBlock ≠ some p
theorem as_grown {w0 w wr : World} {g p : Nat} {ao : Option Addr} {len cap : Nat} {q : Int} {v : Value} {fs : List ChangeD} {w' : World} (h : AS w0 w wr g p ao len cap q v fs) (hg : g < w.heap.size) (hp : w.heap.size < p) (hc : CurAt w0 w' g ao len cap) (hgr : wr.grownBy w' (some g)) : AS w0 w w' g p ao len cap q v fs := by
  obtain ⟨_, h2, h3, h4, h5, h6⟩ := h
  exact ⟨hc, grownBy_trans h2 hgr, (hgr.block _ (blk_lt h3) (by simp; omega)).trans h3, (hgr.block _ (blk_lt h4) (by simp; omega)).trans h4, row_keep h5 hgr (by omega), h6⟩
theorem as_below {w0 w wr : World} {g p : Nat} {ao : Option Addr} {len cap : Nat} {q : Int} {v : Value} {fs : List ChangeD} {w' : World} (h : AS w0 w wr g p ao len cap q v fs) (hb : Below wr.heap.size wr w') : AS w0 w w' g p ao len cap q v fs := by
  obtain ⟨h1, h2, h3, h4, h5, h6⟩ := h
  exact ⟨cur_keep h1 hb (cur_lt h1), grownBy_trans h2 (grownBy_below _ hb), (hb.block _ (blk_lt h3)).trans h3, (hb.block _ (blk_lt h4)).trans h4, ownsRow_below h5 hb, h6⟩
theorem as_cells {w0 w wr : World} {g p : Nat} {ao : Option Addr} {len cap : Nat} {q : Int} {v : Value} {fs : List ChangeD} (h : AS w0 w wr g p ao len cap q v fs) : (wr.cell? ⟨p, 0, none⟩ = some (.int .i64 q) ∧ wr.cell? ⟨p, 1, none⟩ = some v ∧ wr.frozen? ⟨p, 0, none⟩ = false ∧ wr.frozen? ⟨p, 1, none⟩ = false) ∧
    wr.cell? ⟨w.heap.size, 0, none⟩ = some (.int .i64 0) ∧ wr.cell? ⟨w.heap.size, 1, none⟩ = some (.slice none 0 0) ∧ wr.frozen? ⟨w.heap.size, 0, none⟩ = false ∧ wr.frozen? ⟨w.heap.size, 1, none⟩ = false := by
  obtain ⟨_, _, h3, h4, _⟩ := h
  exact ⟨⟨(cell_of_row wr _ 0 _ _ (0, 0) h4).trans rfl, (cell_of_row wr _ 1 _ _ (0, 0) h4).trans rfl, frozen_of_row wr _ 0 _ _ h4, frozen_of_row wr _ 1 _ _ h4⟩, (cell_of_row wr _ 0 _ _ (0, 0) h3).trans rfl, (cell_of_row wr _ 1 _ _ (0, 0) h3).trans rfl, frozen_of_row wr _ 0 _ _ h3, frozen_of_row wr _ 1 _ _ h3⟩
theorem as_seq {w0 w wr : World} {g p : Nat} {ao : Option Addr} {len cap : Nat} {q : Int} {v : Value} {fs : List ChangeD} (h : AS w0 w wr g p ao len cap q v fs) (hg : g < w.heap.size) (hp : w.heap.size < p) (z : Int) : AS w0 w (wr.setCell ⟨p, 0, none⟩ (.int .i64 z)) g p ao len cap z v fs := by
  obtain ⟨h1, h2, h3, h4, h5, h6⟩ := h
  exact ⟨cur_far h1 (by omega), grown_far h2 (by omega) _ _, (Below.heap_setCell _ _ _ _ (by intro e; simp only at e; omega)).trans h3, (heap_setCell_same _ _ _ _ _ _ h4).trans rfl, h5.kept (grownBy_store (World.grownBy.refl _ (some p)) 0 _) (.inr h6), h6⟩
/-- A new row is put into the batch. -/
theorem as_row {w0 w wr : World} {g p : Nat} {ao : Option Addr} {len cap : Nat} {q : Int} {v : Value} {fs : List ChangeD} {W : World} {v' : Value} {fs' : List ChangeD} (h : AS w0 w wr g p ao len cap q v fs) (hg : g < w.heap.size) (hp : w.heap.size < p) (hb : wr.grownBy W v.ownBlock) (ho : W.ownsRow (w.heap.size + 1) 40 3 v' fs'.length (cellsChange fs')) (hv : v'.ownBlock ≠ some p) : AS w0 w (W.setCell ⟨p, 1, none⟩ v') g p ao len cap q v' fs' := by
  obtain ⟨h1, h2, h3, h4, h5, h6⟩ := h
  have hlt := h5.lt
  have hne : ∀ k, k < w.heap.size + 1 → some k ≠ v.ownBlock := fun k hk e => by have := (hlt k e.symm).1; omega
  obtain ⟨c1, c2, i, z, T, c3, c4⟩ := h1
  have k4 := (hb.block p (blk_lt h4) (fun e => h6 e.symm)).trans h4
  refine ⟨⟨?_, c2, i, z, T, c3, (Below.heap_setCell _ _ _ _ (by intro e; simp only at e; omega)).trans ((hb.block g (blk_lt c4) (hne g (by omega))).trans c4)⟩, ?_, (Below.heap_setCell _ _ _ _ (by intro e; simp only at e; omega)).trans ((hb.block _ (blk_lt h3) (hne _ (by omega))).trans h3), (heap_setCell_same _ _ _ _ _ _ k4).trans rfl, ho.kept (grownBy_store (World.grownBy.refl _ (some p)) 1 _) (.inr hv), hv⟩
  · have c5 : w0.heap.size ≤ wr.heap.size := c1.size
    exact (c1.grown hb c5 (fun k hk => by have := (hlt k hk).1; omega)).setCell (p := ⟨p, 1, none⟩) (by show w0.heap.size ≤ p; omega) _
  · refine grown_far ⟨hb.os.trans h2.os, hb.tape.trans h2.tape, hb.output.trans h2.output, Nat.le_trans h2.size hb.size, fun k hk hr => ?_⟩ (by omega) _ _
    exact (hb.block k (Nat.lt_of_lt_of_le hk h2.size) (hne k (by omega))).trans (h2.block k hk hr)
/-- A cell of the row is another. -/
theorem as_elem {w0 w wr : World} {g p : Nat} {ao : Option Addr} {len cap : Nat} {q : Int} {fs fs' : List ChangeD} {gb n c j : Nat} {u : Value} (h : AS w0 w wr g p ao len cap q (.slice (some ⟨gb, 0, none⟩) n c) fs) (hn : fs.length = n) (hg : g < w.heap.size) (hc : (cellsChange fs).set j u = cellsChange fs') (hl : fs'.length = fs.length) : AS w0 w (wr.setCell ⟨gb, j, none⟩ u) g p ao len cap q (.slice (some ⟨gb, 0, none⟩) n c) fs' := by
  subst hn
  obtain ⟨h1, h2, h3, h4, h5, h6⟩ := h
  have hgb := (h5.lt gb rfl).1
  have hpb : gb ≠ p := fun e => h6 (by simp [Value.ownBlock, e])
  have hs := (h5.stored j u).1
  rw [hc] at hs
  refine ⟨cur_far h1 (by omega), grown_far h2 (by omega) _ _, (Below.heap_setCell _ _ _ _ (by intro e; simp only at e; omega)).trans h3, (Below.heap_setCell _ _ _ _ (by intro e; simp only at e; omega)).trans h4, ?_, h6⟩
  rw [hl]
  exact hs
theorem as_end {w0 w wr : World} {g p : Nat} {ao : Option Addr} {len cap : Nat} {q : Int} {v : Value} {fs : List ChangeD} (h : AS w0 w wr g p ao len cap q v fs) (hg : g < w.heap.size) (x y : Value) : RowChange ((wr.setCell ⟨w.heap.size, 0, none⟩ x).setCell ⟨w.heap.size, 1, none⟩ y) w.heap.size v fs ∧ CurAt w0 ((wr.setCell ⟨w.heap.size, 0, none⟩ x).setCell ⟨w.heap.size, 1, none⟩ y) g ao len cap ∧ w.grownBy ((wr.setCell ⟨w.heap.size, 0, none⟩ x).setCell ⟨w.heap.size, 1, none⟩ y) (some g) := by
  obtain ⟨h1, h2, h3, h4, h5, h6⟩ := h
  have hrow := rowChange_own h5
  refine ⟨rowChange_le (rowChange_keep hrow (fun b hb => ?_)) (Nat.le_succ _), cur_far (cur_far h1 hg) hg, grown_far (grown_far h2 (Nat.le_refl _) _ _) (Nat.le_refl _) _ _⟩
  have := (rowChange_lt hrow b hb).1
  exact (Below.heap_setCell _ _ _ _ (by intro e; simp only at e; omega)).trans (Below.heap_setCell _ _ _ _ (by intro e; simp only at e; omega))
theorem as_elems {w0 w wr : World} {g p : Nat} {ao : Option Addr} {len cap : Nat} {q : Int} {fs : List ChangeD} {gb c : Nat} (h : AS w0 w wr g p ao len cap q (.slice (some ⟨gb, 0, none⟩) fs.length c) fs) {k : Nat} (hk : k < fs.length) :
    (wr.cell? ⟨gb, k * 3, none⟩ = some (.string fs[k].key) ∧ wr.cell? ⟨gb, k * 3 + 1, none⟩ = some (.string fs[k].value) ∧ wr.cell? ⟨gb, k * 3 + 2, none⟩ = some (.bool fs[k].gone)) ∧ ∀ j, wr.frozen? ⟨gb, j, none⟩ = false := by
  obtain ⟨h1, h2, h3, h4, h5, h6⟩ := h
  obtain ⟨e0, e1, e2⟩ := cellsChange_get fs k hk
  exact ⟨⟨(h5.cellAt (k * 3) (by omega)).trans e0, (h5.cellAt (k * 3 + 1) (by omega)).trans e1, (h5.cellAt (k * 3 + 2) (by omega)).trans e2⟩, fun j => h5.frozenAt j⟩
theorem own_form {w : World} {B n c : Nat} {a : Option Addr} {xs : List Value} (h : w.ownsRow B 40 3 (.slice a n c) n xs) (hn : 1 ≤ n) : ∃ gb, a = some ⟨gb, 0, none⟩ := by
  rcases h.2 with ⟨_, h0⟩ | ⟨gb, cap, cur, hv, _⟩
  · omega
  · simp only [Value.slice.injEq] at hv
    exact ⟨gb, hv.1⟩
theorem three_small {Z T1 T2 : ByteArray} (h : Z ∈ ([⟨#[]⟩, T1, T2] : List ByteArray)) (h1 : T1.size ≤ 100) (h2 : T2.size ≤ 100) : Z.size ≤ 100 := by
  simp only [List.mem_cons, List.not_mem_nil, or_false] at h
  rcases h with rfl | rfl | rfl
  · decide
  · exact h1
  · exact h2
theorem three_ints {z : Int} (h : z ∈ ([1, 210, 230] : List Int)) : 0 ≤ z ∧ z ≤ 230 := by
  simp only [List.mem_cons, List.not_mem_nil, or_false] at h
  omega
theorem decS_small (n : Int) (h0 : 0 ≤ n) (h1 : n ≤ 1000) : (Wd.decS n).length ≤ 20 := by
  obtain ⟨m, rfl⟩ := Int.eq_ofNat_of_zero_le h0
  unfold Wd.decS
  split
  · simp
  · rw [if_neg (by omega), Int.natAbs_natCast]
    have := Wd.decA_length 20 m [] 4 (by omega)
    simp at this
    omega

set_option maxRecDepth 100000 in
set_option maxHeartbeats 8000000 in
theorem any_any (w0 w : World) (g : Nat) (ao : Option Addr) (len cap : Nat) (hlen : len ≤ 1048576) (hcode : Code w0 ao len) (hc : CurAt w0 w g ao len cap) :
    Calls Try.prog 14 #[.pointer (some ⟨g, 0, none⟩)] w fun e w' => ∃ (q : Int) (a : Option Addr) (c : Nat) (fs : List ChangeD), e = .returned (.agg #[.int .i64 q, .slice a fs.length c]) ∧ RowChange w' w.heap.size (.slice a fs.length c) fs ∧ fs.length ≤ 42 ∧ (∀ A ∈ fs, A.key.size ≤ 100 ∧ A.value.size ≤ 3000) ∧ CurAt w0 w' g ao len cap ∧ w.grownBy w' (some g) := by
  have HC := hide hcode
  have hg := cur_lt hc
  obtain ⟨wR, hwR⟩ : ∃ wR, wR = w.alloc (.cells #[.int .i64 0, .slice none 0 0] 26) := ⟨_, rfl⟩
  have BR : Hid (Below w.heap.size w wR) := by rw [hwR]; exact (Below.refl _ w).alloc (Nat.le_refl _) _
  have XR : Hid (wR.heap[w.heap.size]? = some (.cells #[.int .i64 0, .slice none 0 0] 26 (0, 0))) := by rw [hwR]; exact heap_alloc_new w _
  have UR := hide (cur_keep hc BR.out hg)
  clear hcode hc
  go_enter Try.func14, Try.ntmps14
  go_wp2_with fail
  rw [← hwR]
  clear hwR
  refine (below_any w0 _ g ao len cap _ hlen (by omega) HC.out UR.out).mono ?_
  rintro e w1 ⟨q0, rfl, _, _, hc1, g1⟩
  have U1 := hide hc1
  have G1 := hide (grownBy_trans (grownBy_below (some g) BR.out) g1)
  have X1 := hide ((g1.block _ (blk_lt XR.out) (by simp; omega)).trans XR.out)
  clear hc1 g1 UR BR XR
  go_wp2_with fail
  refine (list_any w0 _ g ao len cap hlen HC.out U1.out).mono ?_
  rintro e w2 ⟨a, c, fs, rfl, ho2, hn1, hn6, hbd, hc2, g2⟩
  obtain ⟨gb, rfl⟩ := own_form ho2 hn1
  have hs1 : w.heap.size < w1.heap.size := blk_lt X1.out
  obtain ⟨p, hp⟩ : ∃ p, p = w2.heap.size := ⟨_, rfl⟩
  obtain ⟨w3, hw3⟩ : ∃ w3, w3 = w2.alloc (.cells #[.int .i64 (q0 : Int), (.slice (some ⟨gb, 0, none⟩) fs.length c)] 26) := ⟨_, rfl⟩
  have hpw : w.heap.size < p := by have := g2.size; omega
  have A3 : Hid (AS w0 w w3 g p ao len cap (q0 : Int) (.slice (some ⟨gb, 0, none⟩) fs.length c) fs) := by
    have hb : Below w2.heap.size w2 w3 := by rw [hw3]; exact (Below.refl _ w2).alloc (Nat.le_refl _) _
    have hgr := grownBy_trans G1.out g2
    refine ⟨cur_keep hc2 hb (cur_lt hc2), grownBy_trans hgr (grownBy_below _ hb), (hb.block _ (by omega)).trans ((g2.block _ hs1 (by simp; omega)).trans X1.out), by rw [hp, hw3]; exact heap_alloc_new w2 _, ownsRow_mono (ownsRow_below ho2 hb) (by omega), ?_⟩
    intro e
    have := (ho2.lt _ e).2
    omega
  have HBD : Hid (BD fs) := ⟨by omega, fun A hA => by have := hbd A hA; omega⟩
  clear ho2 hc2 g2 hbd U1 G1 X1
  go_wp2_with fail
  rw [← hw3, ← hp]
  clear hw3 hp hs1
  refine (below_any w0 _ g ao len cap _ hlen (by omega) HC.out A3.out.1).mono ?_
  rintro e w4 ⟨k, rfl, hk, _, hc4, g4⟩
  have hkn := hk (by omega)
  have hkl : k < fs.length := by omega
  have A4 := hide (as_grown A3.out hg hpw hc4 g4)
  clear hc4 g4 hk A3
  go_wp2_with fail
  refine (below_any w0 _ g ao len cap _ hlen (by omega) HC.out A4.out.1).mono ?_
  rintro e w5 ⟨s, rfl, hs, _, hc5, g5⟩
  have A5 := hide (as_grown A4.out hg hpw hc5 g5)
  clear hc5 g5 A4 hs
  have hi0 : (0 : Int) ≤ (k : Int) := by omega
  have hi1 : (k : Int) < (fs.length : Int) := by omega
  have hw5 : w.heap.size ≤ w5.heap.size ∧ p < w5.heap.size := ⟨A5.out.2.1.size, blk_lt A5.out.2.2.2.1⟩
  have KS : Hid (∀ (W : World) (q : Int) (gs : List ChangeD), AS w0 w W g p ao len cap q (.slice (some ⟨gb, 0, none⟩) fs.length c) gs → W.cell? ⟨p, 1, none⟩ = some (.slice (some ⟨gb, 0, none⟩) fs.length c)) := fun W q gs hW => (as_cells hW).1.2.1
  obtain ⟨F, HFk⟩ : ∃ F, Hid (fs[k] = F) := ⟨fs[k], hide rfl⟩
  have hFb := bd_at HBD.out hkl
  have hEl := as_elems A5.out hkl
  rw [HFk.out] at hFb hEl
  have HEL := hide hEl
  clear hEl
  by_cases h0 : s = 0
  · have hy0 : ((s : Int) == 0) = true := by rw [beq_iff_eq]; omega
    clear h0
    have hX5 : (w5.alloc (.cells #[.int .i64 (-1), .int .i64 1000000000, .int .i64 1000000001] 3)).heap[w5.heap.size]? = some (.cells (([-1, 1000000000, 1000000001] : List Int).map (Value.int .i64)).toArray 3 (0, 0)) := heap_alloc_new w5 _
    have hb5 : Below w5.heap.size w5 (w5.alloc (.cells #[.int .i64 (-1), .int .i64 1000000000, .int .i64 1000000001] 3)) := (Below.refl _ w5).alloc (Nat.le_refl _) _
    have A5a := hide (as_below A5.out hb5)
    have HX5 := hide hX5
    clear hX5 hb5
    go_wp2_with fail
    refine (pickInt_any w0 _ g w5.heap.size ao len cap 3 [-1, 1000000000, 1000000001] hlen HC.out A5a.out.1 (by omega) rfl (by omega) (by omega) (ints_cells _ HX5.out)).mono ?_
    rintro e w6 ⟨z, rfl, _, hc6, g6⟩
    have A6 := hide (as_grown A5a.out hg hpw hc6 g6)
    clear hc6 g6
    obtain ⟨⟨hp0, hp1, hpf0, hpf1⟩, hr0, hr1, hrf0, hrf1⟩ := as_cells A6.out
    have A7 := hide (as_seq A6.out hg hpw z)
    go_upto_region 20 with fail
    generalize w6.setCell ⟨p, 0, none⟩ (.int .i64 z) = w7 at A7
    clear hp0 hp1 hpf0 hpf1 hr0 hr1 hrf0 hrf1
    obtain ⟨⟨hp0, hp1, hpf0, hpf1⟩, hr0, hr1, hrf0, hrf1⟩ := as_cells A7.out
    go_wp2_with fail
    have hE := as_end A7.out hg (.int .i64 z) (.slice (some ⟨gb, 0, none⟩) fs.length c)
    exact bodyPost_ret (v := .agg #[.int .i64 z, (.slice (some ⟨gb, 0, none⟩) fs.length c)]) (by simp [results, Try.results14, go_sem, hr0, hr1]) rfl ⟨_, _, _, fs, rfl, hE.1, HBD.out.1, HBD.out.2, hE.2.1, hE.2.2⟩
  by_cases h1 : s = 1
  · have hn0 : ((s : Int) == 0) = false := by rw [beq_eq_false_iff_ne]; omega
    have hy1 : ((s : Int) == 1) = true := by rw [beq_iff_eq]; omega
    clear h1
    obtain ⟨⟨hp0, hp1, hpf0, hpf1⟩, hr0, hr1, hrf0, hrf1⟩ := as_cells A5.out
    obtain ⟨⟨he0, he1, he2⟩, hef⟩ := HEL.out
    have hall : (w5.alloc (.cells #[.string F.key, .string F.value, .bool F.gone] 40)).cell? ⟨p, 1, none⟩ = some (.slice (some ⟨gb, 0, none⟩) fs.length c) := KS.out _ _ _ (as_below A5.out ((Below.refl _ w5).alloc (Nat.le_refl _) _))
    go_upto_region 7 with fail
    go_region_law ((first | (refine step_app_change_g _ (w.heap.size + 1) (by rfl) _ _ (by rfl) _ fs F (by rfl) ((ownsRow_below A5.out.2.2.2.2.1 (Below.refl _ _).drew).alloc _) w5.heap.size (by simp [Act.eval]) (heap_alloc_new w5 _) (by omega) (by simp; omega) ?_; intro g6 cap6 w6 ho6 hg6 hor6; have HO6 := hide ho6; have G6 : Hid (w5.grownBy w6 (Value.slice (some ⟨gb, 0, none⟩) fs.length c).ownBlock) := grownBy_trans (grownBy_below _ ((Below.refl _ w5).alloc (Nat.le_refl _) (.cells #[.string F.key, .string F.value, .bool F.gone] 40)).drew) hg6; have hn4 := (G6.out.block p hw5.2 (fun e => A5.out.2.2.2.2.2 e.symm)).trans A5.out.2.2.2.1; have hn1 : w6.cell? ⟨p, 1, none⟩ = some (.slice (some ⟨gb, 0, none⟩) fs.length c) := (cell_of_row w6 p 1 _ _ (0, 0) hn4).trans rfl; have hn2 : w6.frozen? ⟨p, 1, none⟩ = false := frozen_of_row w6 p 1 _ _ hn4; clear hn4 ho6 hg6) | fail))
    all_goals
      have A7 : Hid (AS w0 w (w6.setCell ⟨p, 1, none⟩ (.slice (some ⟨g6, 0, none⟩) (fs.length + 1) cap6)) g p ao len cap (q0 : Int) (.slice (some ⟨g6, 0, none⟩) (fs.length + 1) cap6) (fs ++ [F])) := as_row A5.out hg hpw G6.out HO6.out (fun e => by
        have e' : g6 = p := by simpa [Value.ownBlock] using e
        rcases hor6 with h | h
        · exact A5.out.2.2.2.2.2 (by rw [h, e'])
        · have hs9 : (w5.alloc (.cells #[.string F.key, .string F.value, .bool F.gone] 40)).heap.size = w5.heap.size + 1 := by simp
          have h' : g6 = (w5.alloc (.cells #[.string F.key, .string F.value, .bool F.gone] 40)).heap.size := h
          omega)
      have HBD7 : BD (fs ++ [F]) := bd_snoc HBD.out hn6 (by omega) hFb.1 hFb.2
      have hl7 : (fs ++ [F]).length = fs.length + 1 := by simp
      clear hall hp0 hp1 hpf0 hpf1 hr0 hr1 hrf0 hrf1 he0 he1 he2 hef
      go_upto_region 20 with fail
      generalize w6.setCell ⟨p, 1, none⟩ (.slice (some ⟨g6, 0, none⟩) (fs.length + 1) cap6) = w7 at A7
      clear hn1 hn2
      obtain ⟨⟨hp0, hp1, hpf0, hpf1⟩, hr0, hr1, hrf0, hrf1⟩ := as_cells A7.out
      go_wp2_with fail
      have hE := as_end A7.out hg (.int .i64 (q0 : Int)) (.slice (some ⟨g6, 0, none⟩) (fs.length + 1) cap6)
      exact bodyPost_ret (v := .agg #[.int .i64 (q0 : Int), (.slice (some ⟨g6, 0, none⟩) (fs.length + 1) cap6)]) (by simp [results, Try.results14, go_sem, hr0, hr1]) rfl ⟨_, _, _, (fs ++ [F]), by rw [hl7], by rw [hl7]; exact hE.1, HBD7.1, HBD7.2, hE.2.1, hE.2.2⟩
  by_cases h2 : s = 2
  · have hn0 : ((s : Int) == 0) = false := by rw [beq_eq_false_iff_ne]; omega
    have hn1 : ((s : Int) == 1) = false := by rw [beq_eq_false_iff_ne]; omega
    have hy2 : ((s : Int) == 2) = true := by rw [beq_iff_eq]; omega
    clear h2 h0 h1
    obtain ⟨⟨hp0, hp1, hpf0, hpf1⟩, hr0, hr1, hrf0, hrf1⟩ := as_cells A5.out
    have A5d : Hid (AS w0 w w5.drew g p ao len cap (q0 : Int) (.slice (some ⟨gb, 0, none⟩) fs.length c) fs) := as_below A5.out (Below.refl _ _).drew
    go_upto_region 9 with fail
    go_region_held3 (fun w' => w'.cell? ⟨p, 1, none⟩ = some (.slice (some ⟨gb, 0, none⟩) fs.length c)) (first | (exact KS.out _ _ _ A5d.out) | (exact KS.out _ _ _ A6.out) | (exact KS.out _ _ _ A7.out) | (exact KS.out _ _ _ A7a.out) | (exact KS.out _ _ _ A8.out) | (exact KS.out _ _ _ A9.out) | fail) ((first | (go_at_call 32; refine (long_int _ _ _ (by omega) (by omega) (by omega) (by omega)).mono ?_; rintro e w7 ⟨T2, rfl, hT2, b7⟩; have A7 := hide (as_below A6.out b7); have hT2' : T2.size ≤ 100 := (by omega); have hs7 : w5.heap.size ≤ w7.heap.size := Nat.le_trans hs6 b7.size; have A7a := hide (as_below A7.out ((Below.refl _ w7).alloc (Nat.le_refl _) (.cells #[.string ⟨#[]⟩, .string T1, .string T2] 9))); have HX7 : Hid ((w7.alloc (.cells #[.string ⟨#[]⟩, .string T1, .string T2] 9)).heap[w7.heap.size]? = some (.cells (([⟨#[]⟩, T1, T2] : List ByteArray).map Value.string).toArray 9 (0, 0))) := heap_alloc_new w7 _; clear hT2 b7) | (go_at_call 32; refine (long_int _ _ _ (by omega) (by omega) (by omega) (by omega)).mono ?_; rintro e w6 ⟨T1, rfl, hT1, b6⟩; have A6 := hide (as_below A5d.out b6); have hT1' : T1.size ≤ 100 := (by omega); have hs6 : w5.heap.size ≤ w6.heap.size := b6.size; clear hT1 b6) | (go_at_call 31; refine (pickText_any w0 _ g w7.heap.size ao len cap 3 [⟨#[]⟩, T1, T2] hlen HC.out A7a.out.1 (by omega) rfl (by omega) (by omega) (texts_cells _ HX7.out)).mono ?_; rintro e w8 ⟨Z, rfl, hZ, hc8, g8⟩; have A8 := hide (as_grown A7a.out hg hpw hc8 g8); have hZ' : Z.size ≤ 100 := three_small hZ hT1' hT2'; obtain ⟨⟨he0, _, _⟩, hef⟩ := as_elems A8.out hkl; have hef0 := hef (k * 3); have A9 : Hid (AS w0 w (w8.setCell ⟨gb, k * 3, none⟩ (.string Z)) g p ao len cap (q0 : Int) (.slice (some ⟨gb, 0, none⟩) fs.length c) (fs.set k ⟨Z, fs[k].value, fs[k].gone⟩)) := as_elem A8.out rfl hg (cellsChange_set0 fs k hkl Z) (List.length_set ..); clear hZ hc8 g8 hef) | fail))
    have HBD9 : BD (fs.set k ⟨Z, fs[k].value, fs[k].gone⟩) := bd_set HBD.out hZ' (by show fs[k].value.size ≤ 3000; rw [HFk.out]; exact hFb.2)
    have hl9 : (fs.set k ⟨Z, fs[k].value, fs[k].gone⟩).length = fs.length := List.length_set ..
    go_upto_region 20 with fail
    generalize w8.setCell ⟨gb, k * 3, none⟩ (.string Z) = w9 at A9
    clear hp0 hp1 hpf0 hpf1 hr0 hr1 hrf0 hrf1 he0 hef0
    obtain ⟨⟨hp0, hp1, hpf0, hpf1⟩, hr0, hr1, hrf0, hrf1⟩ := as_cells A9.out
    go_wp2_with fail
    have hE := as_end A9.out hg (.int .i64 (q0 : Int)) (.slice (some ⟨gb, 0, none⟩) fs.length c)
    exact bodyPost_ret (v := .agg #[.int .i64 (q0 : Int), (.slice (some ⟨gb, 0, none⟩) fs.length c)]) (by simp [results, Try.results14, go_sem, hr0, hr1]) rfl ⟨_, _, _, (fs.set k ⟨Z, fs[k].value, fs[k].gone⟩), by rw [hl9], by rw [hl9]; exact hE.1, HBD9.1, HBD9.2, hE.2.1, hE.2.2⟩
  by_cases h3 : s = 3
  · have hn0 : ((s : Int) == 0) = false := by rw [beq_eq_false_iff_ne]; omega
    have hn1 : ((s : Int) == 1) = false := by rw [beq_eq_false_iff_ne]; omega
    have hn2 : ((s : Int) == 2) = false := by rw [beq_eq_false_iff_ne]; omega
    have hy3 : ((s : Int) == 3) = true := by rw [beq_iff_eq]; omega
    clear h3 h0 h1 h2
    obtain ⟨⟨hp0, hp1, hpf0, hpf1⟩, hr0, hr1, hrf0, hrf1⟩ := as_cells A5.out
    have A5d : Hid (AS w0 w w5.drew g p ao len cap (q0 : Int) (.slice (some ⟨gb, 0, none⟩) fs.length c) fs) := as_below A5.out (Below.refl _ _).drew
    go_upto_region 11 with fail
    go_region_held3 (fun w' => w'.cell? ⟨p, 1, none⟩ = some (.slice (some ⟨gb, 0, none⟩) fs.length c)) (first | (exact KS.out _ _ _ A5d.out) | (exact KS.out _ _ _ A6.out) | (exact KS.out _ _ _ A8.out) | (exact KS.out _ _ _ A9.out) | fail) ((first | (go_at_call 28; refine (below_any w0 _ g ao len cap _ hlen (by omega) HC.out A5d.out.1).mono ?_; rintro e w6 ⟨x, rfl, hx, _, hc6, g6⟩; have hx2 := hx (by omega); have A6 := hide (as_grown A5d.out hg hpw hc6 g6); have hwr : IntKind.i64.wrap (2000 + (x : Int)) = 2000 + (x : Int) := (by rw [IntKind.wrap_i64]; omega); clear hx hc6 g6) | (go_at_call 32; refine (long_int _ _ _ (by omega) (by omega) (by omega) (by omega)).mono ?_; rintro e w8 ⟨Z, rfl, hZ, b8⟩; have A8 := hide (as_below A6.out b8); have hZ' : Z.size ≤ 3000 := (by omega); obtain ⟨⟨_, he0, _⟩, hef⟩ := as_elems A8.out hkl; have hef0 := hef (k * 3 + 1); have A9 : Hid (AS w0 w (w8.setCell ⟨gb, k * 3 + 1, none⟩ (.string Z)) g p ao len cap (q0 : Int) (.slice (some ⟨gb, 0, none⟩) fs.length c) (fs.set k ⟨fs[k].key, Z, fs[k].gone⟩)) := as_elem A8.out rfl hg (cellsChange_set1 fs k hkl Z) (List.length_set ..); clear hZ b8 hef) | fail))
    have HBD9 : BD (fs.set k ⟨fs[k].key, Z, fs[k].gone⟩) := bd_set HBD.out (by show fs[k].key.size ≤ 100; rw [HFk.out]; exact hFb.1) hZ'
    have hl9 : (fs.set k ⟨fs[k].key, Z, fs[k].gone⟩).length = fs.length := List.length_set ..
    go_upto_region 20 with fail
    generalize w8.setCell ⟨gb, k * 3 + 1, none⟩ (.string Z) = w9 at A9
    clear hp0 hp1 hpf0 hpf1 hr0 hr1 hrf0 hrf1 he0 hef0
    obtain ⟨⟨hp0, hp1, hpf0, hpf1⟩, hr0, hr1, hrf0, hrf1⟩ := as_cells A9.out
    go_wp2_with fail
    have hE := as_end A9.out hg (.int .i64 (q0 : Int)) (.slice (some ⟨gb, 0, none⟩) fs.length c)
    exact bodyPost_ret (v := .agg #[.int .i64 (q0 : Int), (.slice (some ⟨gb, 0, none⟩) fs.length c)]) (by simp [results, Try.results14, go_sem, hr0, hr1]) rfl ⟨_, _, _, (fs.set k ⟨fs[k].key, Z, fs[k].gone⟩), by rw [hl9], by rw [hl9]; exact hE.1, HBD9.1, HBD9.2, hE.2.1, hE.2.2⟩
  by_cases h4 : s = 4
  · have hn0 : ((s : Int) == 0) = false := by rw [beq_eq_false_iff_ne]; omega
    have hn1 : ((s : Int) == 1) = false := by rw [beq_eq_false_iff_ne]; omega
    have hn2 : ((s : Int) == 2) = false := by rw [beq_eq_false_iff_ne]; omega
    have hn3 : ((s : Int) == 3) = false := by rw [beq_eq_false_iff_ne]; omega
    have hy4 : ((s : Int) == 4) = true := by rw [beq_iff_eq]; omega
    clear h4 h0 h1 h2 h3
    obtain ⟨⟨hp0, hp1, hpf0, hpf1⟩, hr0, hr1, hrf0, hrf1⟩ := as_cells A5.out
    obtain ⟨⟨he0, he1, he2⟩, hef⟩ := HEL.out
    have hef0 := hef (k * 3 + 2)
    clear hef he0 he1
    have A9 : Hid (AS w0 w (w5.setCell ⟨gb, k * 3 + 2, none⟩ (.bool true)) g p ao len cap (q0 : Int) (.slice (some ⟨gb, 0, none⟩) fs.length c) (fs.set k ⟨fs[k].key, fs[k].value, true⟩)) := as_elem A5.out rfl hg (cellsChange_set2 fs k hkl true) (List.length_set ..)
    have HBD9 : BD (fs.set k ⟨fs[k].key, fs[k].value, true⟩) := bd_set HBD.out (by show fs[k].key.size ≤ 100; rw [HFk.out]; exact hFb.1) (by show fs[k].value.size ≤ 3000; rw [HFk.out]; exact hFb.2)
    have hl9 : (fs.set k ⟨fs[k].key, fs[k].value, true⟩).length = fs.length := List.length_set ..
    go_upto_region 20 with fail
    generalize w5.setCell ⟨gb, k * 3 + 2, none⟩ (.bool true) = w9 at A9
    clear hp0 hp1 hpf0 hpf1 hr0 hr1 hrf0 hrf1 he2 hef0
    obtain ⟨⟨hp0, hp1, hpf0, hpf1⟩, hr0, hr1, hrf0, hrf1⟩ := as_cells A9.out
    go_wp2_with fail
    have hE := as_end A9.out hg (.int .i64 (q0 : Int)) (.slice (some ⟨gb, 0, none⟩) fs.length c)
    exact bodyPost_ret (v := .agg #[.int .i64 (q0 : Int), (.slice (some ⟨gb, 0, none⟩) fs.length c)]) (by simp [results, Try.results14, go_sem, hr0, hr1]) rfl ⟨_, _, _, (fs.set k ⟨fs[k].key, fs[k].value, true⟩), by rw [hl9], by rw [hl9]; exact hE.1, HBD9.1, HBD9.2, hE.2.1, hE.2.2⟩
  by_cases h5 : s = 5
  · have hn0 : ((s : Int) == 0) = false := by rw [beq_eq_false_iff_ne]; omega
    have hn1 : ((s : Int) == 1) = false := by rw [beq_eq_false_iff_ne]; omega
    have hn2 : ((s : Int) == 2) = false := by rw [beq_eq_false_iff_ne]; omega
    have hn3 : ((s : Int) == 3) = false := by rw [beq_eq_false_iff_ne]; omega
    have hn4 : ((s : Int) == 4) = false := by rw [beq_eq_false_iff_ne]; omega
    have hy5 : ((s : Int) == 5) = true := by rw [beq_iff_eq]; omega
    clear h5 h0 h1 h2 h3 h4 KS
    have hp5 : p < w5.heap.size := hw5.2
    obtain ⟨⟨hp0, hp1, hpf0, hpf1⟩, hr0, hr1, hrf0, hrf1⟩ := as_cells A5.out
    have A6 := hide (as_row A5.out hg hpw (grownBy_below _ ((Below.refl _ w5).alloc (Nat.le_refl _) (.cells #[] 40))) (fs' := []) (v' := .slice (some ⟨w5.heap.size, 0, none⟩) 0 0) (World.ownsRow_lit (e := 40) (size := 3) w5 #[] 0 (by omega) (by unfold maxLen; omega) (by simp)) (by simp [Value.ownBlock]; omega))
    rw [World.setCell_alloc_past _ _ _ _ hp5] at A6
    go_upto_region 16 with fail
    generalize (w5.setCell ⟨p, 1, none⟩ (.slice (some ⟨w5.heap.size, 0, none⟩) 0 0)).alloc (.cells #[] 40) = w6 at A6
    clear hp0 hp1 hpf0 hpf1 hr0 hr1 hrf0 hrf1 HEL hFb HFk
    have hgb : Hid (w5.heap.size = w5.heap.size) := rfl
    go_wp2_with fail
    go_loopw [5] (fun ii wr => ∃ (k : Nat) (a : Option Addr) (c9 : Nat) (gs : List ChangeD), ii = .int .i64 k ∧ k ≤ 41 ∧ gs.length ≤ k ∧ Hid (BD gs) ∧ Hid (AS w0 w wr g p ao len cap (q0 : Int) (.slice a gs.length c9) gs)) (fun ii _ => 42 - (intOf ii).toNat)
    case atStart => exact ⟨0, _, 0, [], rfl, by omega, by simp, ⟨by simp, fun A hA => absurd hA List.not_mem_nil⟩, A6⟩
    case round =>
      clear A6 hgb
      obtain ⟨j, a, c9, gs, rfl, hj, hgl, HBg, HA⟩ := hrel
      go_wp2_with fail
      refine (below_any w0 _ g ao len cap _ hlen (by omega) HC.out HA.out.1).mono ?_
      rintro e w7 ⟨x, rfl, hx, _, hc7, g7⟩
      have hx2 := hx (by omega)
      have A7 := hide (as_grown HA.out hg hpw hc7 g7)
      clear hc7 g7 HA hx
      by_cases hlt : j < 40 + x
      · have hlt' : decide ((j : Int) < 40 + (x : Int)) = true := by simp; omega
        have KS : Hid (∀ (W : World), AS w0 w W g p ao len cap (q0 : Int) (.slice a gs.length c9) gs → W.cell? ⟨p, 1, none⟩ = some (.slice a gs.length c9)) := fun W hW => (as_cells hW).1.2.1
        have hv7 := KS.out _ A7.out
        have A7a := hide (as_below A7.out ((Below.refl _ w7).alloc (Nat.le_refl _) (.cells #[.int .i64 1, .int .i64 210, .int .i64 230] 3)))
        have hv7a := KS.out _ A7a.out
        have hw7 : p < w7.heap.size := blk_lt A7.out.2.2.2.1
        have hwr : IntKind.i64.wrap (100 + (j : Int)) = 100 + (j : Int) := by rw [IntKind.wrap_i64]; omega
        obtain ⟨D, HD⟩ : ∃ D : ByteArray, Hid (D = (⟨(Wd.decS (100 + (j : Int))).toArray⟩ : ByteArray)) := ⟨_, hide rfl⟩
        have hDz : D.size ≤ 20 := by rw [HD.out]; exact decS_small _ (by omega) (by omega)
        have CD : Hid (∀ W, Calls Try.prog 33 #[.int .i64 (100 + (j : Int))] W fun e w' => e = .returned (.string D) ∧ Below W.heap.size W w') := fun W => by rw [HD.out]; exact decimal_any _ W (by omega) (by omega)
        have hk1 : ¬ (9223372036854775807 < (⟨#[107]⟩ : ByteArray).size + D.size) := by have e : (⟨#[107]⟩ : ByteArray).size = 1 := rfl; omega
        have hk2 : ¬ (9223372036854775807 < 1 + D.size) := by omega
        have hKz : (⟨#[107]⟩ ++ D : ByteArray).size ≤ 100 := by rw [ByteArray.size_append]; have e : (⟨#[107]⟩ : ByteArray).size = 1 := rfl; omega
        have HKz := hide hKz
        clear hKz
        go_upto_region 19 with fail
        go_region_law ((first | (refine step_app_change_g _ (w.heap.size + 1) (by rfl) _ _ (by rfl) _ gs ⟨⟨#[107]⟩ ++ D, T, false⟩ (by rfl) (A10.out.2.2.2.2.1.alloc _) w10.heap.size (by simp [Act.eval]) (heap_alloc_new w10 _) (by omega) (by simp; omega) ?_; intro g11 cap11 w11 ho11 hg11 hor11; have HO11 := hide ho11; have G11 : Hid (w10.grownBy w11 (Value.slice a gs.length c9).ownBlock) := grownBy_trans (grownBy_below _ ((Below.refl _ w10).alloc (Nat.le_refl _) (.cells #[.string (⟨#[107]⟩ ++ D), .string T, .bool false] 40))) hg11; have hn4 := (G11.out.block p hw10 (fun e => A10.out.2.2.2.2.2 e.symm)).trans A10.out.2.2.2.1; have hn1 : w11.cell? ⟨p, 1, none⟩ = some (.slice a gs.length c9) := (cell_of_row w11 p 1 _ _ (0, 0) hn4).trans rfl; have hn2 : w11.frozen? ⟨p, 1, none⟩ = false := frozen_of_row w11 p 1 _ _ hn4; clear hn4 ho11 hg11) | (go_simp; go_at_call 33; refine (CD.out _).mono ?_; rintro e w8 ⟨rfl, b8⟩; have A8 := hide (as_below A7.out ((Below.refl _ w7).drew.trans b8)); have hv8 := KS.out _ A8.out; have A8a := hide (as_below A8.out ((Below.refl _ w8).alloc (Nat.le_refl _) (.cells #[.int .i64 1, .int .i64 210, .int .i64 230] 3))); have hv8a := KS.out _ A8a.out; have hs8 := blk_lt A8.out.2.2.2.1; have X8a : Hid ((w8.alloc (.cells #[.int .i64 1, .int .i64 210, .int .i64 230] 3)).heap[w8.heap.size]? = some (.cells (([1, 210, 230] : List Int).map (Value.int .i64)).toArray 3 (0, 0))) := heap_alloc_new w8 _; clear b8) | (go_simp; go_at_call 33; refine (CD.out _).mono ?_; rintro e w8 ⟨rfl, b8⟩; have A8 := hide (as_below A7.out ((((Below.refl _ w7).alloc (Nat.le_refl _) (.cells #[.int .i64 1, .int .i64 210, .int .i64 230] 3)).drew).trans (b8.mono (by simp)))); have hv8 := KS.out _ A8.out; have A8a := hide (as_below A8.out ((Below.refl _ w8).alloc (Nat.le_refl _) (.cells #[.int .i64 1, .int .i64 210, .int .i64 230] 3))); have hv8a := KS.out _ A8a.out; have hs8 := blk_lt A8.out.2.2.2.1; have X8 : Hid (w8.heap[w7.heap.size]? = some (.cells (([1, 210, 230] : List Int).map (Value.int .i64)).toArray 3 (0, 0))) := (b8.block w7.heap.size (by simp)).trans (heap_alloc_new w7 _); clear b8) | (go_simp; go_at_call 30; refine (pickInt_any w0 _ g w7.heap.size ao len cap 3 [1, 210, 230] hlen HC.out A8.out.1 (by omega) rfl (by omega) (by omega) (ints_cells _ X8.out)).mono ?_; rintro e w9 ⟨z, rfl, hz, hc9, g9⟩; have A9 := hide (as_grown A8.out hg hpw hc9 g9); have hv9 := KS.out _ A9.out; obtain ⟨hz0, hz1⟩ := three_ints hz; clear hz hc9 g9) | (go_simp; go_at_call 30; refine (pickInt_any w0 _ g w8.heap.size ao len cap 3 [1, 210, 230] hlen HC.out A8a.out.1 (by omega) rfl (by omega) (by omega) (ints_cells _ X8a.out)).mono ?_; rintro e w9 ⟨z, rfl, hz, hc9, g9⟩; have A9 := hide (as_grown A8a.out hg hpw hc9 g9); have hv9 := KS.out _ A9.out; obtain ⟨hz0, hz1⟩ := three_ints hz; clear hz hc9 g9) | (go_simp; go_at_call 32; refine (long_int _ _ _ (by omega) (by omega) (by omega) (by omega)).mono ?_; rintro e w10 ⟨T, rfl, hT, b10⟩; have A10 := hide (as_below A9.out b10); have hv10 := KS.out _ A10.out; have hw10 := blk_lt A10.out.2.2.2.1; have hT' : T.size ≤ 3000 := (by omega); have hv10a : (w10.alloc (.cells #[.string (⟨#[107]⟩ ++ D), .string T, .bool false] 40)).cell? ⟨p, 1, none⟩ = some (.slice a gs.length c9) := KS.out _ (as_below A10.out ((Below.refl _ w10).alloc (Nat.le_refl _) _)); clear hT b10) | fail))
        all_goals
          have A12 : Hid (AS w0 w (w11.setCell ⟨p, 1, none⟩ (.slice (some ⟨g11, 0, none⟩) (gs.length + 1) cap11)) g p ao len cap (q0 : Int) (.slice (some ⟨g11, 0, none⟩) (gs.length + 1) cap11) (gs ++ [⟨⟨#[107]⟩ ++ D, T, false⟩])) := as_row A10.out hg hpw G11.out HO11.out (fun e => by
            have e' : g11 = p := by simpa [Value.ownBlock] using e
            rcases hor11 with h | h
            · exact A10.out.2.2.2.2.2 (by rw [h, e'])
            · have hs9 : (w10.alloc (.cells #[.string (⟨#[107]⟩ ++ D), .string T, .bool false] 40)).heap.size = w10.heap.size + 1 := by simp
              omega)
          have HBD12 : Hid (BD (gs ++ [⟨⟨#[107]⟩ ++ D, T, false⟩])) := bd_snoc HBg.out hgl (by omega) HKz.out hT'
          go_wp2_with fail
          go_roundw
          case rel =>
            have hl12 : (gs ++ [(⟨⟨#[107]⟩ ++ D, T, false⟩ : ChangeD)]).length = gs.length + 1 := by simp
            refine ⟨j + 1, some ⟨g11, 0, none⟩, cap11, gs ++ [⟨⟨#[107]⟩ ++ D, T, false⟩], by go_num, by omega, by rw [hl12]; omega, HBD12, ?_⟩
            rw [hl12]
            exact A12
          case measure => simp [intOf]; omega
      · have hlt' : decide ((j : Int) < 40 + (x : Int)) = false := by simp; omega
        obtain ⟨⟨hp0, hp1, hpf0, hpf1⟩, hr0, hr1, hrf0, hrf1⟩ := as_cells A7.out
        go_wp2_with fail
        have hE := as_end A7.out hg (.int .i64 (q0 : Int)) (.slice a gs.length c9)
        exact bodyPost_ret (v := .agg #[.int .i64 (q0 : Int), (.slice a gs.length c9)]) (by simp [results, Try.results14, go_sem, hr0, hr1]) rfl ⟨_, _, _, gs, rfl, hE.1, HBg.out.1, HBg.out.2, hE.2.1, hE.2.2⟩
  · have hn0 : ((s : Int) == 0) = false := by rw [beq_eq_false_iff_ne]; omega
    have hn1 : ((s : Int) == 1) = false := by rw [beq_eq_false_iff_ne]; omega
    have hn2 : ((s : Int) == 2) = false := by rw [beq_eq_false_iff_ne]; omega
    have hn3 : ((s : Int) == 3) = false := by rw [beq_eq_false_iff_ne]; omega
    have hn4 : ((s : Int) == 4) = false := by rw [beq_eq_false_iff_ne]; omega
    have hn5 : ((s : Int) == 5) = false := by rw [beq_eq_false_iff_ne]; omega
    clear h5 h0 h1 h2 h3 h4
    obtain ⟨⟨hp0, hp1, hpf0, hpf1⟩, hr0, hr1, hrf0, hrf1⟩ := as_cells A5.out
    go_wp2_with fail
    have hE := as_end A5.out hg (.int .i64 (q0 : Int)) (.slice (some ⟨gb, 0, none⟩) fs.length c)
    exact bodyPost_ret (v := .agg #[.int .i64 (q0 : Int), (.slice (some ⟨gb, 0, none⟩) fs.length c)]) (by simp [results, Try.results14, go_sem, hr0, hr1]) rfl ⟨_, _, _, fs, rfl, hE.1, HBD.out.1, HBD.out.2, hE.2.1, hE.2.2⟩
end Go.Proofs.Ytcpbkllonamleab
