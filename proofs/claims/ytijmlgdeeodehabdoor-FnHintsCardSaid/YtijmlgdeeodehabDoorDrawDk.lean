/- A drawn disk, right or not (written by tools/gen_drawdisk.py). -/
import Derived.Test.YtijmlgdeeodehabDoorDraws
import Derived.Test.YtijmlgdeeodehabDoorOne
import Derived.Test.YtijmlgdeeodehabDoorPutS
import Derived.Test.YtijmlgdeeodehabDoorBlk
import Derived.Deep.RegionHeld3
import Derived.Deep.RegionLaw
namespace Go.Proofs.YtijmlgdeeodehabDoor
open Go.RowKit

theorem blkD_lt {w : World} {k : Nat} {x : Obj} (h : w.heap[k]? = some x) : k < w.heap.size := (Array.getElem?_eq_some_iff.1 h).1
theorem curD_far {w0 w : World} {g X : Nat} {ao : Option Addr} {len cap j : Nat} {u : Value} (h : CurAt w0 w g ao len cap) (hX : g < X) : CurAt w0 (w.setCell ⟨X, j, none⟩ u) g ao len cap := by
  obtain ⟨c1, c2, i, z, T, c3, c4⟩ := h
  exact ⟨c1.setCell (p := ⟨X, j, none⟩) (by show w0.heap.size ≤ X; omega) u, c2, i, z, T, c3, (Below.heap_setCell _ _ _ _ (by intro e; simp only at e; omega)).trans c4⟩
theorem grownD_far {a b : World} {r : Option Nat} (h : a.grownBy b r) {p : Nat} (hp : a.heap.size ≤ p) (j : Nat) (u : Value) : a.grownBy (b.setCell ⟨p, j, none⟩ u) r :=
  ⟨h.os, h.tape, h.output, by have := h.size; simpa [World.setCell] using this, fun k hk hne => (Below.heap_setCell _ _ _ _ (by intro e; simp only at e; omega)).trans (h.block k hk hne)⟩
/-- One file is put behind a row of the call's own, at a step of a region that draws its order: which blocks are kept. -/
theorem step_app_file_g {ops : Array Oper} {o : Oper} {a : Act} {K : Act → World → Prop} {Q : Exit → Act → World → Prop} {E : Prop} (W : World) (B : Nat) (hgd : o.guard = none) (s y : Operand)
    (ho : o.op = .call { callee := .builtin .append, args := #[s, y], argTypes := #[91, 91] }) (v : Value) (l : List FileD) (F : FileD) (hs : a.eval s = v)
    (hown : W.ownsRow B 127 3 v l.length (cellsF l)) (k : Nat) (hx : a.eval y = .slice (some ⟨k, 0, none⟩) 1 1) (hblk : W.heap[k]? = some (.cells #[.string F.name, .string F.text, .int .i64 F.kept] 127 (0, 0)))
    (hlen : l.length ≤ 1048576) (hbase : B ≤ W.heap.size)
    (h : ∀ g cap w', w'.ownsRow B 127 3 (.slice (some ⟨g, 0, none⟩) (l.length + 1) cap) (l ++ [F]).length (cellsF (l ++ [F])) → W.grownBy w' v.ownBlock → (v.ownBlock = some g ∨ g = W.heap.size) → K (a.put o.dst (.slice (some ⟨g, 0, none⟩) (l.length + 1) cap)) w') :
    if Region.wanted o (yielded ops a.tmps) = true then Oper.wp Tryd.prog o a W K Q else E := by
  obtain ⟨i0, hi, hz0, hz1, hz2⟩ := info_parts Tryd.infoFile
  refine step_append_lies W hgd s y 91 ho B 127 i0 (.agg #[.string ⟨#[]⟩, .string ⟨#[]⟩, .int .i64 0]) 3 40 Tryd.underlying91 hi hz0 hz1 hz2 rfl (by decide) v l.length (cellsF l) hs hown ⟨k, 0, none⟩ 1 1 (cellsF [F]) hx (by rw [cellsF_length]; rfl)
    (fun j u hj => World.news_of_block hblk j u hj) (cellsF_one [F]) (by omega) (by unfold maxLen; omega) (by omega) hbase W.heap.size rfl ?_
  intro g cap w' hown' hgrow hg _
  refine h g cap w' ?_ hgrow hg
  rw [cellsF_append, List.length_append]
  exact hown'

theorem cellsF_set0 : ∀ (fs : List FileD) (k : Nat) (h : k < fs.length) (Z : ByteArray), (cellsF fs).set (k * 3) (.string Z) = cellsF (fs.set k ⟨Z, fs[k].text, fs[k].kept⟩)
  | A :: r, 0, _, Z => by simp [cellsF]
  | A :: r, k + 1, h, Z => by
    have ih := cellsF_set0 r k (by simpa using h) Z
    rw [show (k + 1) * 3 = k * 3 + 1 + 1 + 1 from by omega]
    simp [cellsF, ih]
theorem cellsF_set1 : ∀ (fs : List FileD) (k : Nat) (h : k < fs.length) (Z : ByteArray), (cellsF fs).set (k * 3 + 1) (.string Z) = cellsF (fs.set k ⟨fs[k].name, Z, fs[k].kept⟩)
  | A :: r, 0, _, Z => by simp [cellsF]
  | A :: r, k + 1, h, Z => by
    have ih := cellsF_set1 r k (by simpa using h) Z
    rw [show (k + 1) * 3 + 1 = k * 3 + 1 + 1 + 1 + 1 from by omega]
    simp [cellsF, ih]
theorem cellsF_set2 : ∀ (fs : List FileD) (k : Nat) (h : k < fs.length) (z : Int), (cellsF fs).set (k * 3 + 2) (.int .i64 z) = cellsF (fs.set k ⟨fs[k].name, fs[k].text, z⟩)
  | A :: r, 0, _, z => by simp [cellsF]
  | A :: r, k + 1, h, z => by
    have ih := cellsF_set2 r k (by simpa using h) z
    rw [show (k + 1) * 3 + 2 = k * 3 + 2 + 1 + 1 + 1 from by omega]
    simp [cellsF, ih]

/-- What bounds a drawn disk. -/
def BF (fs : List FileD) : Prop := fs.length ≤ 40 ∧ ∀ A ∈ fs, A.name.size ≤ 100 ∧ A.text.size ≤ 30000
theorem bf_set {fs : List FileD} {k : Nat} {F : FileD} (h : BF fs) (h1 : F.name.size ≤ 100) (h2 : F.text.size ≤ 30000) : BF (fs.set k F) := by
  refine ⟨by rw [List.length_set]; exact h.1, fun A hA => ?_⟩
  rcases List.mem_or_eq_of_mem_set hA with hA | rfl
  · exact h.2 A hA
  · exact ⟨h1, h2⟩
theorem bf_snoc {fs : List FileD} {F : FileD} {n : Nat} (h : BF fs) (hn : fs.length ≤ n) (hn' : n ≤ 39) (h1 : F.name.size ≤ 100) (h2 : F.text.size ≤ 30000) : BF (fs ++ [F]) := by
  refine ⟨by rw [List.length_append]; simp only [List.length_cons, List.length_nil]; omega, fun A hA => ?_⟩
  rcases List.mem_append.1 hA with hA | hA
  · exact h.2 A hA
  · rw [List.mem_singleton.1 hA]; exact ⟨h1, h2⟩
theorem bf_at {fs : List FileD} {k : Nat} (h : BF fs) (hk : k < fs.length) : fs[k].name.size ≤ 100 ∧ fs[k].text.size ≤ 30000 := h.2 _ (List.getElem_mem hk)
theorem bf_put {fs : List FileD} {F : FileD} {n : Nat} (h : BF fs) (hn : fs.length ≤ n) (hn' : n ≤ 39) (h1 : F.name.size ≤ 100) (h2 : F.text.size ≤ 30000) : BF (putD fs F) := by
  refine ⟨by have := len_putD_le fs F; omega, fun A hA => ?_⟩
  unfold putD at hA
  rcases List.mem_append.1 hA with hA | hA
  · rcases List.mem_append.1 hA with hA | hA
    · exact h.2 A (List.mem_filter.1 hA).1
    · rw [List.mem_singleton.1 hA]; exact ⟨h1, h2⟩
  · exact h.2 A (List.mem_filter.1 hA).1

/-- What l03Disk holds: the cursor, the cell of its answer, the disk in block p, its row. -/
def DS (w0 w wr : World) (g p : Nat) (ao : Option Addr) (len cap : Nat) (v : Value) (fs : List FileD) : Prop :=
  CurAt w0 wr g ao len cap ∧ w.grownBy wr (some g) ∧ wr.heap[w.heap.size]? = some (.cells #[.slice none 0 0] 93 (0, 0)) ∧ wr.heap[p]? = some (.cells #[v] 93 (0, 0)) ∧
  wr.ownsRow (w.heap.size + 1) 127 3 v fs.length (cellsF fs) ∧ v.ownBlock ≠ some p
theorem ds_grown {w0 w wr : World} {g p : Nat} {ao : Option Addr} {len cap : Nat} {v : Value} {fs : List FileD} {w' : World} (h : DS w0 w wr g p ao len cap v fs) (hg : g < w.heap.size) (hp : w.heap.size < p) (hc : CurAt w0 w' g ao len cap) (hgr : wr.grownBy w' (some g)) : DS w0 w w' g p ao len cap v fs := by
  obtain ⟨_, h2, h3, h4, h5, h6⟩ := h
  exact ⟨hc, grownBy_trans h2 hgr, (hgr.block _ (blkD_lt h3) (by simp; omega)).trans h3, (hgr.block _ (blkD_lt h4) (by simp; omega)).trans h4, row_keep h5 hgr (by omega), h6⟩
theorem ds_below {w0 w wr : World} {g p : Nat} {ao : Option Addr} {len cap : Nat} {v : Value} {fs : List FileD} {w' : World} (h : DS w0 w wr g p ao len cap v fs) (hb : Below wr.heap.size wr w') : DS w0 w w' g p ao len cap v fs := by
  obtain ⟨h1, h2, h3, h4, h5, h6⟩ := h
  exact ⟨cur_keep h1 hb (cur_lt h1), grownBy_trans h2 (grownBy_below _ hb), (hb.block _ (blkD_lt h3)).trans h3, (hb.block _ (blkD_lt h4)).trans h4, ownsRow_below h5 hb, h6⟩
theorem ds_cells {w0 w wr : World} {g p : Nat} {ao : Option Addr} {len cap : Nat} {v : Value} {fs : List FileD} (h : DS w0 w wr g p ao len cap v fs) : (wr.cell? ⟨p, 0, none⟩ = some v ∧ wr.frozen? ⟨p, 0, none⟩ = false) ∧ wr.cell? ⟨w.heap.size, 0, none⟩ = some (.slice none 0 0) ∧ wr.frozen? ⟨w.heap.size, 0, none⟩ = false := by
  obtain ⟨_, _, h3, h4, _⟩ := h
  exact ⟨⟨(cell_of_row wr _ 0 _ _ (0, 0) h4).trans rfl, frozen_of_row wr _ 0 _ _ h4⟩, (cell_of_row wr _ 0 _ _ (0, 0) h3).trans rfl, frozen_of_row wr _ 0 _ _ h3⟩
/-- A new row is put into the disk. -/
theorem ds_row {w0 w wr : World} {g p : Nat} {ao : Option Addr} {len cap : Nat} {v : Value} {fs : List FileD} {W : World} {v' : Value} {fs' : List FileD} (h : DS w0 w wr g p ao len cap v fs) (hg : g < w.heap.size) (hp : w.heap.size < p) (hb : wr.grownBy W v.ownBlock) (ho : W.ownsRow (w.heap.size + 1) 127 3 v' fs'.length (cellsF fs')) (hv : v'.ownBlock ≠ some p) : DS w0 w (W.setCell ⟨p, 0, none⟩ v') g p ao len cap v' fs' := by
  obtain ⟨h1, h2, h3, h4, h5, h6⟩ := h
  have hlt := h5.lt
  have hne : ∀ k, k < w.heap.size + 1 → some k ≠ v.ownBlock := fun k hk e => by have := (hlt k e.symm).1; omega
  obtain ⟨c1, c2, i, z, T, c3, c4⟩ := h1
  have k4 := (hb.block p (blkD_lt h4) (fun e => h6 e.symm)).trans h4
  refine ⟨⟨?_, c2, i, z, T, c3, (Below.heap_setCell _ _ _ _ (by intro e; simp only at e; omega)).trans ((hb.block g (blkD_lt c4) (hne g (by omega))).trans c4)⟩, ?_, (Below.heap_setCell _ _ _ _ (by intro e; simp only at e; omega)).trans ((hb.block _ (blkD_lt h3) (hne _ (by omega))).trans h3), (heap_setCell_same _ _ _ _ _ _ k4).trans rfl, ho.kept (grownBy_store (World.grownBy.refl _ (some p)) 0 _) (.inr hv), hv⟩
  · have c5 : w0.heap.size ≤ wr.heap.size := c1.size
    exact (c1.grown hb c5 (fun k hk => by have := (hlt k hk).1; omega)).setCell (p := ⟨p, 0, none⟩) (by show w0.heap.size ≤ p; omega) _
  · refine grownD_far ⟨hb.os.trans h2.os, hb.tape.trans h2.tape, hb.output.trans h2.output, Nat.le_trans h2.size hb.size, fun k hk hr => ?_⟩ (by omega) _ _
    exact (hb.block k (Nat.lt_of_lt_of_le hk h2.size) (hne k (by omega))).trans (h2.block k hk hr)
/-- A cell of the row is another. -/
theorem ds_elem {w0 w wr : World} {g p : Nat} {ao : Option Addr} {len cap : Nat} {fs fs' : List FileD} {gb n c j : Nat} {u : Value} (h : DS w0 w wr g p ao len cap (.slice (some ⟨gb, 0, none⟩) n c) fs) (hn : fs.length = n) (hg : g < w.heap.size) (hc : (cellsF fs).set j u = cellsF fs') (hl : fs'.length = fs.length) : DS w0 w (wr.setCell ⟨gb, j, none⟩ u) g p ao len cap (.slice (some ⟨gb, 0, none⟩) n c) fs' := by
  subst hn
  obtain ⟨h1, h2, h3, h4, h5, h6⟩ := h
  have hgb := (h5.lt gb rfl).1
  have hpb : gb ≠ p := fun e => h6 (by simp [Value.ownBlock, e])
  have hs := (h5.stored j u).1
  rw [hc] at hs
  refine ⟨curD_far h1 (by omega), grownD_far h2 (by omega) _ _, (Below.heap_setCell _ _ _ _ (by intro e; simp only at e; omega)).trans h3, (Below.heap_setCell _ _ _ _ (by intro e; simp only at e; omega)).trans h4, ?_, h6⟩
  rw [hl]
  exact hs
theorem ds_end {w0 w wr : World} {g p : Nat} {ao : Option Addr} {len cap : Nat} {v : Value} {fs : List FileD} (h : DS w0 w wr g p ao len cap v fs) (hg : g < w.heap.size) (x : Value) : RowF (wr.setCell ⟨w.heap.size, 0, none⟩ x) w.heap.size v fs ∧ CurAt w0 (wr.setCell ⟨w.heap.size, 0, none⟩ x) g ao len cap ∧ w.grownBy (wr.setCell ⟨w.heap.size, 0, none⟩ x) (some g) := by
  obtain ⟨h1, h2, h3, h4, h5, h6⟩ := h
  have hrow := rowF_own h5
  refine ⟨rowF_le (rowF_keep hrow (fun b hb => ?_)) (Nat.le_succ _), curD_far h1 hg, grownD_far h2 (Nat.le_refl _) _ _⟩
  have := (rowF_lt hrow b hb).1
  exact Below.heap_setCell _ _ _ _ (by intro e; simp only at e; omega)
theorem ds_elems {w0 w wr : World} {g p : Nat} {ao : Option Addr} {len cap : Nat} {fs : List FileD} {gb c : Nat} (h : DS w0 w wr g p ao len cap (.slice (some ⟨gb, 0, none⟩) fs.length c) fs) {k : Nat} (hk : k < fs.length) :
    (wr.cell? ⟨gb, k * 3, none⟩ = some (.string fs[k].name) ∧ wr.cell? ⟨gb, k * 3 + 1, none⟩ = some (.string fs[k].text) ∧ wr.cell? ⟨gb, k * 3 + 2, none⟩ = some (.int .i64 fs[k].kept)) ∧ ∀ j, wr.frozen? ⟨gb, j, none⟩ = false := by
  obtain ⟨h1, h2, h3, h4, h5, h6⟩ := h
  obtain ⟨e0, e1, e2⟩ := cellsF_get fs k hk
  exact ⟨⟨(h5.cellAt (k * 3) (by omega)).trans e0, (h5.cellAt (k * 3 + 1) (by omega)).trans e1, (h5.cellAt (k * 3 + 2) (by omega)).trans e2⟩, fun j => h5.frozenAt j⟩
theorem own_formF {w : World} {B n c : Nat} {a : Option Addr} {xs : List Value} (h : w.ownsRow B 127 3 (.slice a n c) n xs) (hn : 1 ≤ n) : ∃ gb, a = some ⟨gb, 0, none⟩ := by
  rcases h.2 with ⟨_, h0⟩ | ⟨gb, cap, cur, hv, _⟩
  · omega
  · simp only [Value.slice.injEq] at hv
    exact ⟨gb, hv.1⟩
theorem decF_small (n : Int) (h0 : 0 ≤ n) (h1 : n ≤ 1000) : (Wd.decS n).length ≤ 20 := by
  obtain ⟨m, rfl⟩ := Int.eq_ofNat_of_zero_le h0
  unfold Wd.decS
  split
  · simp
  · rw [if_neg (by omega), Int.natAbs_natCast]
    have := Wd.decA_length 20 m [] 4 (by omega)
    simp at this
    omega
theorem names_three {Z : ByteArray} (h : Z ∈ ([⟨#[]⟩, ⟨#[49, 50, 51, 52, 53, 54, 55, 56]⟩, ⟨#[49, 50, 51, 52, 53, 54, 55, 56, 57]⟩] : List ByteArray)) : Z.size ≤ 100 := by
  simp only [List.mem_cons, List.not_mem_nil, or_false] at h
  rcases h with rfl | rfl | rfl <;> decide

end Go.Proofs.YtijmlgdeeodehabDoor
