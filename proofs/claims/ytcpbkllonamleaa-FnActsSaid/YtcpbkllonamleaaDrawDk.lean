/- A drawn disk, right or not (written by tools/gen_drawdisk.py). -/
import Derived.Test.YtcpbkllonamleaaDraws
import Derived.Test.YtcpbkllonamleaaPickI
import Derived.Test.YtcpbkllonamleaaDec
import Derived.Test.YtcpbkllonamleaaPutS
import Derived.Test.YtcpbkllonamleaaBlk
import Derived.Test.YtcpbkllonamleaaTurnQ
import Derived.Deep.RegionHeld3
import Derived.Deep.RegionLaw
namespace Go.Proofs.Ytcpbkllonamleaa
open Go.RowKit

theorem blkD_lt {w : World} {k : Nat} {x : Obj} (h : w.heap[k]? = some x) : k < w.heap.size := (Array.getElem?_eq_some_iff.1 h).1
theorem curD_far {w0 w : World} {g X : Nat} {ao : Option Addr} {len cap j : Nat} {u : Value} (h : CurAt w0 w g ao len cap) (hX : g < X) : CurAt w0 (w.setCell ⟨X, j, none⟩ u) g ao len cap := by
  obtain ⟨c1, c2, i, z, T, c3, c4⟩ := h
  exact ⟨c1.setCell (p := ⟨X, j, none⟩) (by show w0.heap.size ≤ X; omega) u, c2, i, z, T, c3, (Below.heap_setCell _ _ _ _ (by intro e; simp only at e; omega)).trans c4⟩
theorem grownD_far {a b : World} {r : Option Nat} (h : a.grownBy b r) {p : Nat} (hp : a.heap.size ≤ p) (j : Nat) (u : Value) : a.grownBy (b.setCell ⟨p, j, none⟩ u) r :=
  ⟨h.os, h.tape, h.output, by have := h.size; simpa [World.setCell] using this, fun k hk hne => (Below.heap_setCell _ _ _ _ (by intro e; simp only at e; omega)).trans (h.block k hk hne)⟩
/-- One file is put behind a row of the call's own, at a step of a region that draws its order: which blocks are kept. -/
theorem step_app_file_g {ops : Array Oper} {o : Oper} {a : Act} {K : Act → World → Prop} {Q : Exit → Act → World → Prop} {E : Prop} (W : World) (B : Nat) (hgd : o.guard = none) (s y : Operand)
    (ho : o.op = .call { callee := .builtin .append, args := #[s, y], argTypes := #[24, 24] }) (v : Value) (l : List FileD) (F : FileD) (hs : a.eval s = v)
    (hown : W.ownsRow B 36 3 v l.length (cellsF l)) (k : Nat) (hx : a.eval y = .slice (some ⟨k, 0, none⟩) 1 1) (hblk : W.heap[k]? = some (.cells #[.string F.name, .string F.text, .int .i64 F.kept] 36 (0, 0)))
    (hlen : l.length ≤ 1048576) (hbase : B ≤ W.heap.size)
    (h : ∀ g cap w', w'.ownsRow B 36 3 (.slice (some ⟨g, 0, none⟩) (l.length + 1) cap) (l ++ [F]).length (cellsF (l ++ [F])) → W.grownBy w' v.ownBlock → (v.ownBlock = some g ∨ g = W.heap.size) → K (a.put o.dst (.slice (some ⟨g, 0, none⟩) (l.length + 1) cap)) w') :
    if Region.wanted o (yielded ops a.tmps) = true then Oper.wp Try.prog o a W K Q else E := by
  obtain ⟨i0, hi, hz0, hz1, hz2⟩ := info_parts Try.infoFile
  refine step_append_lies W hgd s y 24 ho B 36 i0 (.agg #[.string ⟨#[]⟩, .string ⟨#[]⟩, .int .i64 0]) 3 40 Try.underlying24 hi hz0 hz1 hz2 rfl (by decide) v l.length (cellsF l) hs hown ⟨k, 0, none⟩ 1 1 (cellsF [F]) hx (by rw [cellsF_length]; rfl)
    (fun j u hj => World.news_of_block hblk j u hj) (cellsF_one [F]) (by omega) (by unfold maxLen; omega) (by omega) hbase W.heap.size rfl ?_
  intro g cap w' hown' hgrow hg _
  refine h g cap w' ?_ hgrow hg
  rw [cellsF_append, List.length_append]
  exact hown'

theorem cellsF_set0 : ∀ (fs : List FileD) (k : Nat) (h : k < fs.length) (Z : ByteArray), (cellsF fs).set (k * 3) (.string Z) = cellsF (fs.set k ⟨Z, fs[k].text, fs[k].kept⟩)
  | A :: r, 0, _, Z => by simp [cellsF]
  | A :: r, k + 1, h, Z => by
    have ih := cellsF_set0 r k (by simpa using h) Z
    rw [show (k + 1) * 3 = k * 3 + 1 + 1 + 1 from by omega]
    simp [cellsF, ih]
theorem cellsF_set1 : ∀ (fs : List FileD) (k : Nat) (h : k < fs.length) (Z : ByteArray), (cellsF fs).set (k * 3 + 1) (.string Z) = cellsF (fs.set k ⟨fs[k].name, Z, fs[k].kept⟩)
  | A :: r, 0, _, Z => by simp [cellsF]
  | A :: r, k + 1, h, Z => by
    have ih := cellsF_set1 r k (by simpa using h) Z
    rw [show (k + 1) * 3 + 1 = k * 3 + 1 + 1 + 1 + 1 from by omega]
    simp [cellsF, ih]
theorem cellsF_set2 : ∀ (fs : List FileD) (k : Nat) (h : k < fs.length) (z : Int), (cellsF fs).set (k * 3 + 2) (.int .i64 z) = cellsF (fs.set k ⟨fs[k].name, fs[k].text, z⟩)
  | A :: r, 0, _, z => by simp [cellsF]
  | A :: r, k + 1, h, z => by
    have ih := cellsF_set2 r k (by simpa using h) z
    rw [show (k + 1) * 3 + 2 = k * 3 + 2 + 1 + 1 + 1 from by omega]
    simp [cellsF, ih]

/-- What bounds a drawn disk. -/
def BF (fs : List FileD) : Prop := fs.length ≤ 40 ∧ ∀ A ∈ fs, A.name.size ≤ 100 ∧ A.text.size ≤ 30000
theorem bf_set {fs : List FileD} {k : Nat} {F : FileD} (h : BF fs) (h1 : F.name.size ≤ 100) (h2 : F.text.size ≤ 30000) : BF (fs.set k F) := by
  refine ⟨by rw [List.length_set]; exact h.1, fun A hA => ?_⟩
  rcases List.mem_or_eq_of_mem_set hA with hA | rfl
  · exact h.2 A hA
  · exact ⟨h1, h2⟩
theorem bf_snoc {fs : List FileD} {F : FileD} {n : Nat} (h : BF fs) (hn : fs.length ≤ n) (hn' : n ≤ 39) (h1 : F.name.size ≤ 100) (h2 : F.text.size ≤ 30000) : BF (fs ++ [F]) := by
  refine ⟨by rw [List.length_append]; simp only [List.length_cons, List.length_nil]; omega, fun A hA => ?_⟩
  rcases List.mem_append.1 hA with hA | hA
  · exact h.2 A hA
  · rw [List.mem_singleton.1 hA]; exact ⟨h1, h2⟩
theorem bf_at {fs : List FileD} {k : Nat} (h : BF fs) (hk : k < fs.length) : fs[k].name.size ≤ 100 ∧ fs[k].text.size ≤ 30000 := h.2 _ (List.getElem_mem hk)
theorem bf_put {fs : List FileD} {F : FileD} {n : Nat} (h : BF fs) (hn : fs.length ≤ n) (hn' : n ≤ 39) (h1 : F.name.size ≤ 100) (h2 : F.text.size ≤ 30000) : BF (putD fs F) := by
  refine ⟨by have := len_putD_le fs F; omega, fun A hA => ?_⟩
  unfold putD at hA
  rcases List.mem_append.1 hA with hA | hA
  · rcases List.mem_append.1 hA with hA | hA
    · exact h.2 A (List.mem_filter.1 hA).1
    · rw [List.mem_singleton.1 hA]; exact ⟨h1, h2⟩
  · exact h.2 A (List.mem_filter.1 hA).1

/-- What l03Disk holds: the cursor, the cell of its answer, the disk in block p, its row. -/
def DS (w0 w wr : World) (g p : Nat) (ao : Option Addr) (len cap : Nat) (v : Value) (fs : List FileD) : Prop :=
  CurAt w0 wr g ao len cap ∧ w.grownBy wr (some g) ∧ wr.heap[w.heap.size]? = some (.cells #[.slice none 0 0] 26 (0, 0)) ∧ wr.heap[p]? = some (.cells #[v] 26 (0, 0)) ∧
  wr.ownsRow (w.heap.size + 1) 36 3 v fs.length (cellsF fs) ∧ v.ownBlock ≠ some p
theorem ds_grown {w0 w wr : World} {g p : Nat} {ao : Option Addr} {len cap : Nat} {v : Value} {fs : List FileD} {w' : World} (h : DS w0 w wr g p ao len cap v fs) (hg : g < w.heap.size) (hp : w.heap.size < p) (hc : CurAt w0 w' g ao len cap) (hgr : wr.grownBy w' (some g)) : DS w0 w w' g p ao len cap v fs := by
  obtain ⟨_, h2, h3, h4, h5, h6⟩ := h
  exact ⟨hc, grownBy_trans h2 hgr, (hgr.block _ (blkD_lt h3) (by simp; omega)).trans h3, (hgr.block _ (blkD_lt h4) (by simp; omega)).trans h4, row_keep h5 hgr (by omega), h6⟩
theorem ds_below {w0 w wr : World} {g p : Nat} {ao : Option Addr} {len cap : Nat} {v : Value} {fs : List FileD} {w' : World} (h : DS w0 w wr g p ao len cap v fs) (hb : Below wr.heap.size wr w') : DS w0 w w' g p ao len cap v fs := by
  obtain ⟨h1, h2, h3, h4, h5, h6⟩ := h
  exact ⟨cur_keep h1 hb (cur_lt h1), grownBy_trans h2 (grownBy_below _ hb), (hb.block _ (blkD_lt h3)).trans h3, (hb.block _ (blkD_lt h4)).trans h4, ownsRow_below h5 hb, h6⟩
theorem ds_cells {w0 w wr : World} {g p : Nat} {ao : Option Addr} {len cap : Nat} {v : Value} {fs : List FileD} (h : DS w0 w wr g p ao len cap v fs) : (wr.cell? ⟨p, 0, none⟩ = some v ∧ wr.frozen? ⟨p, 0, none⟩ = false) ∧ wr.cell? ⟨w.heap.size, 0, none⟩ = some (.slice none 0 0) ∧ wr.frozen? ⟨w.heap.size, 0, none⟩ = false := by
  obtain ⟨_, _, h3, h4, _⟩ := h
  exact ⟨⟨(cell_of_row wr _ 0 _ _ (0, 0) h4).trans rfl, frozen_of_row wr _ 0 _ _ h4⟩, (cell_of_row wr _ 0 _ _ (0, 0) h3).trans rfl, frozen_of_row wr _ 0 _ _ h3⟩
/-- A new row is put into the disk. -/
theorem ds_row {w0 w wr : World} {g p : Nat} {ao : Option Addr} {len cap : Nat} {v : Value} {fs : List FileD} {W : World} {v' : Value} {fs' : List FileD} (h : DS w0 w wr g p ao len cap v fs) (hg : g < w.heap.size) (hp : w.heap.size < p) (hb : wr.grownBy W v.ownBlock) (ho : W.ownsRow (w.heap.size + 1) 36 3 v' fs'.length (cellsF fs')) (hv : v'.ownBlock ≠ some p) : DS w0 w (W.setCell ⟨p, 0, none⟩ v') g p ao len cap v' fs' := by
  obtain ⟨h1, h2, h3, h4, h5, h6⟩ := h
  have hlt := h5.lt
  have hne : ∀ k, k < w.heap.size + 1 → some k ≠ v.ownBlock := fun k hk e => by have := (hlt k e.symm).1; omega
  obtain ⟨c1, c2, i, z, T, c3, c4⟩ := h1
  have k4 := (hb.block p (blkD_lt h4) (fun e => h6 e.symm)).trans h4
  refine ⟨⟨?_, c2, i, z, T, c3, (Below.heap_setCell _ _ _ _ (by intro e; simp only at e; omega)).trans ((hb.block g (blkD_lt c4) (hne g (by omega))).trans c4)⟩, ?_, (Below.heap_setCell _ _ _ _ (by intro e; simp only at e; omega)).trans ((hb.block _ (blkD_lt h3) (hne _ (by omega))).trans h3), (heap_setCell_same _ _ _ _ _ _ k4).trans rfl, ho.kept (grownBy_store (World.grownBy.refl _ (some p)) 0 _) (.inr hv), hv⟩
  · have c5 : w0.heap.size ≤ wr.heap.size := c1.size
    exact (c1.grown hb c5 (fun k hk => by have := (hlt k hk).1; omega)).setCell (p := ⟨p, 0, none⟩) (by show w0.heap.size ≤ p; omega) _
  · refine grownD_far ⟨hb.os.trans h2.os, hb.tape.trans h2.tape, hb.output.trans h2.output, Nat.le_trans h2.size hb.size, fun k hk hr => ?_⟩ (by omega) _ _
    exact (hb.block k (Nat.lt_of_lt_of_le hk h2.size) (hne k (by omega))).trans (h2.block k hk hr)
/-- A cell of the row is another. -/
theorem ds_elem {w0 w wr : World} {g p : Nat} {ao : Option Addr} {len cap : Nat} {fs fs' : List FileD} {gb n c j : Nat} {u : Value} (h : DS w0 w wr g p ao len cap (.slice (some ⟨gb, 0, none⟩) n c) fs) (hn : fs.length = n) (hg : g < w.heap.size) (hc : (cellsF fs).set j u = cellsF fs') (hl : fs'.length = fs.length) : DS w0 w (wr.setCell ⟨gb, j, none⟩ u) g p ao len cap (.slice (some ⟨gb, 0, none⟩) n c) fs' := by
  subst hn
  obtain ⟨h1, h2, h3, h4, h5, h6⟩ := h
  have hgb := (h5.lt gb rfl).1
  have hpb : gb ≠ p := fun e => h6 (by simp [Value.ownBlock, e])
  have hs := (h5.stored j u).1
  rw [hc] at hs
  refine ⟨curD_far h1 (by omega), grownD_far h2 (by omega) _ _, (Below.heap_setCell _ _ _ _ (by intro e; simp only at e; omega)).trans h3, (Below.heap_setCell _ _ _ _ (by intro e; simp only at e; omega)).trans h4, ?_, h6⟩
  rw [hl]
  exact hs
theorem ds_end {w0 w wr : World} {g p : Nat} {ao : Option Addr} {len cap : Nat} {v : Value} {fs : List FileD} (h : DS w0 w wr g p ao len cap v fs) (hg : g < w.heap.size) (x : Value) : RowF (wr.setCell ⟨w.heap.size, 0, none⟩ x) w.heap.size v fs ∧ CurAt w0 (wr.setCell ⟨w.heap.size, 0, none⟩ x) g ao len cap ∧ w.grownBy (wr.setCell ⟨w.heap.size, 0, none⟩ x) (some g) := by
  obtain ⟨h1, h2, h3, h4, h5, h6⟩ := h
  have hrow := rowF_own h5
  refine ⟨rowF_le (rowF_keep hrow (fun b hb => ?_)) (Nat.le_succ _), curD_far h1 hg, grownD_far h2 (Nat.le_refl _) _ _⟩
  have := (rowF_lt hrow b hb).1
  exact Below.heap_setCell _ _ _ _ (by intro e; simp only at e; omega)
theorem ds_elems {w0 w wr : World} {g p : Nat} {ao : Option Addr} {len cap : Nat} {fs : List FileD} {gb c : Nat} (h : DS w0 w wr g p ao len cap (.slice (some ⟨gb, 0, none⟩) fs.length c) fs) {k : Nat} (hk : k < fs.length) :
    (wr.cell? ⟨gb, k * 3, none⟩ = some (.string fs[k].name) ∧ wr.cell? ⟨gb, k * 3 + 1, none⟩ = some (.string fs[k].text) ∧ wr.cell? ⟨gb, k * 3 + 2, none⟩ = some (.int .i64 fs[k].kept)) ∧ ∀ j, wr.frozen? ⟨gb, j, none⟩ = false := by
  obtain ⟨h1, h2, h3, h4, h5, h6⟩ := h
  obtain ⟨e0, e1, e2⟩ := cellsF_get fs k hk
  exact ⟨⟨(h5.cellAt (k * 3) (by omega)).trans e0, (h5.cellAt (k * 3 + 1) (by omega)).trans e1, (h5.cellAt (k * 3 + 2) (by omega)).trans e2⟩, fun j => h5.frozenAt j⟩
theorem own_formF {w : World} {B n c : Nat} {a : Option Addr} {xs : List Value} (h : w.ownsRow B 36 3 (.slice a n c) n xs) (hn : 1 ≤ n) : ∃ gb, a = some ⟨gb, 0, none⟩ := by
  rcases h.2 with ⟨_, h0⟩ | ⟨gb, cap, cur, hv, _⟩
  · omega
  · simp only [Value.slice.injEq] at hv
    exact ⟨gb, hv.1⟩
theorem decF_small (n : Int) (h0 : 0 ≤ n) (h1 : n ≤ 1000) : (Wd.decS n).length ≤ 20 := by
  obtain ⟨m, rfl⟩ := Int.eq_ofNat_of_zero_le h0
  unfold Wd.decS
  split
  · simp
  · rw [if_neg (by omega), Int.natAbs_natCast]
    have := Wd.decA_length 20 m [] 4 (by omega)
    simp at this
    omega
theorem names_three {Z : ByteArray} (h : Z ∈ ([⟨#[]⟩, ⟨#[49, 50, 51, 52, 53, 54, 55, 56]⟩, ⟨#[49, 50, 51, 52, 53, 54, 55, 56, 57]⟩] : List ByteArray)) : Z.size ≤ 100 := by
  simp only [List.mem_cons, List.not_mem_nil, or_false] at h
  rcases h with rfl | rfl | rfl <;> decide

set_option maxRecDepth 100000 in
set_option maxHeartbeats 8000000 in
theorem drawDisk_any (w0 w : World) (g : Nat) (ao : Option Addr) (len cap : Nat) (hlen : len ≤ 1048576) (hcode : Code w0 ao len) (hc : CurAt w0 w g ao len cap) :
    Calls Try.prog 29 #[.pointer (some ⟨g, 0, none⟩)] w fun e w' => ∃ (a : Option Addr) (c : Nat) (fs : List FileD), e = .returned (.agg #[.slice a fs.length c]) ∧ RowF w' w.heap.size (.slice a fs.length c) fs ∧ fs.length ≤ 40 ∧ (∀ A ∈ fs, A.name.size ≤ 100 ∧ A.text.size ≤ 30000) ∧ CurAt w0 w' g ao len cap ∧ w.grownBy w' (some g) := by
  have HC := hide hcode
  have hg := cur_lt hc
  obtain ⟨wR, hwR⟩ : ∃ wR, wR = (w.alloc (.cells #[.slice none 0 0] 26)).alloc (.cells #[.slice none 0 0] 26) := ⟨_, rfl⟩
  have hs1 : (w.alloc (.cells #[.slice none 0 0] 26)).heap.size = w.heap.size + 1 := by simp
  obtain ⟨p, hp⟩ : ∃ p, p = w.heap.size + 1 := ⟨_, rfl⟩
  have hpw : w.heap.size < p := by omega
  have D0 : Hid (DS w0 w wR g p ao len cap (.slice none 0 0) []) := by
    have hb1 : Below w.heap.size w (w.alloc (.cells #[.slice none 0 0] 26)) := (Below.refl _ w).alloc (Nat.le_refl _) _
    have hb2 : Below (w.heap.size + 1) (w.alloc (.cells #[.slice none 0 0] 26)) wR := by rw [hwR]; exact (Below.refl _ _).alloc (by rw [hs1]; exact Nat.le_refl _) _
    have e := heap_alloc_new (w.alloc (.cells #[.slice none 0 0] 26)) (.cells #[.slice none 0 0] 26)
    rw [hs1] at e
    refine ⟨cur_keep hc (hb1.trans (hb2.mono (by omega))) hg, grownBy_below _ (hb1.trans (hb2.mono (by omega))), (hb2.block _ (by omega)).trans (heap_alloc_new w _), by rw [hp, hwR]; exact e, World.ownsRow_nil _ _ _ _, by simp [Value.ownBlock]⟩
  clear hcode hc hs1
  go_enter Try.func29, Try.ntmps29
  go_wp2_with fail
  rw [← hwR, ← hp]
  clear hwR hp
  go_loopw [4] (fun ii wr => ∃ (k : Nat) (a : Option Addr) (c : Nat) (fs : List FileD), ii = .int .i64 k ∧ k ≤ 6 ∧ fs.length ≤ k ∧ Hid (BF fs) ∧ Hid (DS w0 w wr g p ao len cap (.slice a fs.length c) fs)) (fun ii _ => 7 - (intOf ii).toNat)
  case atStart => exact ⟨0, none, 0, [], rfl, by omega, by simp, ⟨by simp, fun A hA => absurd hA List.not_mem_nil⟩, D0⟩
  case round =>
    clear D0
    obtain ⟨i, a, c, fs, rfl, hik, hfl, HB, HD⟩ := hrel
    go_wp2_with fail
    refine (below_any w0 _ g ao len cap _ hlen (by omega) HC.out HD.out.1).mono ?_
    rintro e w2 ⟨x, rfl, hx, _, hc2, g2⟩
    have hx6 := hx (by omega)
    have D2 := hide (ds_grown HD.out hg hpw hc2 g2)
    clear hc2 g2 HD hx
    by_cases hlt : i < x
    · have hlt' : decide ((i : Int) < (x : Int)) = true := by simp; omega
      go_wp2_with fail
      refine (below_any w0 _ g ao len cap _ hlen (by omega) HC.out D2.out.1).mono ?_
      rintro e w3 ⟨y, rfl, hy, _, hc3, g3⟩
      have hy9 := hy (by omega)
      have D3 := hide (ds_grown D2.out hg hpw hc3 g3)
      clear hc3 g3 D2 hy
      go_wp2_with fail
      refine (text_any w0 _ g ao len cap _ hlen (by omega) HC.out D3.out.1).mono ?_
      rintro e w4 ⟨l, rfl, hl, hc4, g4⟩
      have D4 := hide (ds_grown D3.out hg hpw hc4 g4)
      clear hc4 g4 D3
      obtain ⟨T, HT⟩ : ∃ T : ByteArray, Hid ((⟨l.toArray⟩ : ByteArray) = T) := ⟨_, hide rfl⟩
      have hTz : T.size ≤ 30 := by rw [← HT.out]; show l.length ≤ 30; omega
      rw [HT.out]
      clear hl
      obtain ⟨⟨hcd, _⟩, -, -⟩ := ds_cells D4.out
      have hcdd : w4.drew.cell? ⟨p, 0, none⟩ = some (.slice a fs.length c) := hcd
      have D4d : Hid (DS w0 w w4.drew g p ao len cap (.slice a fs.length c) fs) := ds_below D4.out (Below.refl _ _).drew
      clear D4
      have hwr : IntKind.i64.wrap ((T.size : Int) + 1) = (T.size : Int) + 1 := by rw [IntKind.wrap_i64]; omega
      go_wp2_with fail
      go_region_law ((first | (go_simp; go_at_call 25; refine (named_any w0 _ g ao len cap hlen HC.out D4d.out.1).mono ?_; rintro e w5 ⟨z, rfl, hz, hc5, g5⟩; have D5 := hide (ds_grown D4d.out hg hpw hc5 g5); have hcd5 := (ds_cells D5.out).1.1; clear hc5 g5) | (go_simp; go_at_call 22; refine (below_any w0 _ g ao len cap _ hlen (by omega) HC.out D5.out.1).mono ?_; rintro e w6 ⟨q, rfl, hq, _, hc6, g6⟩; have D6 := hide (ds_grown D5.out hg hpw hc6 g6); have hcd6 := (ds_cells D6.out).1.1; clear hc6 g6 hq) | (go_simp; go_at_call 24; refine (l03Put_own fs _ _ ⟨z, T, (q : Int)⟩ _ (by omega) (rowF_files (rowF_own D6.out.2.2.2.2.1))).mono ?_; rintro e w7 ⟨v7, rfl, ho7, b7⟩; obtain ⟨a7, c7, rfl⟩ := slice_form ho7; have HO7 := hide ho7; have B7 := hide b7; have hq7 := (ds_cells (ds_below D6.out b7)).1.1; have hz7 := (ds_cells (ds_below D6.out b7)).1.2; clear ho7 b7) | fail))
      all_goals
        have hs6 : w.heap.size + 1 ≤ w6.heap.size ∧ p < w6.heap.size := ⟨blkD_lt D6.out.2.2.1, blkD_lt D6.out.2.2.2.1⟩
        have D7 := hide (ds_row D6.out hg hpw (grownBy_below _ B7.out) (ownsRow_mono HO7.out hs6.1) (fun e => by have := (HO7.out.lt _ e).1; omega))
        have HB7 := hide (bf_put (F := ⟨z, T, (q : Int)⟩) HB.out hfl (by omega) (by show z.size ≤ 100; omega) (by show T.size ≤ 30000; omega))
        have hlen7 := len_putD_le fs ⟨z, T, (q : Int)⟩
        clear HO7 B7 D6 D5 D4d hcd hcdd hcd5 hcd6 hq7 hz7
        go_wp2_with fail
        go_roundw
        case rel => exact ⟨i + 1, _, _, _, by go_num, by omega, by omega, HB7, D7⟩
        case measure => simp [intOf]; omega
    · have hlt' : decide ((i : Int) < (x : Int)) = false := by simp; omega
      by_cases hz : fs.length = 0
      · have hz' : ((fs.length : Int) == 0) = true := by rw [beq_iff_eq]; omega
        clear hz
        obtain ⟨⟨hp0, hpf0⟩, hr0, hrf0⟩ := ds_cells D2.out
        go_wp2_with fail
        have hE := ds_end D2.out hg (.slice a fs.length c)
        exact bodyPost_ret (v := .agg #[(.slice a fs.length c)]) (by simp [results, Try.results29, go_sem, hr0]) rfl ⟨_, _, fs, rfl, hE.1, HB.out.1, HB.out.2, hE.2.1, hE.2.2⟩
      have hz' : ((fs.length : Int) == 0) = false := by rw [beq_eq_false_iff_ne]; omega
      obtain ⟨gb, rfl⟩ := own_formF D2.out.2.2.2.2.1 (by omega)
      obtain ⟨⟨hcd, _⟩, -, -⟩ := ds_cells D2.out
      go_wp2_with fail
      refine (below_any w0 _ g ao len cap _ hlen (by omega) HC.out D2.out.1).mono ?_
      rintro e w4 ⟨k, rfl, hk, _, hc4, g4⟩
      have hkn := hk (by omega)
      have hkl : k < fs.length := by omega
      have A4 := hide (ds_grown D2.out hg hpw hc4 g4)
      clear hc4 g4 hk D2 hcd
      go_wp2_with fail
      refine (below_any w0 _ g ao len cap _ hlen (by omega) HC.out A4.out.1).mono ?_
      rintro e w5 ⟨s, rfl, hs, _, hc5, g5⟩
      have A5 := hide (ds_grown A4.out hg hpw hc5 g5)
      clear hc5 g5 A4 hs
      have hi0 : (0 : Int) ≤ (k : Int) := by omega
      have hi1 : (k : Int) < (fs.length : Int) := by omega
      have hw5 : w.heap.size ≤ w5.heap.size ∧ p < w5.heap.size := ⟨A5.out.2.1.size, blkD_lt A5.out.2.2.2.1⟩
      have KS : Hid (∀ (W : World) (gs : List FileD), DS w0 w W g p ao len cap (.slice (some ⟨gb, 0, none⟩) fs.length c) gs → W.cell? ⟨p, 0, none⟩ = some (.slice (some ⟨gb, 0, none⟩) fs.length c)) := fun W gs hW => (ds_cells hW).1.1
      obtain ⟨F, HFk⟩ : ∃ F, Hid (fs[k] = F) := ⟨fs[k], hide rfl⟩
      have hFb := bf_at HB.out hkl
      have hEl := ds_elems A5.out hkl
      have KT : Hid (∀ (W : World), DS w0 w W g p ao len cap (.slice (some ⟨gb, 0, none⟩) fs.length c) fs → W.cell? ⟨gb, k * 3 + 1, none⟩ = some (.string F.text)) := fun W hW => by rw [← HFk.out]; exact (ds_elems hW hkl).1.2.1
      rw [HFk.out] at hFb hEl
      have HEL := hide hEl
      clear hEl
      by_cases h0 : s = 0
      · have hy0 : ((s : Int) == 0) = true := by rw [beq_iff_eq]; omega
        clear h0
        have A5d : Hid (DS w0 w w5.drew g p ao len cap (.slice (some ⟨gb, 0, none⟩) fs.length c) fs) := ds_below A5.out (Below.refl _ _).drew
        have hwr : IntKind.i64.wrap ((F.text.size : Int) + 1) = (F.text.size : Int) + 1 := by rw [IntKind.wrap_i64]; omega
        have A5a : Hid (DS w0 w (w5.alloc (.cells #[.int .i64 (-1), .int .i64 ((F.text.size : Int) + 1)] 3)).drew g p ao len cap (.slice (some ⟨gb, 0, none⟩) fs.length c) fs) := ds_below A5.out ((Below.refl _ w5).alloc (Nat.le_refl _) _).drew
        have HX5 : Hid ((w5.alloc (.cells #[.int .i64 (-1), .int .i64 ((F.text.size : Int) + 1)] 3)).drew.heap[w5.heap.size]? = some (.cells (([-1, (F.text.size : Int) + 1] : List Int).map (Value.int .i64)).toArray 3 (0, 0))) := heap_alloc_new w5 _
        obtain ⟨⟨hp0, hpf0⟩, hr0, hrf0⟩ := ds_cells A5.out
        have htx := KT.out _ A5.out
        go_upto_region 12 with fail
        go_region_held3 (fun w' => w'.cell? ⟨p, 0, none⟩ = some (.slice (some ⟨gb, 0, none⟩) fs.length c) ∧ w'.cell? ⟨gb, k * 3 + 1, none⟩ = some (.string F.text)) (first | (exact ⟨KS.out _ _ A5d.out, KT.out _ A5d.out⟩) | (exact ⟨KS.out _ _ A5a.out, KT.out _ A5a.out⟩) | (exact ⟨KS.out _ _ A8.out, KT.out _ A8.out⟩) | (exact ⟨KS.out _ _ A9.out, hKT9.out⟩) | fail) ((first | (go_at_call 43; refine (pickInt_any w0 _ g w5.heap.size ao len cap 2 [-1, (F.text.size : Int) + 1] hlen HC.out A5a.out.1 (by omega) rfl (by omega) (by omega) (ints_cells _ HX5.out)).mono ?_; rintro e w8 ⟨z, rfl, hz8, hc8, g8⟩; have A8 := hide (ds_grown A5a.out hg hpw hc8 g8); obtain ⟨⟨_, _, he2⟩, hef⟩ := ds_elems A8.out hkl; have hef0 := hef (k * 3 + 2); have A9 : Hid (DS w0 w (w8.setCell ⟨gb, k * 3 + 2, none⟩ (.int .i64 z)) g p ao len cap (.slice (some ⟨gb, 0, none⟩) fs.length c) (fs.set k ⟨fs[k].name, fs[k].text, z⟩)) := ds_elem A8.out rfl hg (cellsF_set2 fs k hkl z) (List.length_set ..); have hKT9 : Hid ((w8.setCell ⟨gb, k * 3 + 2, none⟩ (.int .i64 z)).cell? ⟨gb, k * 3 + 1, none⟩ = some (.string F.text)) := (World.cell?_setCell_other _ _ _ _ (by intro e; simp at e)).trans (KT.out _ A8.out); clear hz8 hc8 g8 hef) | fail))
        have HB9 : BF (fs.set k ⟨fs[k].name, fs[k].text, z⟩) := bf_set HB.out (by show fs[k].name.size ≤ 100; rw [HFk.out]; exact hFb.1) (by show fs[k].text.size ≤ 30000; rw [HFk.out]; exact hFb.2)
        have hl9 : (fs.set k ⟨fs[k].name, fs[k].text, z⟩).length = fs.length := List.length_set ..
        go_upto_region 25 with fail
        generalize w8.setCell ⟨gb, k * 3 + 2, none⟩ (.int .i64 z) = w9 at A9
        clear hp0 hpf0 hr0 hrf0 he2 hef0 htx hKT9
        obtain ⟨⟨hp0, hpf0⟩, hr0, hrf0⟩ := ds_cells A9.out
        go_wp2_with fail
        have hE := ds_end A9.out hg (.slice (some ⟨gb, 0, none⟩) fs.length c)
        exact bodyPost_ret (v := .agg #[(.slice (some ⟨gb, 0, none⟩) fs.length c)]) (by simp [results, Try.results29, go_sem, hr0]) rfl ⟨_, _, (fs.set k ⟨fs[k].name, fs[k].text, z⟩), by rw [hl9], by rw [hl9]; exact hE.1, HB9.1, HB9.2, hE.2.1, hE.2.2⟩
      by_cases h1 : s = 1
      · have hn0 : ((s : Int) == 0) = false := by rw [beq_eq_false_iff_ne]; omega
        have hy1 : ((s : Int) == 1) = true := by rw [beq_iff_eq]; omega
        clear h1
        obtain ⟨⟨hp0, hpf0⟩, hr0, hrf0⟩ := ds_cells A5.out
        obtain ⟨⟨he0, he1, he2⟩, hef⟩ := HEL.out
        have hall : (w5.alloc (.cells #[.string F.name, .string F.text, .int .i64 F.kept] 36)).cell? ⟨p, 0, none⟩ = some (.slice (some ⟨gb, 0, none⟩) fs.length c) := KS.out _ _ (ds_below A5.out ((Below.refl _ w5).alloc (Nat.le_refl _) _))
        go_upto_region 14 with fail
        go_region_law ((first | (refine step_app_file_g _ (w.heap.size + 1) (by rfl) _ _ (by rfl) _ fs F (by rfl) ((ownsRow_below A5.out.2.2.2.2.1 (Below.refl _ _).drew).alloc _) w5.heap.size (by simp [Act.eval]) (heap_alloc_new w5 _) (by omega) (by simp; omega) ?_; intro g6 cap6 w6 ho6 hg6 hor6; have HO6 := hide ho6; have G6 : Hid (w5.grownBy w6 (Value.slice (some ⟨gb, 0, none⟩) fs.length c).ownBlock) := grownBy_trans (grownBy_below _ ((Below.refl _ w5).alloc (Nat.le_refl _) (.cells #[.string F.name, .string F.text, .int .i64 F.kept] 36)).drew) hg6; have hn4 := (G6.out.block p hw5.2 (fun e => A5.out.2.2.2.2.2 e.symm)).trans A5.out.2.2.2.1; have hn1 : w6.cell? ⟨p, 0, none⟩ = some (.slice (some ⟨gb, 0, none⟩) fs.length c) := (cell_of_row w6 p 0 _ _ (0, 0) hn4).trans rfl; have hn2 : w6.frozen? ⟨p, 0, none⟩ = false := frozen_of_row w6 p 0 _ _ hn4; clear hn4 ho6 hg6) | fail))
        all_goals
          have A7 : Hid (DS w0 w (w6.setCell ⟨p, 0, none⟩ (.slice (some ⟨g6, 0, none⟩) (fs.length + 1) cap6)) g p ao len cap (.slice (some ⟨g6, 0, none⟩) (fs.length + 1) cap6) (fs ++ [F])) := ds_row A5.out hg hpw G6.out HO6.out (fun e => by
            have e' : g6 = p := by simpa [Value.ownBlock] using e
            rcases hor6 with h | h
            · exact A5.out.2.2.2.2.2 (by rw [h, e'])
            · have hs9 : (w5.alloc (.cells #[.string F.name, .string F.text, .int .i64 F.kept] 36)).heap.size = w5.heap.size + 1 := by simp
              have h' : g6 = (w5.alloc (.cells #[.string F.name, .string F.text, .int .i64 F.kept] 36)).heap.size := h
              omega)
          have HB7 : BF (fs ++ [F]) := bf_snoc HB.out hfl (by omega) hFb.1 hFb.2
          have hl7 : (fs ++ [F]).length = fs.length + 1 := by simp
          clear hall hp0 hpf0 hr0 hrf0 he0 he1 he2 hef
          go_upto_region 25 with fail
          generalize w6.setCell ⟨p, 0, none⟩ (.slice (some ⟨g6, 0, none⟩) (fs.length + 1) cap6) = w7 at A7
          clear hn1 hn2
          obtain ⟨⟨hp0, hpf0⟩, hr0, hrf0⟩ := ds_cells A7.out
          go_wp2_with fail
          have hE := ds_end A7.out hg (.slice (some ⟨g6, 0, none⟩) (fs.length + 1) cap6)
          exact bodyPost_ret (v := .agg #[(.slice (some ⟨g6, 0, none⟩) (fs.length + 1) cap6)]) (by simp [results, Try.results29, go_sem, hr0]) rfl ⟨_, _, (fs ++ [F]), by rw [hl7], by rw [hl7]; exact hE.1, HB7.1, HB7.2, hE.2.1, hE.2.2⟩
      by_cases h2 : s = 2
      · have hn0 : ((s : Int) == 0) = false := by rw [beq_eq_false_iff_ne]; omega
        have hn1 : ((s : Int) == 1) = false := by rw [beq_eq_false_iff_ne]; omega
        have hy2 : ((s : Int) == 2) = true := by rw [beq_iff_eq]; omega
        clear h2 h0 h1
        have A5d : Hid (DS w0 w w5.drew g p ao len cap (.slice (some ⟨gb, 0, none⟩) fs.length c) fs) := ds_below A5.out (Below.refl _ _).drew
        have A5a : Hid (DS w0 w (w5.alloc (.cells #[.string ⟨#[]⟩, .string ⟨#[49, 50, 51, 52, 53, 54, 55, 56]⟩, .string ⟨#[49, 50, 51, 52, 53, 54, 55, 56, 57]⟩] 9)).drew g p ao len cap (.slice (some ⟨gb, 0, none⟩) fs.length c) fs) := ds_below A5.out ((Below.refl _ w5).alloc (Nat.le_refl _) _).drew
        have HX5 : Hid ((w5.alloc (.cells #[.string ⟨#[]⟩, .string ⟨#[49, 50, 51, 52, 53, 54, 55, 56]⟩, .string ⟨#[49, 50, 51, 52, 53, 54, 55, 56, 57]⟩] 9)).drew.heap[w5.heap.size]? = some (.cells (([⟨#[]⟩, ⟨#[49, 50, 51, 52, 53, 54, 55, 56]⟩, ⟨#[49, 50, 51, 52, 53, 54, 55, 56, 57]⟩] : List ByteArray).map Value.string).toArray 9 (0, 0))) := heap_alloc_new w5 _
        obtain ⟨⟨hp0, hpf0⟩, hr0, hrf0⟩ := ds_cells A5.out
        go_upto_region 16 with fail
        go_region_held3 (fun w' => w'.cell? ⟨p, 0, none⟩ = some (.slice (some ⟨gb, 0, none⟩) fs.length c)) (first | (exact KS.out _ _ A5d.out) | (exact KS.out _ _ A5a.out) | (exact KS.out _ _ A8.out) | (exact KS.out _ _ A9.out) | fail) ((first | (go_at_call 41; refine (pickText_any w0 _ g w5.heap.size ao len cap 3 [⟨#[]⟩, ⟨#[49, 50, 51, 52, 53, 54, 55, 56]⟩, ⟨#[49, 50, 51, 52, 53, 54, 55, 56, 57]⟩] hlen HC.out A5a.out.1 (by omega) rfl (by omega) (by omega) (texts_cells _ HX5.out)).mono ?_; rintro e w8 ⟨Z, rfl, hZ, hc8, g8⟩; have A8 := hide (ds_grown A5a.out hg hpw hc8 g8); have hZ' := names_three hZ; obtain ⟨⟨he0, _, _⟩, hef⟩ := ds_elems A8.out hkl; have hef0 := hef (k * 3); have A9 : Hid (DS w0 w (w8.setCell ⟨gb, k * 3, none⟩ (.string Z)) g p ao len cap (.slice (some ⟨gb, 0, none⟩) fs.length c) (fs.set k ⟨Z, fs[k].text, fs[k].kept⟩)) := ds_elem A8.out rfl hg (cellsF_set0 fs k hkl Z) (List.length_set ..); clear hZ hc8 g8 hef) | fail))
        have HB9 : BF (fs.set k ⟨Z, fs[k].text, fs[k].kept⟩) := bf_set HB.out hZ' (by show fs[k].text.size ≤ 30000; rw [HFk.out]; exact hFb.2)
        have hl9 : (fs.set k ⟨Z, fs[k].text, fs[k].kept⟩).length = fs.length := List.length_set ..
        go_upto_region 25 with fail
        generalize w8.setCell ⟨gb, k * 3, none⟩ (.string Z) = w9 at A9
        clear hp0 hpf0 hr0 hrf0 he0 hef0
        obtain ⟨⟨hp0, hpf0⟩, hr0, hrf0⟩ := ds_cells A9.out
        go_wp2_with fail
        have hE := ds_end A9.out hg (.slice (some ⟨gb, 0, none⟩) fs.length c)
        exact bodyPost_ret (v := .agg #[(.slice (some ⟨gb, 0, none⟩) fs.length c)]) (by simp [results, Try.results29, go_sem, hr0]) rfl ⟨_, _, (fs.set k ⟨Z, fs[k].text, fs[k].kept⟩), by rw [hl9], by rw [hl9]; exact hE.1, HB9.1, HB9.2, hE.2.1, hE.2.2⟩
      by_cases h3 : s = 3
      · have hn0 : ((s : Int) == 0) = false := by rw [beq_eq_false_iff_ne]; omega
        have hn1 : ((s : Int) == 1) = false := by rw [beq_eq_false_iff_ne]; omega
        have hn2 : ((s : Int) == 2) = false := by rw [beq_eq_false_iff_ne]; omega
        have hy3 : ((s : Int) == 3) = true := by rw [beq_iff_eq]; omega
        clear h3 h0 h1 h2 KS KT
        have hp5 : p < w5.heap.size := hw5.2
        obtain ⟨⟨hp0, hpf0⟩, hr0, hrf0⟩ := ds_cells A5.out
        have A6 := hide (ds_row A5.out hg hpw (grownBy_below _ ((Below.refl _ w5).alloc (Nat.le_refl _) (.cells #[] 36))) (fs' := []) (v' := .slice (some ⟨w5.heap.size, 0, none⟩) 0 0) (World.ownsRow_lit (e := 36) (size := 3) w5 #[] 0 (by omega) (by unfold maxLen; omega) (by simp)) (by simp [Value.ownBlock]; omega))
        rw [World.setCell_alloc_past _ _ _ _ hp5] at A6
        go_upto_region 19 with fail
        generalize (w5.setCell ⟨p, 0, none⟩ (.slice (some ⟨w5.heap.size, 0, none⟩) 0 0)).alloc (.cells #[] 36) = w6 at A6
        clear hp0 hpf0 hr0 hrf0 HEL hFb HFk
        go_wp2_with fail
        go_loopw [7] (fun ii wr => ∃ (k : Nat) (a : Option Addr) (c9 : Nat) (gs : List FileD), ii = .int .i64 k ∧ k ≤ 31 ∧ gs.length ≤ k ∧ Hid (BF gs) ∧ Hid (DS w0 w wr g p ao len cap (.slice a gs.length c9) gs)) (fun ii _ => 32 - (intOf ii).toNat)
        case atStart => exact ⟨0, _, 0, [], rfl, by omega, by simp, ⟨by simp, fun A hA => absurd hA List.not_mem_nil⟩, A6⟩
        case round =>
          clear A6
          obtain ⟨j, a, c9, gs, rfl, hj, hgl, HBg, HA⟩ := hrel
          go_wp2_with fail
          refine (below_any w0 _ g ao len cap _ hlen (by omega) HC.out HA.out.1).mono ?_
          rintro e w7 ⟨x9, rfl, hx9, _, hc7, g7⟩
          have hx2 := hx9 (by omega)
          have A7 := hide (ds_grown HA.out hg hpw hc7 g7)
          clear hc7 g7 HA hx9
          by_cases hlt9 : j < 30 + x9
          · have hlt9' : decide ((j : Int) < 30 + (x9 : Int)) = true := by simp; omega
            have KS : Hid (∀ (W : World), DS w0 w W g p ao len cap (.slice a gs.length c9) gs → W.cell? ⟨p, 0, none⟩ = some (.slice a gs.length c9)) := fun W hW => (ds_cells hW).1.1
            have hv7 := KS.out _ A7.out
            have hwr : IntKind.i64.wrap (100 + (j : Int)) = 100 + (j : Int) := by rw [IntKind.wrap_i64]; omega
            obtain ⟨D, HD⟩ : ∃ D : ByteArray, Hid (D = (⟨(Wd.decS (100 + (j : Int))).toArray⟩ : ByteArray)) := ⟨_, hide rfl⟩
            have hDz : D.size ≤ 20 := by rw [HD.out]; exact decF_small _ (by omega) (by omega)
            have CD : Hid (∀ W, Calls Try.prog 44 #[.int .i64 (100 + (j : Int))] W fun e w' => e = .returned (.string D) ∧ Below W.heap.size W w') := fun W => by rw [HD.out]; exact decimal_any _ W (by omega) (by omega)
            have hk1 : ¬ (9223372036854775807 < (⟨#[102]⟩ : ByteArray).size + D.size) := by have e : (⟨#[102]⟩ : ByteArray).size = 1 := rfl; omega
            have hk2 : ¬ (9223372036854775807 < 1 + D.size) := by omega
            have hKz : (⟨#[102]⟩ ++ D : ByteArray).size ≤ 100 := by rw [ByteArray.size_append]; have e : (⟨#[102]⟩ : ByteArray).size = 1 := rfl; omega
            have HKz := hide hKz
            clear hKz
            go_upto_region 22 with fail
            go_region_law ((first | (refine step_app_file_g _ (w.heap.size + 1) (by rfl) _ _ (by rfl) _ gs ⟨⟨#[102]⟩ ++ D, ⟨#[]⟩, 0⟩ (by rfl) (A10.out.2.2.2.2.1.alloc _) w10.heap.size (by simp [Act.eval]) (heap_alloc_new w10 _) (by omega) (by simp; omega) ?_; intro g11 cap11 w11 ho11 hg11 hor11; have HO11 := hide ho11; have G11 : Hid (w10.grownBy w11 (Value.slice a gs.length c9).ownBlock) := grownBy_trans (grownBy_below _ ((Below.refl _ w10).alloc (Nat.le_refl _) (.cells #[.string (⟨#[102]⟩ ++ D), .string ⟨#[]⟩, .int .i64 0] 36))) hg11; have hn4 := (G11.out.block p hw10 (fun e => A10.out.2.2.2.2.2 e.symm)).trans A10.out.2.2.2.1; have hn1 : w11.cell? ⟨p, 0, none⟩ = some (.slice a gs.length c9) := (cell_of_row w11 p 0 _ _ (0, 0) hn4).trans rfl; have hn2 : w11.frozen? ⟨p, 0, none⟩ = false := frozen_of_row w11 p 0 _ _ hn4; clear hn4 ho11 hg11) | (go_simp; go_at_call 44; refine (CD.out _).mono ?_; rintro e w10 ⟨rfl, b10⟩; have A10 := hide (ds_below A7.out ((Below.refl _ w7).drew.trans b10)); have hv10 := KS.out _ A10.out; have hw10 := blkD_lt A10.out.2.2.2.1; have hv10a : (w10.alloc (.cells #[.string (⟨#[102]⟩ ++ D), .string ⟨#[]⟩, .int .i64 0] 36)).cell? ⟨p, 0, none⟩ = some (.slice a gs.length c9) := KS.out _ (ds_below A10.out ((Below.refl _ w10).alloc (Nat.le_refl _) _)); clear b10) | fail))
            all_goals
              have A12 : Hid (DS w0 w (w11.setCell ⟨p, 0, none⟩ (.slice (some ⟨g11, 0, none⟩) (gs.length + 1) cap11)) g p ao len cap (.slice (some ⟨g11, 0, none⟩) (gs.length + 1) cap11) (gs ++ [⟨⟨#[102]⟩ ++ D, ⟨#[]⟩, 0⟩])) := ds_row A10.out hg hpw G11.out HO11.out (fun e => by
                have e' : g11 = p := by simpa [Value.ownBlock] using e
                rcases hor11 with h | h
                · exact A10.out.2.2.2.2.2 (by rw [h, e'])
                · have hs9 : (w10.alloc (.cells #[.string (⟨#[102]⟩ ++ D), .string ⟨#[]⟩, .int .i64 0] 36)).heap.size = w10.heap.size + 1 := by simp
                  omega)
              have HB12 : Hid (BF (gs ++ [⟨⟨#[102]⟩ ++ D, ⟨#[]⟩, 0⟩])) := bf_snoc HBg.out hgl (by omega) HKz.out (by show ByteArray.size ⟨#[]⟩ ≤ 30000; decide)
              go_wp2_with fail
              go_roundw
              case rel =>
                have hl12 : (gs ++ [(⟨⟨#[102]⟩ ++ D, ⟨#[]⟩, 0⟩ : FileD)]).length = gs.length + 1 := by simp
                refine ⟨j + 1, some ⟨g11, 0, none⟩, cap11, gs ++ [⟨⟨#[102]⟩ ++ D, ⟨#[]⟩, 0⟩], by go_num, by omega, by rw [hl12]; omega, HB12, ?_⟩
                rw [hl12]
                exact A12
              case measure => simp [intOf]; omega
          · have hlt9' : decide ((j : Int) < 30 + (x9 : Int)) = false := by simp; omega
            obtain ⟨⟨hp0, hpf0⟩, hr0, hrf0⟩ := ds_cells A7.out
            go_wp2_with fail
            have hE := ds_end A7.out hg (.slice a gs.length c9)
            exact bodyPost_ret (v := .agg #[(.slice a gs.length c9)]) (by simp [results, Try.results29, go_sem, hr0]) rfl ⟨_, _, gs, rfl, hE.1, HBg.out.1, HBg.out.2, hE.2.1, hE.2.2⟩
      by_cases h4 : s = 4
      · have hn0 : ((s : Int) == 0) = false := by rw [beq_eq_false_iff_ne]; omega
        have hn1 : ((s : Int) == 1) = false := by rw [beq_eq_false_iff_ne]; omega
        have hn2 : ((s : Int) == 2) = false := by rw [beq_eq_false_iff_ne]; omega
        have hn3 : ((s : Int) == 3) = false := by rw [beq_eq_false_iff_ne]; omega
        have hy4 : ((s : Int) == 4) = true := by rw [beq_iff_eq]; omega
        clear h4 h0 h1 h2 h3
        have A5d : Hid (DS w0 w w5.drew g p ao len cap (.slice (some ⟨gb, 0, none⟩) fs.length c) fs) := ds_below A5.out (Below.refl _ _).drew
        obtain ⟨⟨hp0, hpf0⟩, hr0, hrf0⟩ := ds_cells A5.out
        go_upto_region 24 with fail
        go_region_held3 (fun w' => w'.cell? ⟨p, 0, none⟩ = some (.slice (some ⟨gb, 0, none⟩) fs.length c)) (first | (exact KS.out _ _ A5d.out) | (exact KS.out _ _ A6.out) | (exact KS.out _ _ A8.out) | (exact KS.out _ _ A9.out) | fail) ((first | (go_at_call 22; refine (below_any w0 _ g ao len cap _ hlen (by omega) HC.out A5d.out.1).mono ?_; rintro e w6 ⟨x9, rfl, hx9, _, hc6, g6⟩; have hx2 := hx9 (by omega); have A6 := hide (ds_grown A5d.out hg hpw hc6 g6); have hwr : IntKind.i64.wrap (19999 + (x9 : Int)) = 19999 + (x9 : Int) := (by rw [IntKind.wrap_i64]; omega); clear hx9 hc6 g6) | (go_at_call 45; refine (long_int _ _ _ (by omega) (by omega) (by omega) (by omega)).mono ?_; rintro e w8 ⟨Z, rfl, hZ, b8⟩; have A8 := hide (ds_below A6.out b8); have hZ' : Z.size ≤ 30000 := (by omega); obtain ⟨⟨_, he0, _⟩, hef⟩ := ds_elems A8.out hkl; have hef0 := hef (k * 3 + 1); have A9 : Hid (DS w0 w (w8.setCell ⟨gb, k * 3 + 1, none⟩ (.string Z)) g p ao len cap (.slice (some ⟨gb, 0, none⟩) fs.length c) (fs.set k ⟨fs[k].name, Z, fs[k].kept⟩)) := ds_elem A8.out rfl hg (cellsF_set1 fs k hkl Z) (List.length_set ..); clear hZ b8 hef) | fail))
        have HB9 : BF (fs.set k ⟨fs[k].name, Z, fs[k].kept⟩) := bf_set HB.out (by show fs[k].name.size ≤ 100; rw [HFk.out]; exact hFb.1) hZ'
        have hl9 : (fs.set k ⟨fs[k].name, Z, fs[k].kept⟩).length = fs.length := List.length_set ..
        go_upto_region 25 with fail
        generalize w8.setCell ⟨gb, k * 3 + 1, none⟩ (.string Z) = w9 at A9
        clear hp0 hpf0 hr0 hrf0 he0 hef0
        obtain ⟨⟨hp0, hpf0⟩, hr0, hrf0⟩ := ds_cells A9.out
        go_wp2_with fail
        have hE := ds_end A9.out hg (.slice (some ⟨gb, 0, none⟩) fs.length c)
        exact bodyPost_ret (v := .agg #[(.slice (some ⟨gb, 0, none⟩) fs.length c)]) (by simp [results, Try.results29, go_sem, hr0]) rfl ⟨_, _, (fs.set k ⟨fs[k].name, Z, fs[k].kept⟩), by rw [hl9], by rw [hl9]; exact hE.1, HB9.1, HB9.2, hE.2.1, hE.2.2⟩
      · have hn0 : ((s : Int) == 0) = false := by rw [beq_eq_false_iff_ne]; omega
        have hn1 : ((s : Int) == 1) = false := by rw [beq_eq_false_iff_ne]; omega
        have hn2 : ((s : Int) == 2) = false := by rw [beq_eq_false_iff_ne]; omega
        have hn3 : ((s : Int) == 3) = false := by rw [beq_eq_false_iff_ne]; omega
        have hn4 : ((s : Int) == 4) = false := by rw [beq_eq_false_iff_ne]; omega
        clear h4 h0 h1 h2 h3
        obtain ⟨⟨hp0, hpf0⟩, hr0, hrf0⟩ := ds_cells A5.out
        go_wp2_with fail
        have hE := ds_end A5.out hg (.slice (some ⟨gb, 0, none⟩) fs.length c)
        exact bodyPost_ret (v := .agg #[(.slice (some ⟨gb, 0, none⟩) fs.length c)]) (by simp [results, Try.results29, go_sem, hr0]) rfl ⟨_, _, fs, rfl, hE.1, HB.out.1, HB.out.2, hE.2.1, hE.2.2⟩
end Go.Proofs.Ytcpbkllonamleaa
