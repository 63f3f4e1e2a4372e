/- Rows of segments that a call makes, each with a row of batches and a row of places of its own. -/
import Derived.Test.YtmmchemgegmhhaaGreatDoorSegQ
import Derived.Test.YtmmchemgegmhhaaGreatDoorBatchApp
import Derived.Test.YtmmchemgegmhhaaGreatDoorAppInt
namespace Go.Proofs.YtmmchemgegmhhaaGreatDoor
open Go.RowKit

theorem Tryz.infoSeg : (Tryz.prog.info? 161).map (fun i => (i.zero, i.size, i.bytes)) = some (some (.agg #[.int .i64 0, .int .i64 0, .slice none 0 0, .slice none 0 0, .int .i64 0, .bool false, .bool false]), 7, 80) := by kernel_rfl

/-- The row of batches is in no block of that type. -/
theorem rowBatch_far {w w' : World} {B : Nat} {v : Value} {bs : List BatchD} {r : Option Nat} (h : RowBatch w B v bs) (hg : w.grownBy w' r) (hr : ∀ g, r = some g → ∃ C t, w.heap[g]? = some (.cells C t (0, 0)) ∧ t ≠ 96 ∧ t ≠ 144) : RowBatch w' B v bs := by
  rcases h with h | ⟨g, cap, C, rfl, hB, hC, hs, hI⟩
  · exact .inl h
  · refine .inr ⟨g, cap, C, rfl, hB, (hg.block g (Array.getElem?_eq_some_iff.1 hC).1 (fun e => ?_)).trans hC, hs, fun j hj => ?_, hI.2⟩
    · obtain ⟨C', t, h1, h2, h3⟩ := hr g e.symm
      rw [hC] at h1
      cases h1
      exact h2 rfl
    · obtain ⟨k1, x, k2, k3, k4⟩ := hI.1 j hj
      refine ⟨k1, x, k2, rowChange_grown k3 hg (fun k hk e => ?_), k4⟩
      obtain ⟨C1, h0⟩ := change_block k3 hk
      obtain ⟨C', t, h1, h2, h3⟩ := hr k e.symm
      rw [h0] at h1
      cases h1
      exact h3 rfl
/-- A row of numbers that a call has made. -/
def RowNat (w : World) (B : Nat) (v : Value) (l : List Nat) : Prop := w.ownsRow B 3 1 v l.length (l.map iv)
theorem rowNat_below {w w' : World} {B : Nat} {v : Value} {l : List Nat} (h : RowNat w B v l) (hb : Below w.heap.size w w') : RowNat w' B v l := ownsRow_below h hb
theorem rowNat_le {w : World} {B B' : Nat} {v : Value} {l : List Nat} (h : RowNat w B v l) (hB : B' ≤ B) : RowNat w B' v l := ownsRow_mono h hB
theorem rowNat_nil (w : World) (B : Nat) : RowNat w B (.slice none 0 0) [] := World.ownsRow_nil _ _ _ _
theorem rowNat_form {w : World} {B : Nat} {v : Value} {l : List Nat} (h : RowNat w B v l) : ∃ ao cap, v = .slice ao l.length cap := slice_form h
theorem rowNat_far {w w' : World} {B : Nat} {v : Value} {l : List Nat} {r : Option Nat} (h : RowNat w B v l) (hg : w.grownBy w' r) (hr : ∀ g, r = some g → ∃ C t, w.heap[g]? = some (.cells C t (0, 0)) ∧ t ≠ 3) : RowNat w' B v l := by
  refine World.ownsRow.kept h hg ?_
  cases hv : v.ownBlock with
  | none => exact .inl rfl
  | some g =>
    refine .inr (fun e => ?_)
    obtain ⟨C, hC⟩ := owns_block h hv
    obtain ⟨C', t, h1, h2⟩ := hr g e.symm
    rw [hC] at h1
    cases h1
    exact h2 rfl
/-- What stands at a place of it. -/
theorem rowNat_at {w : World} {B n cap : Nat} {ao : Option Addr} {l : List Nat} (h : RowNat w B (.slice ao n cap) l) (j : Nat) (hj : j < l.length) : ∃ g, ao = some ⟨g, 0, none⟩ ∧ g < w.heap.size ∧ w.cell? ⟨g, j, none⟩ = some (.int .i64 (l[j] : Int)) := by
  rcases h.2 with ⟨_, hn⟩ | ⟨g, cap', cur, hv, hB, hC, hle, _, hs, ht⟩
  · omega
  · cases hv
    refine ⟨g, rfl, (Array.getElem?_eq_some_iff.1 hC).1, ?_⟩
    exact (cell_of_row w g j _ _ (0, 0) hC).trans (take_getChange ht (by omega) (by simp [iv, hj]))

/-- The cells of a row. -/
def cellsSeg : List SegD → List Value → List Value → List Value
  | s :: r, x :: y, p :: q => .int .i64 (s.num : Int) :: .int .i64 (s.frm : Int) :: x :: p :: .int .i64 (s.fin : Int) :: .bool s.right :: .bool s.torn :: cellsSeg r y q
  | _, _, _ => []
theorem cellsSeg_append : ∀ (a : List SegD) (y q : List Value) (s : SegD) (x p : Value), y.length = a.length → q.length = a.length → cellsSeg (a ++ [s]) (y ++ [x]) (q ++ [p]) = cellsSeg a y q ++ [.int .i64 (s.num : Int), .int .i64 (s.frm : Int), x, p, .int .i64 (s.fin : Int), .bool s.right, .bool s.torn]
  | [], [], [], _, _, _, _, _ => rfl
  | [], _ :: _, _, _, _, _, h, _ => absurd h (by simp)
  | [], [], _ :: _, _, _, _, _, h => absurd h (by simp)
  | _ :: _, [], _, _, _, _, h, _ => absurd h (by simp)
  | _ :: _, _ :: _, [], _, _, _, _, h => absurd h (by simp)
  | A :: r, z :: y, u :: q, s, x, p, h, h' => by simp only [List.cons_append, cellsSeg]; rw [cellsSeg_append r y q s x p (by simpa using h) (by simpa using h')]
theorem cellsSeg_get : ∀ (a : List SegD) (y q : List Value) (j : Nat) (s : SegD) (x p : Value), a[j]? = some s → y[j]? = some x → q[j]? = some p → (cellsSeg a y q)[j * 7]? = some (.int .i64 (s.num : Int)) ∧ (cellsSeg a y q)[j * 7 + 1]? = some (.int .i64 (s.frm : Int)) ∧ (cellsSeg a y q)[j * 7 + 2]? = some x ∧
    (cellsSeg a y q)[j * 7 + 3]? = some p ∧ (cellsSeg a y q)[j * 7 + 4]? = some (.int .i64 (s.fin : Int)) ∧ (cellsSeg a y q)[j * 7 + 5]? = some (.bool s.right) ∧ (cellsSeg a y q)[j * 7 + 6]? = some (.bool s.torn)
  | [], _, _, _, _, _, _, h, _, _ => absurd h (by simp)
  | _ :: _, [], _, _, _, _, _, _, h, _ => absurd h (by simp)
  | _ :: _, _ :: _, [], _, _, _, _, _, _, h => absurd h (by simp)
  | A :: r, z :: y, u :: q, 0, s, x, p, h, h', h2 => by simp at h h' h2; subst h h' h2; simp [cellsSeg]
  | A :: r, z :: y, u :: q, j + 1, s, x, p, h, h', h2 => by
    have := cellsSeg_get r y q j s x p (by simpa using h) (by simpa using h') (by simpa using h2)
    have e : (j + 1) * 7 = j * 7 + 7 := by omega
    simp only [cellsSeg, e]
    simpa using this

/-- A row of segments that a call makes, from block B on; their rows of batches and places lie from block K on. -/
def BuildG (w : World) (B K : Nat) (v : Value) (l : List SegD) : Prop :=
  ∃ vs ps : List Value, vs.length = l.length ∧ ps.length = l.length ∧ w.ownsRow B 161 7 v l.length (cellsSeg l vs ps) ∧ (∀ (j : Nat) (x : Value) (s : SegD), vs[j]? = some x → l[j]? = some s → RowBatch w K x s.bs) ∧
    (∀ (j : Nat) (x : Value) (s : SegD), ps[j]? = some x → l[j]? = some s → RowNat w K x s.pls)
theorem buildG_nil (w : World) (B K : Nat) : BuildG w B K (.slice none 0 0) [] := ⟨[], [], rfl, rfl, World.ownsRow_nil _ _ _ _, fun j x b h => by simp at h, fun j x b h => by simp at h⟩
theorem buildG_below {w w' : World} {B K : Nat} {v : Value} {l : List SegD} (h : BuildG w B K v l) (hb : Below w.heap.size w w') : BuildG w' B K v l := by
  obtain ⟨vs, ps, h0, h1, h2, h3, h4⟩ := h
  exact ⟨vs, ps, h0, h1, ownsRow_below h2 hb, fun j x b hx hj => rowBatch_below (h3 j x b hx hj) hb, fun j x b hx hj => rowNat_below (h4 j x b hx hj) hb⟩
theorem buildG_mono {w : World} {B B' K K' : Nat} {v : Value} {l : List SegD} (h : BuildG w B K v l) (hB : B' ≤ B) (hK : K' ≤ K) : BuildG w B' K' v l := by
  obtain ⟨vs, ps, h0, h1, h2, h3, h4⟩ := h
  exact ⟨vs, ps, h0, h1, ownsRow_mono h2 hB, fun j x b hx hj => rowBatch_le (h3 j x b hx hj) hK, fun j x b hx hj => rowNat_le (h4 j x b hx hj) hK⟩
theorem buildG_form {w : World} {B K : Nat} {v : Value} {l : List SegD} (h : BuildG w B K v l) : ∃ ao cap, v = .slice ao l.length cap := by
  obtain ⟨vs, ps, -, -, h2, -⟩ := h
  exact slice_form h2
/-- What stands at a place of it. -/
theorem buildG_at {w : World} {B K cap n : Nat} {ao : Option Addr} {l : List SegD} (h : BuildG w B K (.slice ao n cap) l) (j : Nat) (hj : j < l.length) : ∃ g, ao = some ⟨g, 0, none⟩ ∧ g < w.heap.size ∧
    w.cell? ⟨g, j * 7, none⟩ = some (.int .i64 (l[j].num : Int)) ∧ w.cell? ⟨g, j * 7 + 1, none⟩ = some (.int .i64 (l[j].frm : Int)) ∧ (∃ a c, w.cell? ⟨g, j * 7 + 2, none⟩ = some (.slice a l[j].bs.length c) ∧ RowBatch w K (.slice a l[j].bs.length c) l[j].bs) ∧
    (∃ a c, w.cell? ⟨g, j * 7 + 3, none⟩ = some (.slice a l[j].pls.length c) ∧ RowNat w K (.slice a l[j].pls.length c) l[j].pls) ∧ w.cell? ⟨g, j * 7 + 4, none⟩ = some (.int .i64 (l[j].fin : Int)) ∧ w.cell? ⟨g, j * 7 + 5, none⟩ = some (.bool l[j].right) ∧ w.cell? ⟨g, j * 7 + 6, none⟩ = some (.bool l[j].torn) := by
  obtain ⟨vs, ps, h0, h1, h2, h3, h4⟩ := h
  rcases h2.2 with ⟨_, hn⟩ | ⟨g, cap', cur, hv, hB, hC, hle, _, hs, ht⟩
  · omega
  · cases hv
    obtain ⟨x, hx⟩ : ∃ x, vs[j]? = some x := ⟨vs[j]'(by omega), List.getElem?_eq_getElem (by omega)⟩
    obtain ⟨p, hp⟩ : ∃ x, ps[j]? = some x := ⟨ps[j]'(by omega), List.getElem?_eq_getElem (by omega)⟩
    obtain ⟨k1, k2, k3, k4, k5, k6, k7⟩ := cellsSeg_get l vs ps j l[j] x p (List.getElem?_eq_getElem hj) hx hp
    have hr := h3 j x l[j] hx (List.getElem?_eq_getElem hj)
    have hq := h4 j p l[j] hp (List.getElem?_eq_getElem hj)
    obtain ⟨a, c, rfl, -⟩ := rowBatch_at hr
    obtain ⟨a', c', rfl⟩ := rowNat_form hq
    refine ⟨g, rfl, (Array.getElem?_eq_some_iff.1 hC).1, ?_, ?_, ⟨a, c, ?_, hr⟩, ⟨a', c', ?_, hq⟩, ?_, ?_, ?_⟩
    · exact (cell_of_row w g (j * 7) _ _ (0, 0) hC).trans (take_getChange ht (by omega) k1)
    · exact (cell_of_row w g (j * 7 + 1) _ _ (0, 0) hC).trans (take_getChange ht (by omega) k2)
    · exact (cell_of_row w g (j * 7 + 2) _ _ (0, 0) hC).trans (take_getChange ht (by omega) k3)
    · exact (cell_of_row w g (j * 7 + 3) _ _ (0, 0) hC).trans (take_getChange ht (by omega) k4)
    · exact (cell_of_row w g (j * 7 + 4) _ _ (0, 0) hC).trans (take_getChange ht (by omega) k5)
    · exact (cell_of_row w g (j * 7 + 5) _ _ (0, 0) hC).trans (take_getChange ht (by omega) k6)
    · exact (cell_of_row w g (j * 7 + 6) _ _ (0, 0) hC).trans (take_getChange ht (by omega) k7)
theorem seg_one {w : World} {B : Nat} {x y : Value} {bs : List BatchD} {ps : List Nat} (h : RowBatch w B x bs) (h2 : RowNat w B y ps) (p q r : Int) (b b' : Bool) : ∀ u ∈ [.int .i64 p, .int .i64 q, x, y, .int .i64 r, .bool b, .bool b'], Value.oneCell' u = true := by
  obtain ⟨a, c, rfl, -⟩ := rowBatch_at h
  obtain ⟨a, c, rfl⟩ := rowNat_form h2
  intro u hu
  simp only [List.mem_cons, List.not_mem_nil, or_false] at hu
  rcases hu with rfl | rfl | rfl | rfl | rfl | rfl | rfl <;> rfl

/-- One is put behind, in a plain region. -/
theorem app_seg {ops : Array Oper} {rest : List Oper} {o : Oper} {a : Act} {Q : Exit → Act → World → Prop} (W : World) (B K : Nat) (hgd : o.guard = none) (s y : Operand)
    (ho : o.op = .call { callee := .builtin .append, args := #[s, y], argTypes := #[138, 138] }) (v x p : Value) (l : List SegD) (b : SegD) (hs : a.eval s = v)
    (hbuild : BuildG W B K v l) (hB : B ≤ W.heap.size) (hx : RowBatch W K x b.bs) (hp : RowNat W K p b.pls) (k : Nat) (hy : a.eval y = .slice (some ⟨k, 0, none⟩) 1 1) (hblk : W.heap[k]? = some (.cells #[.int .i64 (b.num : Int), .int .i64 (b.frm : Int), x, p, .int .i64 (b.fin : Int), .bool b.right, .bool b.torn] 161 (0, 0)))
    (hlen : l.length ≤ 1048576)
    (h : ∀ g cap w', BuildG w' B K (.slice (some ⟨g, 0, none⟩) (l.length + 1) cap) (l ++ [b]) → Below B W w' → W.grownBy w' v.ownBlock → wpList Tryz.prog ops Q rest (a.put o.dst (.slice (some ⟨g, 0, none⟩) (l.length + 1) cap)) w') :
    wpList Tryz.prog ops Q (o :: rest) a W := by
  obtain ⟨i0, hi, hz0, hz1, hz2⟩ := info_parts Tryz.infoSeg
  obtain ⟨vs, ps, h0, h1, h2, h3, h4⟩ := hbuild
  refine wpList_append_lies W hgd s y 138 ho B 161 i0 (.agg #[.int .i64 0, .int .i64 0, .slice none 0 0, .slice none 0 0, .int .i64 0, .bool false, .bool false]) 7 80 Tryz.underlying138 hi hz0 hz1 hz2 rfl (by decide) v l.length (cellsSeg l vs ps) hs h2 ⟨k, 0, none⟩ 1 1 [.int .i64 (b.num : Int), .int .i64 (b.frm : Int), x, p, .int .i64 (b.fin : Int), .bool b.right, .bool b.torn] hy rfl
    (fun j u hj => World.news_of_block hblk j u hj) (seg_one hx hp _ _ _ _ _) (by omega) (by unfold maxLen; omega) (by omega) hB W.heap.size rfl ?_
  intro g cap w' hown' hgrow hg hgl
  have far : ∀ g, v.ownBlock = some g → ∃ C t, W.heap[g]? = some (.cells C t (0, 0)) ∧ t ≠ 96 ∧ t ≠ 144 := fun g hg => by
    obtain ⟨C, hC⟩ := owns_block h2 hg
    exact ⟨C, _, hC, by decide, by decide⟩
  have farN : ∀ g, v.ownBlock = some g → ∃ C t, W.heap[g]? = some (.cells C t (0, 0)) ∧ t ≠ 3 := fun g hg => by
    obtain ⟨C, hC⟩ := owns_block h2 hg
    exact ⟨C, _, hC, by decide⟩
  refine h g cap w' ⟨vs ++ [x], ps ++ [p], by simp [h0], by simp [h1], ?_, ?_, ?_⟩ ((Below.refl B W).grown hgrow hB (fun k hk => (h2.lt k hk).1)) hgrow
  · rw [cellsSeg_append l vs ps b x p h0 h1, List.length_append]
    exact hown'
  · intro j z c hz hc
    by_cases hj : j < l.length
    · rw [List.getElem?_append_left (by omega)] at hz
      rw [List.getElem?_append_left hj] at hc
      exact rowBatch_far (h3 j z c hz hc) hgrow far
    · have hlt : j < (l ++ [b]).length := (List.getElem?_eq_some_iff.1 hc).1
      have hje : j = l.length := by simp at hlt; omega
      subst hje
      rw [List.getElem?_append_right (by omega)] at hz
      rw [List.getElem?_append_right (Nat.le_refl _)] at hc
      simp [h0] at hz hc
      subst hz hc
      exact rowBatch_far hx hgrow far
  · intro j z c hz hc
    by_cases hj : j < l.length
    · rw [List.getElem?_append_left (by omega)] at hz
      rw [List.getElem?_append_left hj] at hc
      exact rowNat_far (h4 j z c hz hc) hgrow farN
    · have hlt : j < (l ++ [b]).length := (List.getElem?_eq_some_iff.1 hc).1
      have hje : j = l.length := by simp at hlt; omega
      subst hje
      rw [List.getElem?_append_right (by omega)] at hz
      rw [List.getElem?_append_right (Nat.le_refl _)] at hc
      simp [h1] at hz hc
      subst hz hc
      exact rowNat_far hp hgrow farN
end Go.Proofs.YtmmchemgegmhhaaGreatDoor
