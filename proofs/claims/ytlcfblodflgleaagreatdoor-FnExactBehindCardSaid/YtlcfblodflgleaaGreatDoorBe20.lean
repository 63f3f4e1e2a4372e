import Derived.RangeFuncNested
import Derived.RangeFuncBound
import Derived.RangeFuncCalls
import Derived.RangeFuncLeaves
import Derived.Shelf.Abstract
import Derived.Shelf.RegionOpen
import Derived.WalkKit
import Derived.OwnWalkIn
import Derived.TacticsInMore
import Derived.LoopNIn
import Derived.LoopIn
import Derived.Test.YtlcfblodflgleaaGreatDoorBe14
import Derived.Test.YtlcfblodflgleaaGreatDoorBe16
import Derived.Test.YtlcfblodflgleaaGreatDoorBe18
import Derived.Test.YtlcfblodflgleaaGreatDoorBe15
set_option maxRecDepth 100000
set_option maxHeartbeats 1000000
namespace Go.Proofs.YtlcfblodflgleaaGreatDoor
open Go.RowKit
theorem Tryz.infoSeg : (Tryz.prog.info? 173).map (fun i => (i.zero, i.size, i.bytes)) = some (some (.agg #[.int .i64 0, .int .i64 0, .slice none 0 0, .slice none 0 0, .int .i64 0, .bool false, .bool false]), 7, 80) := by kernel_rfl
theorem rowBatch_far {w w' : World} {B : Nat} {v : Value} {bs : List BatchD} {r : Option Nat} (h : RowBatch w B v bs) (hg : w.grownBy w' r) (hr : ∀ g, r = some g → ∃ C t, w.heap[g]? = some (.cells C t (0, 0)) ∧ t ≠ 101 ∧ t ≠ 160) : RowBatch w' B v bs := by
  rcases h with h | ⟨g, cap, C, rfl, hB, hC, hs, hI⟩
  · exact .inl h
  · refine .inr ⟨g, cap, C, rfl, hB, (hg.block g (Array.getElem?_eq_some_iff.1 hC).1 (fun e => ?_)).trans hC, hs, fun j hj => ?_, hI.2⟩
    · obtain ⟨C', t, h1, h2, h3⟩ := hr g e.symm
      rw [hC] at h1
      cases h1
      exact h2 rfl
    · obtain ⟨k1, x, k2, k3, k4⟩ := hI.1 j hj
      refine ⟨k1, x, k2, rowChange_grown k3 hg (fun k hk e => ?_), k4⟩
      obtain ⟨C1, h0⟩ := change_block k3 hk
      obtain ⟨C', t, h1, h2, h3⟩ := hr k e.symm
      rw [h0] at h1
      cases h1
      exact h3 rfl
def RowNat (w : World) (B : Nat) (v : Value) (l : List Nat) : Prop := w.ownsRow B 3 1 v l.length (l.map iv)
theorem rowNat_below {w w' : World} {B : Nat} {v : Value} {l : List Nat} (h : RowNat w B v l) (hb : Below w.heap.size w w') : RowNat w' B v l := ownsRow_below h hb
theorem rowNat_le {w : World} {B B' : Nat} {v : Value} {l : List Nat} (h : RowNat w B v l) (hB : B' ≤ B) : RowNat w B' v l := ownsRow_mono h hB
theorem rowNat_nil (w : World) (B : Nat) : RowNat w B (.slice none 0 0) [] := World.ownsRow_nil _ _ _ _
theorem rowNat_form {w : World} {B : Nat} {v : Value} {l : List Nat} (h : RowNat w B v l) : ∃ ao cap, v = .slice ao l.length cap := slice_form h
theorem rowNat_far {w w' : World} {B : Nat} {v : Value} {l : List Nat} {r : Option Nat} (h : RowNat w B v l) (hg : w.grownBy w' r) (hr : ∀ g, r = some g → ∃ C t, w.heap[g]? = some (.cells C t (0, 0)) ∧ t ≠ 3) : RowNat w' B v l := by
  refine World.ownsRow.kept h hg ?_
  cases hv : v.ownBlock with
  | none => exact .inl rfl
  | some g =>
    refine .inr (fun e => ?_)
    obtain ⟨C, hC⟩ := owns_block h hv
    obtain ⟨C', t, h1, h2⟩ := hr g e.symm
    rw [hC] at h1
    cases h1
    exact h2 rfl
theorem rowNat_at {w : World} {B n cap : Nat} {ao : Option Addr} {l : List Nat} (h : RowNat w B (.slice ao n cap) l) (j : Nat) (hj : j < l.length) : ∃ g, ao = some ⟨g, 0, none⟩ ∧ g < w.heap.size ∧ w.cell? ⟨g, j, none⟩ = some (.int .i64 (l[j] : Int)) := by
  rcases h.2 with ⟨_, hn⟩ | ⟨g, cap', cur, hv, hB, hC, hle, _, hs, ht⟩
  · omega
  · cases hv
    refine ⟨g, rfl, (Array.getElem?_eq_some_iff.1 hC).1, ?_⟩
    exact (cell_of_row w g j _ _ (0, 0) hC).trans (take_getChange ht (by omega) (by simp [iv, hj]))
def cellsSeg : List SegD → List Value → List Value → List Value
  | s :: r, x :: y, p :: q => .int .i64 (s.num : Int) :: .int .i64 (s.frm : Int) :: x :: p :: .int .i64 (s.fin : Int) :: .bool s.right :: .bool s.torn :: cellsSeg r y q
  | _, _, _ => []
theorem cellsSeg_append : ∀ (a : List SegD) (y q : List Value) (s : SegD) (x p : Value), y.length = a.length → q.length = a.length → cellsSeg (a ++ [s]) (y ++ [x]) (q ++ [p]) = cellsSeg a y q ++ [.int .i64 (s.num : Int), .int .i64 (s.frm : Int), x, p, .int .i64 (s.fin : Int), .bool s.right, .bool s.torn]
  | [], [], [], _, _, _, _, _ => rfl
  | [], _ :: _, _, _, _, _, h, _ => absurd h (by simp)
  | [], [], _ :: _, _, _, _, _, h => absurd h (by simp)
  | _ :: _, [], _, _, _, _, h, _ => absurd h (by simp)
  | _ :: _, _ :: _, [], _, _, _, _, h => absurd h (by simp)
  | A :: r, z :: y, u :: q, s, x, p, h, h' => by simp only [List.cons_append, cellsSeg]; rw [cellsSeg_append r y q s x p (by simpa using h) (by simpa using h')]
theorem cellsSeg_get : ∀ (a : List SegD) (y q : List Value) (j : Nat) (s : SegD) (x p : Value), a[j]? = some s → y[j]? = some x → q[j]? = some p → (cellsSeg a y q)[j * 7]? = some (.int .i64 (s.num : Int)) ∧ (cellsSeg a y q)[j * 7 + 1]? = some (.int .i64 (s.frm : Int)) ∧ (cellsSeg a y q)[j * 7 + 2]? = some x ∧
    (cellsSeg a y q)[j * 7 + 3]? = some p ∧ (cellsSeg a y q)[j * 7 + 4]? = some (.int .i64 (s.fin : Int)) ∧ (cellsSeg a y q)[j * 7 + 5]? = some (.bool s.right) ∧ (cellsSeg a y q)[j * 7 + 6]? = some (.bool s.torn)
  | [], _, _, _, _, _, _, h, _, _ => absurd h (by simp)
  | _ :: _, [], _, _, _, _, _, _, h, _ => absurd h (by simp)
  | _ :: _, _ :: _, [], _, _, _, _, _, _, h => absurd h (by simp)
  | A :: r, z :: y, u :: q, 0, s, x, p, h, h', h2 => by simp at h h' h2; subst h h' h2; simp [cellsSeg]
  | A :: r, z :: y, u :: q, j + 1, s, x, p, h, h', h2 => by
    have := cellsSeg_get r y q j s x p (by simpa using h) (by simpa using h') (by simpa using h2)
    have e : (j + 1) * 7 = j * 7 + 7 := by omega
    simp only [cellsSeg, e]
    simpa using this
def BuildG (w : World) (B K : Nat) (v : Value) (l : List SegD) : Prop :=
  ∃ vs ps : List Value, vs.length = l.length ∧ ps.length = l.length ∧ w.ownsRow B 173 7 v l.length (cellsSeg l vs ps) ∧ (∀ (j : Nat) (x : Value) (s : SegD), vs[j]? = some x → l[j]? = some s → RowBatch w K x s.bs) ∧
    (∀ (j : Nat) (x : Value) (s : SegD), ps[j]? = some x → l[j]? = some s → RowNat w K x s.pls)
theorem buildG_nil (w : World) (B K : Nat) : BuildG w B K (.slice none 0 0) [] := ⟨[], [], rfl, rfl, World.ownsRow_nil _ _ _ _, fun j x b h => by simp at h, fun j x b h => by simp at h⟩
theorem buildG_below {w w' : World} {B K : Nat} {v : Value} {l : List SegD} (h : BuildG w B K v l) (hb : Below w.heap.size w w') : BuildG w' B K v l := by
  obtain ⟨vs, ps, h0, h1, h2, h3, h4⟩ := h
  exact ⟨vs, ps, h0, h1, ownsRow_below h2 hb, fun j x b hx hj => rowBatch_below (h3 j x b hx hj) hb, fun j x b hx hj => rowNat_below (h4 j x b hx hj) hb⟩
theorem buildG_mono {w : World} {B B' K K' : Nat} {v : Value} {l : List SegD} (h : BuildG w B K v l) (hB : B' ≤ B) (hK : K' ≤ K) : BuildG w B' K' v l := by
  obtain ⟨vs, ps, h0, h1, h2, h3, h4⟩ := h
  exact ⟨vs, ps, h0, h1, ownsRow_mono h2 hB, fun j x b hx hj => rowBatch_le (h3 j x b hx hj) hK, fun j x b hx hj => rowNat_le (h4 j x b hx hj) hK⟩
theorem buildG_form {w : World} {B K : Nat} {v : Value} {l : List SegD} (h : BuildG w B K v l) : ∃ ao cap, v = .slice ao l.length cap := by
  obtain ⟨vs, ps, -, -, h2, -⟩ := h
  exact slice_form h2
theorem buildG_at {w : World} {B K cap n : Nat} {ao : Option Addr} {l : List SegD} (h : BuildG w B K (.slice ao n cap) l) (j : Nat) (hj : j < l.length) : ∃ g, ao = some ⟨g, 0, none⟩ ∧ g < w.heap.size ∧
    w.cell? ⟨g, j * 7, none⟩ = some (.int .i64 (l[j].num : Int)) ∧ w.cell? ⟨g, j * 7 + 1, none⟩ = some (.int .i64 (l[j].frm : Int)) ∧ (∃ a c, w.cell? ⟨g, j * 7 + 2, none⟩ = some (.slice a l[j].bs.length c) ∧ RowBatch w K (.slice a l[j].bs.length c) l[j].bs) ∧
    (∃ a c, w.cell? ⟨g, j * 7 + 3, none⟩ = some (.slice a l[j].pls.length c) ∧ RowNat w K (.slice a l[j].pls.length c) l[j].pls) ∧ w.cell? ⟨g, j * 7 + 4, none⟩ = some (.int .i64 (l[j].fin : Int)) ∧ w.cell? ⟨g, j * 7 + 5, none⟩ = some (.bool l[j].right) ∧ w.cell? ⟨g, j * 7 + 6, none⟩ = some (.bool l[j].torn) := by
  obtain ⟨vs, ps, h0, h1, h2, h3, h4⟩ := h
  rcases h2.2 with ⟨_, hn⟩ | ⟨g, cap', cur, hv, hB, hC, hle, _, hs, ht⟩
  · omega
  · cases hv
    obtain ⟨x, hx⟩ : ∃ x, vs[j]? = some x := ⟨vs[j]'(by omega), List.getElem?_eq_getElem (by omega)⟩
    obtain ⟨p, hp⟩ : ∃ x, ps[j]? = some x := ⟨ps[j]'(by omega), List.getElem?_eq_getElem (by omega)⟩
    obtain ⟨k1, k2, k3, k4, k5, k6, k7⟩ := cellsSeg_get l vs ps j l[j] x p (List.getElem?_eq_getElem hj) hx hp
    have hr := h3 j x l[j] hx (List.getElem?_eq_getElem hj)
    have hq := h4 j p l[j] hp (List.getElem?_eq_getElem hj)
    obtain ⟨a, c, rfl, -⟩ := rowBatch_at hr
    obtain ⟨a', c', rfl⟩ := rowNat_form hq
    refine ⟨g, rfl, (Array.getElem?_eq_some_iff.1 hC).1, ?_, ?_, ⟨a, c, ?_, hr⟩, ⟨a', c', ?_, hq⟩, ?_, ?_, ?_⟩
    · exact (cell_of_row w g (j * 7) _ _ (0, 0) hC).trans (take_getChange ht (by omega) k1)
    · exact (cell_of_row w g (j * 7 + 1) _ _ (0, 0) hC).trans (take_getChange ht (by omega) k2)
    · exact (cell_of_row w g (j * 7 + 2) _ _ (0, 0) hC).trans (take_getChange ht (by omega) k3)
    · exact (cell_of_row w g (j * 7 + 3) _ _ (0, 0) hC).trans (take_getChange ht (by omega) k4)
    · exact (cell_of_row w g (j * 7 + 4) _ _ (0, 0) hC).trans (take_getChange ht (by omega) k5)
    · exact (cell_of_row w g (j * 7 + 5) _ _ (0, 0) hC).trans (take_getChange ht (by omega) k6)
    · exact (cell_of_row w g (j * 7 + 6) _ _ (0, 0) hC).trans (take_getChange ht (by omega) k7)
theorem seg_one {w : World} {B : Nat} {x y : Value} {bs : List BatchD} {ps : List Nat} (h : RowBatch w B x bs) (h2 : RowNat w B y ps) (p q r : Int) (b b' : Bool) : ∀ u ∈ [.int .i64 p, .int .i64 q, x, y, .int .i64 r, .bool b, .bool b'], Value.oneCell' u = true := by
  obtain ⟨a, c, rfl, -⟩ := rowBatch_at h
  obtain ⟨a, c, rfl⟩ := rowNat_form h2
  intro u hu
  simp only [List.mem_cons, List.not_mem_nil, or_false] at hu
  rcases hu with rfl | rfl | rfl | rfl | rfl | rfl | rfl <;> rfl
theorem app_seg {ops : Array Oper} {rest : List Oper} {o : Oper} {a : Act} {Q : Exit → Act → World → Prop} (W : World) (B K : Nat) (hgd : o.guard = none) (s y : Operand)
    (ho : o.op = .call { callee := .builtin .append, args := #[s, y], argTypes := #[131, 131] }) (v x p : Value) (l : List SegD) (b : SegD) (hs : a.eval s = v)
    (hbuild : BuildG W B K v l) (hB : B ≤ W.heap.size) (hx : RowBatch W K x b.bs) (hp : RowNat W K p b.pls) (k : Nat) (hy : a.eval y = .slice (some ⟨k, 0, none⟩) 1 1) (hblk : W.heap[k]? = some (.cells #[.int .i64 (b.num : Int), .int .i64 (b.frm : Int), x, p, .int .i64 (b.fin : Int), .bool b.right, .bool b.torn] 173 (0, 0)))
    (hlen : l.length ≤ 1048576)
    (h : ∀ g cap w', BuildG w' B K (.slice (some ⟨g, 0, none⟩) (l.length + 1) cap) (l ++ [b]) → Below B W w' → W.grownBy w' v.ownBlock → wpList Tryz.prog ops Q rest (a.put o.dst (.slice (some ⟨g, 0, none⟩) (l.length + 1) cap)) w') :
    wpList Tryz.prog ops Q (o :: rest) a W := by
  obtain ⟨i0, hi, hz0, hz1, hz2⟩ := info_parts Tryz.infoSeg
  obtain ⟨vs, ps, h0, h1, h2, h3, h4⟩ := hbuild
  refine wpList_append_lies W hgd s y 131 ho B 173 i0 (.agg #[.int .i64 0, .int .i64 0, .slice none 0 0, .slice none 0 0, .int .i64 0, .bool false, .bool false]) 7 80 Tryz.underlying131 hi hz0 hz1 hz2 rfl (by decide) v l.length (cellsSeg l vs ps) hs h2 ⟨k, 0, none⟩ 1 1 [.int .i64 (b.num : Int), .int .i64 (b.frm : Int), x, p, .int .i64 (b.fin : Int), .bool b.right, .bool b.torn] hy rfl
    (fun j u hj => World.news_of_block hblk j u hj) (seg_one hx hp _ _ _ _ _) (by omega) (by unfold maxLen; omega) (by omega) hB W.heap.size rfl ?_
  intro g cap w' hown' hgrow hg hgl
  have far : ∀ g, v.ownBlock = some g → ∃ C t, W.heap[g]? = some (.cells C t (0, 0)) ∧ t ≠ 101 ∧ t ≠ 160 := fun g hg => by
    obtain ⟨C, hC⟩ := owns_block h2 hg
    exact ⟨C, _, hC, by decide, by decide⟩
  have farN : ∀ g, v.ownBlock = some g → ∃ C t, W.heap[g]? = some (.cells C t (0, 0)) ∧ t ≠ 3 := fun g hg => by
    obtain ⟨C, hC⟩ := owns_block h2 hg
    exact ⟨C, _, hC, by decide⟩
  refine h g cap w' ⟨vs ++ [x], ps ++ [p], by simp [h0], by simp [h1], ?_, ?_, ?_⟩ ((Below.refl B W).grown hgrow hB (fun k hk => (h2.lt k hk).1)) hgrow
  · rw [cellsSeg_append l vs ps b x p h0 h1, List.length_append]
    exact hown'
  · intro j z c hz hc
    by_cases hj : j < l.length
    · rw [List.getElem?_append_left (by omega)] at hz
      rw [List.getElem?_append_left hj] at hc
      exact rowBatch_far (h3 j z c hz hc) hgrow far
    · have hlt : j < (l ++ [b]).length := (List.getElem?_eq_some_iff.1 hc).1
      have hje : j = l.length := by simp at hlt; omega
      subst hje
      rw [List.getElem?_append_right (by omega)] at hz
      rw [List.getElem?_append_right (Nat.le_refl _)] at hc
      simp [h0] at hz hc
      subst hz hc
      exact rowBatch_far hx hgrow far
  · intro j z c hz hc
    by_cases hj : j < l.length
    · rw [List.getElem?_append_left (by omega)] at hz
      rw [List.getElem?_append_left hj] at hc
      exact rowNat_far (h4 j z c hz hc) hgrow farN
    · have hlt : j < (l ++ [b]).length := (List.getElem?_eq_some_iff.1 hc).1
      have hje : j = l.length := by simp at hlt; omega
      subst hje
      rw [List.getElem?_append_right (by omega)] at hz
      rw [List.getElem?_append_right (Nat.le_refl _)] at hc
      simp [h1] at hz hc
      subst hz hc
      exact rowNat_far hp hgrow farN
end Go.Proofs.YtlcfblodflgleaaGreatDoor
namespace Go.Proofs.YtlcfblodflgleaaGreatDoor
open Go.RowKit Go.Shelf
attribute [local go_sem] Oper.semAt_some
def KpF (n₀ Bn : Nat) (W W' : World) : Prop := Below n₀ W W' ∧ ∀ v, Boxed W Bn 9 v → Boxed W' Bn 9 v
theorem kpF_t {n₀ Bn : Nat} {A B C : World} (h : KpF n₀ Bn A B) (k : KpF n₀ Bn B C) : KpF n₀ Bn A C := ⟨h.1.trans k.1, fun v hv => k.2 v (h.2 v hv)⟩
theorem kpF_b {n₀ Bn : Nat} {w : World} (hn : n₀ ≤ w.heap.size) (W : World) (l : Nat) (o o' : Obj) (hl : w.heap.size ≤ l) (h : W.heap[l]? = some o) (hc : o.isCells = false) (hw : o.isWalk = false) : KpF n₀ Bn W (W.putObj l o') :=
  ⟨belowK_b hn W l o o' hl h hc hw, fun v hv => hv.kept (grownBy_putObj' W l o') (fun e => by
    cases e
    have hv' : W.heap[Bn]? = some (.cells #[v] 9 (0, 0)) := hv
    rw [hv'] at h
    cases h
    cases hc)⟩
theorem sumTab_below {w w' : World} {n₀ : Nat} (h : Below n₀ w w') (hg : 0 < n₀) (ht : SumTab w) : SumTab w' := fun r hr => (h.cell (p := ⟨0, r, none⟩) hg).trans (ht r hr)
theorem sumTab_lt {w : World} (ht : SumTab w) : 0 < w.heap.size := World.block_lt_of_cell? _ _ (ht 0 (by omega))
abbrev FrX := { x : Nat × Nat // x.2 ≤ 20000 }
def vl (l : List FrX) : List (Nat × Nat) := l.map Subtype.val
theorem vl_snoc (l : List FrX) (x : FrX) : vl (l ++ [x]) = vl l ++ [x.1] := by simp [vl]
theorem vl_len (l : List FrX) : (vl l).length = l.length := by simp [vl]
theorem frames1_pre (s : ByteArray) (hs : s.size ≤ 20000) (n l Bn n₀ : Nat) (hn : 1 ≤ n) (J Jx : List FrX → World → Prop)
    (hY : ∀ pre x W, J pre W → pre.length < s.size + 1 → YieldAt Fence.wide (n - 1) Tryz.prog l #[.string (s.extract x.1.1 x.1.2), .int .i64 (x.1.2 : Int)] W fun e W' =>
      (e = .returned (.bool true) ∧ J (pre ++ [x]) W' ∧ KpF n₀ Bn W W') ∨ (e = .returned (.bool false) ∧ Jx (pre ++ [x]) W'))
    (W : World) (hJ : AbidesFrom W.heap.size J) (hn₀ : n₀ ≤ W.heap.size) (hg : 0 < n₀) (hbox : Boxed W Bn 9 (.string s)) (hT : SumTab W) (h0 : J [] W) :
    CallsIn Fence.wide n Tryz.prog 217 #[.func (.yield l) #[] #[], .pointer (some ⟨Bn, 0, none⟩)] W fun e W' => (∃ v, e = .returned v) ∧
      ((∃ ys, vl ys = frs s (s.size + 1) 0 ∧ J ys W') ∨ (∃ pre, (∃ rest, frs s (s.size + 1) 0 = vl pre ++ rest) ∧ Jx pre W')) := by
  have HY := hide hY
  have HJ := hide hJ
  have HT := hide hT
  clear hY hJ hT
  refine callsIn_of_wp Tryz.func217 rfl trivial ?_ rfl
  simp only [Tryz.ntmps217, List.size_toArray, List.length_cons, List.length_nil, Nat.reduceAdd, Nat.reduceSub, Array.replicate_succ, Array.replicate_zero, List.push_toArray, List.append_toArray, List.nil_append, List.cons_append]
  gi_wp2
  gi_loopw [3] (fun a wr => ∃ (pre : List FrX) (f i : Nat), a = .int .i64 i ∧ i ≤ s.size ∧ Hid (frs s (s.size + 1) 0 = vl pre ++ frs s f i) ∧ s.size < f + i ∧ Hid (J pre wr) ∧ Boxed wr Bn 9 (.string s) ∧ Below n₀ W wr ∧ W.heap.size ≤ wr.heap.size) (fun a _ => s.size - (intOf a).toNat)
  case atStart => exact ⟨[], s.size + 1, 0, rfl, Nat.zero_le _, rfl, by omega, h0, hbox, Below.refl _ _, Nat.le_refl _⟩
  case round =>
    obtain ⟨pre, f, i, rfl, hi, hall, hfuel, hJp, hbx, hbl, hsz⟩ := hrel
    have hc := hbx.cell
    have HTr := hide (sumTab_below hbl hg HT.out)
    cases hfr : frB s i with
    | none =>
      have hcall := hide (fun W1 hT1 => callsIn_wide (n := n - 1).2 (frameAt_none s i W1 hs hi hfr hT1))
      have hdone : Hid (frs s (s.size + 1) 0 = vl pre) := by show _ = _; rw [hall.out, frs_none s f i hfr, List.append_nil]
      clear hfr
      gi_wp2_with (first | (refine ⟨trivial, ?_⟩; gi_at_call 215; refine (hcall.out _ HTr.out).mono ?_; rintro e w1 ⟨rfl, b1⟩))
      refine ⟨fun _ _ => trivial, ?_⟩
      gi_wp2
      refine bodyPost_ret (results_none rfl _ _ _) rfl ?_
      exact ⟨⟨_, rfl⟩, .inl ⟨pre, hdone.out.symm, HJ.out _ _ _ none hJp.out (grownBy_below none b1) (fun r e => by cases e)⟩⟩
    | some x =>
      have hb := frB_bounds s i x hfr
      obtain ⟨X, hX⟩ : ∃ X : FrX, X.1 = x := ⟨⟨x, by omega⟩, rfl⟩
      have hcall := hide (fun W1 hT1 => callsIn_wide (n := n - 1).2 (frameAt_some s i x W1 hs hi hfr hT1))
      have HYX := hide (fun pre W => HY.out pre X W)
      rw [hX] at HYX
      cases f with
      | zero => omega
      | succ f =>
        have hall' := hide (show frs s (s.size + 1) 0 = vl (pre ++ [X]) ++ frs s f x.2 by rw [hall.out, frs_some s f i x hfr, vl_snoc, hX, List.append_assoc]; rfl)
        have hlen : pre.length < s.size + 1 := by
          have e := congrArg List.length hall'.out
          rw [List.length_append, vl_len, List.length_append] at e
          have := frs_len s (s.size + 1) 0
          simp at e
          omega
        clear hfr
        gi_wp2_with (first | (refine ⟨trivial, ?_⟩; gi_at_call 215; refine (hcall.out _ HTr.out).mono ?_; rintro e w1 ⟨rfl, b1⟩; obtain ⟨fn, tmps, assign, body, hy, hR⟩ := HYX.out pre w1 (HJ.out _ _ _ none hJp.out (grownBy_below none b1) (fun r e => by cases e)) hlen))
        refine hR.mono ?_
        rintro e W3 (⟨rfl, hJ3, hk3⟩ | ⟨rfl, hJx3⟩)
        · gi_wp2
          go_roundw
          case rel => exact ⟨pre ++ [X], f, x.2, rfl, hb.2.2, hall', by omega, hJ3, hk3.2 _ (hbx.kept (grownBy_below none b1) (by simp)), hbl.trans ((b1.mono (by omega)).trans hk3.1), Nat.le_trans hsz (Nat.le_trans b1.size hk3.1.size)⟩
          case measure => simp [intOf]; omega
        · gi_wp2
          refine bodyPost_ret (results_none rfl _ _ _) rfl ?_
          exact ⟨⟨_, rfl⟩, .inr ⟨_, ⟨_, hall'.out⟩, hJx3⟩⟩
theorem framesOf_any (s : ByteArray) (w : World) :
    Calls Tryz.prog 204 #[.string s] w fun e w' => e = .returned (.func (.func 217) #[] #[.pointer (some ⟨w.heap.size, 0, none⟩)]) ∧ w' = w.alloc (.cells #[.string s] 9) := by
  go_enter Tryz.func204, Tryz.ntmps204
  go_wp2
  go_ret
  exact ⟨rfl, rfl⟩
theorem frames_stopsP (s : ByteArray) (hs : s.size ≤ 20000) (n Bn n₀ : Nat) (hn : 1 ≤ n) (w : World) (hn₀ : n₀ ≤ w.heap.size) (hg : 0 < n₀) (hbox : Boxed w Bn 9 (.string s)) (hT : SumTab w) :
    SeqStopsK Fence.wide n Tryz.prog 217 #[.pointer (some ⟨Bn, 0, none⟩)] (fun x : FrX => #[Value.string (s.extract x.1.1 x.1.2), Value.int .i64 (x.1.2 : Int)]) (KpF n₀ Bn) (fun ys => vl ys = frs s (s.size + 1) 0) (fun pre => ∃ rest, frs s (s.size + 1) 0 = vl pre ++ rest) (s.size + 1) w := fun l J Jx W hW hJ _ hY h0 =>
  frames1_pre s hs n l Bn n₀ hn J Jx hY W hJ (Nat.le_trans hn₀ hW.size) hg (hbox.kept (grownBy_below none hW) (by simp)) (sumTab_below (hW.mono hn₀) hg hT) h0
end Go.Proofs.YtlcfblodflgleaaGreatDoor
