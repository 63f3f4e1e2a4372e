/- Rows of Act as the laws hold them (written by tools/gen_struct.py). -/
import Derived.Test.YtmmchemgegmhhaaGreatDoorActsL
namespace Go.Proofs.YtmmchemgegmhhaaGreatDoor
open Go.RowKit

/-- The cells of a row. -/
def cellsAct : List ActD → List Value
  | [] => []
  | A :: r => .int .i64 A.kind :: .string A.name :: .string A.text :: .string A.toN :: cellsAct r
theorem cellsAct_append : ∀ (a b : List ActD), cellsAct (a ++ b) = cellsAct a ++ cellsAct b
  | [], _ => rfl
  | A :: r, b => by simp [cellsAct, cellsAct_append r b]
theorem cellsAct_length : ∀ a : List ActD, (cellsAct a).length = a.length * 4
  | [] => rfl
  | A :: r => by simp [cellsAct, cellsAct_length r]; omega
theorem cellsAct_one : ∀ (a : List ActD), ∀ u ∈ cellsAct a, u.oneCell' = true
  | [], u, h => absurd h List.not_mem_nil
  | A :: r, u, h => by
    simp only [cellsAct, List.mem_cons] at h
    rcases h with rfl | rfl | rfl | rfl | h
    · rfl
    · rfl
    · rfl
    · rfl
    · exact cellsAct_one r u h
theorem cellsAct_get : ∀ (a : List ActD) (j : Nat) (h : j < a.length), (cellsAct a)[j * 4]? = some (.int .i64 a[j].kind) ∧ (cellsAct a)[j * 4 + 1]? = some (.string a[j].name) ∧ (cellsAct a)[j * 4 + 2]? = some (.string a[j].text) ∧ (cellsAct a)[j * 4 + 3]? = some (.string a[j].toN)
  | [], _, h => absurd h (by simp)
  | A :: r, 0, _ => by simp [cellsAct]
  | A :: r, j + 1, h => by
    have := cellsAct_get r j (by simpa using h)
    have e : (j + 1) * 4 = j * 4 + 4 := by omega
    simp only [cellsAct, e]
    simpa using this

/-- A row of a call's own. -/
def RowAct (w : World) (B : Nat) (v : Value) (fs : List ActD) : Prop := (v = .slice none 0 0 ∧ fs = []) ∨
  ∃ (g cap : Nat) (C : Array Value), v = .slice (some ⟨g, 0, none⟩) fs.length cap ∧ B ≤ g ∧ w.heap[g]? = some (.cells C 103 (0, 0)) ∧ fs.length * 4 ≤ C.size ∧ ActsIn C fs fs.length
theorem rowAct_at {w : World} {B : Nat} {v : Value} {fs : List ActD} (h : RowAct w B v fs) : ∃ ao cap, v = .slice ao fs.length cap ∧ ActsAt w ao fs := by
  rcases h with ⟨rfl, rfl⟩ | ⟨g, cap, C, rfl, _, hC, _, hI⟩
  · exact ⟨none, 0, rfl, fun j hj => absurd hj (by simp)⟩
  · exact ⟨_, cap, rfl, actsAt_own hC hI⟩
theorem rowAct_lt {w : World} {B : Nat} {v : Value} {fs : List ActD} (h : RowAct w B v fs) : ∀ g, v.ownBlock = some g → B ≤ g ∧ g < w.heap.size := by
  rcases h with ⟨rfl, rfl⟩ | ⟨g, cap, C, rfl, hB, hC, _, hI⟩
  · intro g h; cases h
  · intro g' h
    obtain rfl : g = g' := by simpa [Value.ownBlock] using h
    exact ⟨hB, (Array.getElem?_eq_some_iff.1 hC).1⟩
theorem rowAct_keep {w w' : World} {B : Nat} {v : Value} {fs : List ActD} (h : RowAct w B v fs) (hk : ∀ g, v.ownBlock = some g → w'.heap[g]? = w.heap[g]?) : RowAct w' B v fs := by
  rcases h with ⟨rfl, rfl⟩ | ⟨g, cap, C, rfl, hB, hC, hs, hI⟩
  · exact .inl ⟨rfl, rfl⟩
  · exact .inr ⟨g, cap, C, rfl, hB, (hk g rfl).trans hC, hs, hI⟩
theorem rowAct_below {w w' : World} {B : Nat} {v : Value} {fs : List ActD} (h : RowAct w B v fs) (hb : Below w.heap.size w w') : RowAct w' B v fs :=
  rowAct_keep h (fun g hg => hb.block g (rowAct_lt h g hg).2)
theorem rowAct_grown {w w' : World} {B : Nat} {v : Value} {fs : List ActD} {r : Option Nat} (h : RowAct w B v fs) (hb : w.grownBy w' r) (hr : ∀ g, v.ownBlock = some g → some g ≠ r) : RowAct w' B v fs :=
  rowAct_keep h (fun g hg => hb.block g (rowAct_lt h g hg).2 (hr g hg))
theorem rowAct_le {w : World} {B B' : Nat} {v : Value} {fs : List ActD} (h : RowAct w B v fs) (hB : B' ≤ B) : RowAct w B' v fs := by
  rcases h with h | ⟨g, cap, C, h1, h2, h3⟩
  · exact .inl h
  · exact .inr ⟨g, cap, C, h1, by omega, h3⟩
theorem rowAct_rows {w : World} {B n c : Nat} {a : Option Addr} {fs : List ActD} (h : RowAct w B (.slice a n c) fs) : ActsAt w a fs := by
  obtain ⟨ao, cap, e, hf⟩ := rowAct_at h
  cases e
  exact hf
theorem take_getAct {C : Array Value} {xs : List Value} {n : Nat} (h : C.toList.take n = xs) {j : Nat} {u : Value} (hj : j < n) (hu : xs[j]? = some u) : C[j]? = some u := by
  rw [← h, List.getElem?_take_of_lt hj] at hu
  simpa using hu
theorem rowAct_own {w : World} {B : Nat} {v : Value} {fs : List ActD} (h : w.ownsRow B 103 4 v fs.length (cellsAct fs)) : RowAct w B v fs := by
  rcases h.2 with ⟨rfl, hn⟩ | ⟨g, cap, cur, rfl, hB, hC, hle, _, hs, ht⟩
  · exact .inl ⟨rfl, List.eq_nil_of_length_eq_zero hn⟩
  · refine .inr ⟨g, cap, cur, rfl, hB, hC, by omega, ?_⟩
    intro j hj _
    obtain ⟨h0, h1, h2, h3⟩ := cellsAct_get fs j hj
    exact ⟨take_getAct ht (by omega) h0, take_getAct ht (by omega) h1, take_getAct ht (by omega) h2, take_getAct ht (by omega) h3⟩

/-- One is put behind a row of the call's own, at a step of a region that draws its order. -/
theorem step_app_act {ops : Array Oper} {o : Oper} {a : Act} {K : Act → World → Prop} {Q : Exit → Act → World → Prop} {E : Prop} (W : World) (B : Nat) (hgd : o.guard = none) (s y : Operand)
    (ho : o.op = .call { callee := .builtin .append, args := #[s, y], argTypes := #[51, 51] }) (v : Value) (l : List ActD) (F : ActD) (hs : a.eval s = v)
    (hown : W.ownsRow B 103 4 v l.length (cellsAct l)) (k : Nat) (hx : a.eval y = .slice (some ⟨k, 0, none⟩) 1 1) (hblk : W.heap[k]? = some (.cells #[.int .i64 F.kind, .string F.name, .string F.text, .string F.toN] 103 (0, 0)))
    (hlen : l.length ≤ 1048576) (hbase : B ≤ W.heap.size)
    (h : ∀ g cap w', w'.ownsRow B 103 4 (.slice (some ⟨g, 0, none⟩) (l.length + 1) cap) (l ++ [F]).length (cellsAct (l ++ [F])) → Below B W w' → B ≤ g → g < w'.heap.size → K (a.put o.dst (.slice (some ⟨g, 0, none⟩) (l.length + 1) cap)) w') :
    if Region.wanted o (yielded ops a.tmps) = true then Oper.wp Tryz.prog o a W K Q else E := by
  obtain ⟨i0, hi, hz0, hz1, hz2⟩ := info_parts Tryz.infoAct
  refine step_append_lies W hgd s y 51 ho B 103 i0 (.agg #[.int .i64 0, .string ⟨#[]⟩, .string ⟨#[]⟩, .string ⟨#[]⟩]) 4 56 Tryz.underlying51 hi hz0 hz1 hz2 rfl (by decide) v l.length (cellsAct l) hs hown ⟨k, 0, none⟩ 1 1 (cellsAct [F]) hx (by rw [cellsAct_length]; rfl)
    (fun j u hj => World.news_of_block hblk j u hj) (cellsAct_one [F]) (by omega) (by unfold maxLen; omega) (by omega) hbase W.heap.size rfl ?_
  intro g cap w' hown' hgrow hg hgl
  have hlt := hown.lt
  refine h g cap w' ?_ ((Below.refl B W).grown hgrow hbase (fun k hk => (hlt k hk).1)) ?_ hgl
  · rw [cellsAct_append, List.length_append]
    exact hown'
  · rcases hg with hg | rfl
    · exact (hlt g hg).1
    · exact hbase
/-- The same in a plain region. -/
theorem app_act {ops : Array Oper} {rest : List Oper} {o : Oper} {a : Act} {Q : Exit → Act → World → Prop} (W : World) (B : Nat) (hgd : o.guard = none) (s y : Operand)
    (ho : o.op = .call { callee := .builtin .append, args := #[s, y], argTypes := #[51, 51] }) (v : Value) (l : List ActD) (F : ActD) (hs : a.eval s = v)
    (hown : W.ownsRow B 103 4 v l.length (cellsAct l)) (k : Nat) (hx : a.eval y = .slice (some ⟨k, 0, none⟩) 1 1) (hblk : W.heap[k]? = some (.cells #[.int .i64 F.kind, .string F.name, .string F.text, .string F.toN] 103 (0, 0)))
    (hlen : l.length ≤ 1048576) (hbase : B ≤ W.heap.size)
    (h : ∀ g cap w', w'.ownsRow B 103 4 (.slice (some ⟨g, 0, none⟩) (l.length + 1) cap) (l ++ [F]).length (cellsAct (l ++ [F])) → Below B W w' → B ≤ g → g < w'.heap.size → wpList Tryz.prog ops Q rest (a.put o.dst (.slice (some ⟨g, 0, none⟩) (l.length + 1) cap)) w') :
    wpList Tryz.prog ops Q (o :: rest) a W := by
  obtain ⟨i0, hi, hz0, hz1, hz2⟩ := info_parts Tryz.infoAct
  refine wpList_append_lies W hgd s y 51 ho B 103 i0 (.agg #[.int .i64 0, .string ⟨#[]⟩, .string ⟨#[]⟩, .string ⟨#[]⟩]) 4 56 Tryz.underlying51 hi hz0 hz1 hz2 rfl (by decide) v l.length (cellsAct l) hs hown ⟨k, 0, none⟩ 1 1 (cellsAct [F]) hx (by rw [cellsAct_length]; rfl)
    (fun j u hj => World.news_of_block hblk j u hj) (cellsAct_one [F]) (by omega) (by unfold maxLen; omega) (by omega) hbase W.heap.size rfl ?_
  intro g cap w' hown' hgrow hg hgl
  have hlt := hown.lt
  refine h g cap w' ?_ ((Below.refl B W).grown hgrow hbase (fun k hk => (hlt k hk).1)) ?_ hgl
  · rw [cellsAct_append, List.length_append]
    exact hown'
  · rcases hg with hg | rfl
    · exact (hlt g hg).1
    · exact hbase

/-- Several are put behind a row of the call's own, in a plain region. -/
theorem app_acts {ops : Array Oper} {rest : List Oper} {o : Oper} {a : Act} {Q : Exit → Act → World → Prop} (W : World) (B : Nat) (hgd : o.guard = none) (s y : Operand)
    (ho : o.op = .call { callee := .builtin .append, args := #[s, y], argTypes := #[51, 51] }) (v : Value) (l rs : List ActD) (hs : a.eval s = v)
    (hown : W.ownsRow B 103 4 v l.length (cellsAct l)) (k n : Nat) (hn : rs.length = n) (hx : a.eval y = .slice (some ⟨k, 0, none⟩) n n) (hblk : W.heap[k]? = some (.cells (cellsAct rs).toArray 103 (0, 0)))
    (hlen : l.length ≤ 1048576) (hn0 : 0 < n) (hn1 : n ≤ 1000) (hbase : B ≤ W.heap.size)
    (h : ∀ g cap w', w'.ownsRow B 103 4 (.slice (some ⟨g, 0, none⟩) (l.length + n) cap) (l ++ rs).length (cellsAct (l ++ rs)) → Below B W w' → B ≤ g → g < w'.heap.size → wpList Tryz.prog ops Q rest (a.put o.dst (.slice (some ⟨g, 0, none⟩) (l.length + n) cap)) w') :
    wpList Tryz.prog ops Q (o :: rest) a W := by
  subst hn
  obtain ⟨i0, hi, hz0, hz1, hz2⟩ := info_parts Tryz.infoAct
  refine wpList_append_lies W hgd s y 51 ho B 103 i0 (.agg #[.int .i64 0, .string ⟨#[]⟩, .string ⟨#[]⟩, .string ⟨#[]⟩]) 4 56 Tryz.underlying51 hi hz0 hz1 hz2 rfl (by decide) v l.length (cellsAct l) hs hown ⟨k, 0, none⟩ rs.length rs.length (cellsAct rs) hx (by rw [cellsAct_length])
    (fun j u hj => World.news_of_block hblk j u (by simpa using hj)) (cellsAct_one rs) (by omega) (by unfold maxLen; omega) (by omega) hbase W.heap.size rfl ?_
  intro g cap w' hown' hgrow hg hgl
  have hlt := hown.lt
  refine h g cap w' ?_ ((Below.refl B W).grown hgrow hbase (fun k hk => (hlt k hk).1)) ?_ hgl
  · rw [cellsAct_append, List.length_append]
    exact hown'
  · rcases hg with hg | rfl
    · exact (hlt g hg).1
    · exact hbase

/-- The same, of a row that a call has made. -/
theorem app_actsR {ops : Array Oper} {rest : List Oper} {o : Oper} {a : Act} {Q : Exit → Act → World → Prop} (W : World) (B : Nat) (hgd : o.guard = none) (s y : Operand)
    (ho : o.op = .call { callee := .builtin .append, args := #[s, y], argTypes := #[51, 51] }) (v : Value) (l rs : List ActD) (hs : a.eval s = v)
    (hown : W.ownsRow B 103 4 v l.length (cellsAct l)) (B2 n : Nat) (v2 : Value) (hn : rs.length = n) (hx : a.eval y = v2) (hown2 : W.ownsRow B2 103 4 v2 rs.length (cellsAct rs))
    (hlen : l.length ≤ 1048576) (hn0 : 0 < n) (hn1 : n ≤ 1000000) (hbase : B ≤ W.heap.size)
    (h : ∀ g cap w', w'.ownsRow B 103 4 (.slice (some ⟨g, 0, none⟩) (l.length + n) cap) (l ++ rs).length (cellsAct (l ++ rs)) → Below B W w' → B ≤ g → g < w'.heap.size → wpList Tryz.prog ops Q rest (a.put o.dst (.slice (some ⟨g, 0, none⟩) (l.length + n) cap)) w') :
    wpList Tryz.prog ops Q (o :: rest) a W := by
  subst hn
  obtain ⟨i0, hi, hz0, hz1, hz2⟩ := info_parts Tryz.infoAct
  rcases hown2.2 with ⟨rfl, hn⟩ | ⟨g2, cap2, cur2, rfl, -⟩
  · omega
  refine wpList_append_lies W hgd s y 51 ho B 103 i0 (.agg #[.int .i64 0, .string ⟨#[]⟩, .string ⟨#[]⟩, .string ⟨#[]⟩]) 4 56 Tryz.underlying51 hi hz0 hz1 hz2 rfl (by decide) v l.length (cellsAct l) hs hown ⟨g2, 0, none⟩ rs.length cap2 (cellsAct rs) hx (by rw [cellsAct_length])
    (fun j u hj => hown2.cells (g := g2) rfl j u hj) (cellsAct_one rs) (by omega) (by unfold maxLen; omega) (by omega) hbase W.heap.size rfl ?_
  intro g cap w' hown' hgrow hg hgl
  have hlt := hown.lt
  refine h g cap w' ?_ ((Below.refl B W).grown hgrow hbase (fun k hk => (hlt k hk).1)) ?_ hgl
  · rw [cellsAct_append, List.length_append]
    exact hown'
  · rcases hg with hg | rfl
    · exact (hlt g hg).1
    · exact hbase
end Go.Proofs.YtmmchemgegmhhaaGreatDoor
