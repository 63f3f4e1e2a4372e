/- Rows of files that a call has made itself: read, appended to. -/
import Derived.Test.YtmmchemgegmhhaaGreatDoorFileL4
namespace Go.Proofs.YtmmchemgegmhhaaGreatDoor
open Go.RowKit

/-- The cells of files. -/
def cellsF : List FileD → List Value
  | [] => []
  | F :: r => .string F.name :: .string F.text :: .int .i64 F.kept :: cellsF r
theorem cellsF_append : ∀ (a b : List FileD), cellsF (a ++ b) = cellsF a ++ cellsF b
  | [], _ => rfl
  | F :: r, b => by simp [cellsF, cellsF_append r b]
theorem cellsF_length : ∀ a : List FileD, (cellsF a).length = a.length * 3
  | [] => rfl
  | F :: r => by simp [cellsF, cellsF_length r]; omega
theorem cellsF_one : ∀ (a : List FileD), ∀ u ∈ cellsF a, u.oneCell' = true
  | [], u, h => absurd h List.not_mem_nil
  | F :: r, u, h => by
    simp only [cellsF, List.mem_cons] at h
    rcases h with rfl | rfl | rfl | h
    · rfl
    · rfl
    · rfl
    · exact cellsF_one r u h
theorem cellsF_get : ∀ (a : List FileD) (j : Nat) (h : j < a.length), (cellsF a)[j * 3]? = some (.string a[j].name) ∧ (cellsF a)[j * 3 + 1]? = some (.string a[j].text) ∧ (cellsF a)[j * 3 + 2]? = some (.int .i64 a[j].kept)
  | [], _, h => absurd h (by simp)
  | F :: r, 0, _ => by simp [cellsF]
  | F :: r, j + 1, h => by
    have := cellsF_get r j (by simpa using h)
    have e : (j + 1) * 3 = j * 3 + 3 := by omega
    simp only [cellsF, e]
    simpa using this

/-- A row of files of a call's own. -/
def RowF (w : World) (B : Nat) (v : Value) (fs : List FileD) : Prop := (v = .slice none 0 0 ∧ fs = []) ∨
  ∃ (g cap : Nat) (C : Array Value), v = .slice (some ⟨g, 0, none⟩) fs.length cap ∧ B ≤ g ∧ w.heap[g]? = some (.cells C 74 (0, 0)) ∧ fs.length * 3 ≤ C.size ∧ FilesIn C fs fs.length

theorem rowF_at {w : World} {B : Nat} {v : Value} {fs : List FileD} (h : RowF w B v fs) : ∃ ao cap, v = .slice ao fs.length cap ∧ FilesAt w ao fs := by
  rcases h with ⟨rfl, rfl⟩ | ⟨g, cap, C, rfl, _, hC, _, hI⟩
  · exact ⟨none, 0, rfl, fun j hj => absurd hj (by simp)⟩
  · exact ⟨_, cap, rfl, filesAt_own hC hI⟩
theorem rowF_lt {w : World} {B : Nat} {v : Value} {fs : List FileD} (h : RowF w B v fs) : ∀ g, v.ownBlock = some g → B ≤ g ∧ g < w.heap.size := by
  rcases h with ⟨rfl, rfl⟩ | ⟨g, cap, C, rfl, hB, hC, _, hI⟩
  · intro g h; cases h
  · intro g' h
    obtain rfl : g = g' := by simpa [Value.ownBlock] using h
    exact ⟨hB, (Array.getElem?_eq_some_iff.1 hC).1⟩
theorem rowF_keep {w w' : World} {B : Nat} {v : Value} {fs : List FileD} (h : RowF w B v fs) (hk : ∀ g, v.ownBlock = some g → w'.heap[g]? = w.heap[g]?) : RowF w' B v fs := by
  rcases h with ⟨rfl, rfl⟩ | ⟨g, cap, C, rfl, hB, hC, hs, hI⟩
  · exact .inl ⟨rfl, rfl⟩
  · exact .inr ⟨g, cap, C, rfl, hB, (hk g rfl).trans hC, hs, hI⟩
theorem rowF_below {w w' : World} {B : Nat} {v : Value} {fs : List FileD} (h : RowF w B v fs) (hb : Below w.heap.size w w') : RowF w' B v fs :=
  rowF_keep h (fun g hg => hb.block g (rowF_lt h g hg).2)
theorem rowF_grown {w w' : World} {B : Nat} {v : Value} {fs : List FileD} {r : Option Nat} (h : RowF w B v fs) (hb : w.grownBy w' r) (hr : ∀ g, v.ownBlock = some g → some g ≠ r) : RowF w' B v fs :=
  rowF_keep h (fun g hg => hb.block g (rowF_lt h g hg).2 (hr g hg))
theorem rowF_le {w : World} {B B' : Nat} {v : Value} {fs : List FileD} (h : RowF w B v fs) (hB : B' ≤ B) : RowF w B' v fs := by
  rcases h with h | ⟨g, cap, C, h1, h2, h3⟩
  · exact .inl h
  · exact .inr ⟨g, cap, C, h1, by omega, h3⟩

theorem take_get {C : Array Value} {xs : List Value} {n : Nat} (h : C.toList.take n = xs) {j : Nat} {u : Value} (hj : j < n) (hu : xs[j]? = some u) : C[j]? = some u := by
  rw [← h, List.getElem?_take_of_lt hj] at hu
  simpa using hu

theorem rowF_own {w : World} {B : Nat} {v : Value} {fs : List FileD} (h : w.ownsRow B 74 3 v fs.length (cellsF fs)) : RowF w B v fs := by
  rcases h.2 with ⟨rfl, hn⟩ | ⟨g, cap, cur, rfl, hB, hC, hle, _, hs, ht⟩
  · exact .inl ⟨rfl, List.eq_nil_of_length_eq_zero hn⟩
  · refine .inr ⟨g, cap, cur, rfl, hB, hC, by omega, ?_⟩
    intro j hj _
    obtain ⟨h1, h2, h3⟩ := cellsF_get fs j hj
    exact ⟨take_get ht (by omega) h1, take_get ht (by omega) h2, take_get ht (by omega) h3⟩

/-- One file is put behind a row of the call's own, at a step of a region that draws its order. -/
theorem step_app_file {ops : Array Oper} {o : Oper} {a : Act} {K : Act → World → Prop} {Q : Exit → Act → World → Prop} {E : Prop} (W : World) (B : Nat) (hgd : o.guard = none) (s x : Operand)
    (ho : o.op = .call { callee := .builtin .append, args := #[s, x], argTypes := #[25, 25] }) (v : Value) (l : List FileD) (F : FileD) (hs : a.eval s = v)
    (hown : W.ownsRow B 74 3 v l.length (cellsF l)) (k : Nat) (hx : a.eval x = .slice (some ⟨k, 0, none⟩) 1 1) (hblk : W.heap[k]? = some (.cells #[.string F.name, .string F.text, .int .i64 F.kept] 74 (0, 0)))
    (hlen : l.length ≤ 1048576) (hbase : B ≤ W.heap.size)
    (h : ∀ g cap w', w'.ownsRow B 74 3 (.slice (some ⟨g, 0, none⟩) (l.length + 1) cap) (l ++ [F]).length (cellsF (l ++ [F])) → Below B W w' → B ≤ g → g < w'.heap.size → K (a.put o.dst (.slice (some ⟨g, 0, none⟩) (l.length + 1) cap)) w') :
    if Region.wanted o (yielded ops a.tmps) = true then Oper.wp Tryz.prog o a W K Q else E := by
  obtain ⟨i0, hi, hz0, hz1, hz2⟩ := info_parts Tryz.infoFile
  refine step_append_lies W hgd s x 25 ho B 74 i0 (.agg #[.string ⟨#[]⟩, .string ⟨#[]⟩, .int .i64 0]) 3 40 Tryz.underlying25 hi hz0 hz1 hz2 rfl (by decide) v l.length (cellsF l) hs hown ⟨k, 0, none⟩ 1 1 (cellsF [F]) hx (by rw [cellsF_length]; rfl)
    (fun j u hj => World.news_of_block hblk j u hj) (cellsF_one [F]) (by omega) (by unfold maxLen; omega) (by omega) hbase W.heap.size rfl ?_
  intro g cap w' hown' hgrow hg hgl
  have hlt := hown.lt
  refine h g cap w' ?_ ((Below.refl B W).grown hgrow hbase (fun k hk => (hlt k hk).1)) ?_ hgl
  · rw [cellsF_append, List.length_append]
    exact hown'
  · rcases hg with hg | rfl
    · exact (hlt g hg).1
    · exact hbase

/-- The same in a plain region: the new file lies in a block of its own. -/
theorem app_file {ops : Array Oper} {rest : List Oper} {o : Oper} {a : Act} {Q : Exit → Act → World → Prop} (W : World) (B : Nat) (hgd : o.guard = none) (s x : Operand)
    (ho : o.op = .call { callee := .builtin .append, args := #[s, x], argTypes := #[25, 25] }) (v : Value) (l : List FileD) (F : FileD) (hs : a.eval s = v)
    (hown : W.ownsRow B 74 3 v l.length (cellsF l)) (k : Nat) (hx : a.eval x = .slice (some ⟨k, 0, none⟩) 1 1) (hblk : W.heap[k]? = some (.cells #[.string F.name, .string F.text, .int .i64 F.kept] 74 (0, 0)))
    (hlen : l.length ≤ 1048576) (hbase : B ≤ W.heap.size)
    (h : ∀ g cap w', w'.ownsRow B 74 3 (.slice (some ⟨g, 0, none⟩) (l.length + 1) cap) (l ++ [F]).length (cellsF (l ++ [F])) → Below B W w' → B ≤ g → g < w'.heap.size → wpList Tryz.prog ops Q rest (a.put o.dst (.slice (some ⟨g, 0, none⟩) (l.length + 1) cap)) w') :
    wpList Tryz.prog ops Q (o :: rest) a W := by
  obtain ⟨i0, hi, hz0, hz1, hz2⟩ := info_parts Tryz.infoFile
  refine wpList_append_lies W hgd s x 25 ho B 74 i0 (.agg #[.string ⟨#[]⟩, .string ⟨#[]⟩, .int .i64 0]) 3 40 Tryz.underlying25 hi hz0 hz1 hz2 rfl (by decide) v l.length (cellsF l) hs hown ⟨k, 0, none⟩ 1 1 (cellsF [F]) hx (by rw [cellsF_length]; rfl)
    (fun j u hj => World.news_of_block hblk j u hj) (cellsF_one [F]) (by omega) (by unfold maxLen; omega) (by omega) hbase W.heap.size rfl ?_
  intro g cap w' hown' hgrow hg hgl
  have hlt := hown.lt
  refine h g cap w' ?_ ((Below.refl B W).grown hgrow hbase (fun k hk => (hlt k hk).1)) ?_ hgl
  · rw [cellsF_append, List.length_append]
    exact hown'
  · rcases hg with hg | rfl
    · exact (hlt g hg).1
    · exact hbase
end Go.Proofs.YtmmchemgegmhhaaGreatDoor
