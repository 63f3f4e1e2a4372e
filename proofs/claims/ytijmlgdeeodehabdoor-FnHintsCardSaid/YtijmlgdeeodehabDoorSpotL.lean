/- Rows of Spot as the laws hold them (written by tools/gen_struct.py). -/
import Derived.Test.YtijmlgdeeodehabDoorOne
import Derived.Test.YtijmlgdeeodehabDoorMarkText
import Derived.Laws.MakeOwn
import Derived.Lib.SmallJoins
import Derived.OpenShut
namespace Go.Proofs.YtijmlgdeeodehabDoor
open Go.RowKit

structure SpotD where
  key : ByteArray
  seg : Int
  pos : Int
  seq : Int

/-- A row of these in memory. -/
def SpotsAt (w : World) (ao : Option Addr) (fs : List SpotD) : Prop := ∀ j (h : j < fs.length), ∃ b off : Nat, ao = some ⟨b, off, none⟩ ∧ b < w.heap.size ∧
  w.cell? ⟨b, off + j * 4, none⟩ = some (.string fs[j].key) ∧ w.cell? ⟨b, off + j * 4 + 1, none⟩ = some (.int .i64 fs[j].seg) ∧ w.cell? ⟨b, off + j * 4 + 2, none⟩ = some (.int .i64 fs[j].pos) ∧ w.cell? ⟨b, off + j * 4 + 3, none⟩ = some (.int .i64 fs[j].seq)
theorem spotsAt_keep {w w' : World} {ao : Option Addr} {fs : List SpotD} (h : SpotsAt w ao fs) (hb : Below w.heap.size w w') : SpotsAt w' ao fs := by
  intro j hj
  obtain ⟨b, off, h1, h2, h3, h4, h5, h6⟩ := h j hj
  exact ⟨b, off, h1, Nat.lt_of_lt_of_le h2 hb.size, (hb.cell (p := ⟨b, off + j * 4, none⟩) h2).trans h3, (hb.cell (p := ⟨b, off + j * 4 + 1, none⟩) h2).trans h4, (hb.cell (p := ⟨b, off + j * 4 + 2, none⟩) h2).trans h5, (hb.cell (p := ⟨b, off + j * 4 + 3, none⟩) h2).trans h6⟩

/-- What one leaves of a measure; below 0: it is too great. -/
def szSpotD (A : SpotD) (n : Int) : Int := if n < (A.key.size : Int) then -1 else n - A.key.size

theorem szSpotD_small {A : SpotD} {n : Int} (h0 : n ≤ 1048576) (h : 0 ≤ szSpotD A n) : A.key.size ≤ 1048576 := by
  unfold szSpotD at h
  repeat' split at h
  all_goals omega

theorem szSpotD_le (A : SpotD) (n : Int) (h : 0 ≤ n) : szSpotD A n ≤ n := by
  unfold szSpotD
  repeat' split
  all_goals omega

/-- What a row leaves of a measure. -/
def szSpotDs : List SpotD → Int → Int
  | [], n => n
  | A :: r, n => if szSpotD A n < 0 then -1 else szSpotDs r (szSpotD A n)

theorem szSpotDs_small : ∀ (fs : List SpotD) (n : Int), n ≤ 1048576 → 0 ≤ n → 0 ≤ szSpotDs fs n → ∀ A ∈ fs, A.key.size ≤ 1048576
  | [], _, _, _, _, _, h => absurd h List.not_mem_nil
  | F :: r, n, h0, h1, h2, A, hA => by
    unfold szSpotDs at h2
    split at h2
    · omega
    · rcases List.mem_cons.1 hA with rfl | hA
      · exact szSpotD_small h0 (by omega)
      · have := szSpotD_le F n h1
        exact szSpotDs_small r _ (by omega) (by omega) h2 A hA
theorem szSpotDs_le : ∀ (fs : List SpotD) (n : Int), 0 ≤ n → szSpotDs fs n ≤ n
  | [], _, _ => Int.le_refl _
  | F :: r, n, h => by
    unfold szSpotDs
    split
    · omega
    · have := szSpotD_le F n h
      have := szSpotDs_le r (szSpotD F n) (by omega)
      omega

/-- The first k of these stand in these cells. -/
def SpotsIn (C : Array Value) (fs : List SpotD) (k : Nat) : Prop := ∀ j (h : j < fs.length), j < k → C[j * 4]? = some (.string fs[j].key) ∧ C[j * 4 + 1]? = some (.int .i64 fs[j].seg) ∧ C[j * 4 + 2]? = some (.int .i64 fs[j].pos) ∧ C[j * 4 + 3]? = some (.int .i64 fs[j].seq)
theorem Tryd.infoSpot : (Tryd.prog.info? 44).map (fun i => (i.zero, i.size, i.bytes)) = some (some (.agg #[.string ⟨#[]⟩, .int .i64 0, .int .i64 0, .int .i64 0]), 4, 40) := by kernel_rfl
/-- One is put into its cells. -/
def putSpot (C : Array Value) (k : Nat) (A : SpotD) : Array Value := (((C.setIfInBounds (k * 4) (.string A.key)).setIfInBounds (k * 4 + 1) (.int .i64 A.seg)).setIfInBounds (k * 4 + 2) (.int .i64 A.pos)).setIfInBounds (k * 4 + 3) (.int .i64 A.seq)
theorem putSpot_size (C : Array Value) (k : Nat) (A : SpotD) : (putSpot C k A).size = C.size := by simp [putSpot]
theorem spotsIn_put {C : Array Value} {fs : List SpotD} {k : Nat} (h : SpotsIn C fs k) (hk : k < fs.length) (hs : fs.length * 4 ≤ C.size) : SpotsIn (putSpot C k fs[k]) fs (k + 1) := by
  intro j hj hjk
  unfold putSpot
  by_cases e : j = k
  · subst e
    refine ⟨?_, ?_, ?_, ?_⟩ <;> simp [Array.getElem?_setIfInBounds] <;> omega
  · obtain ⟨h0, h1, h2, h3⟩ := h j hj (by omega)
    refine ⟨?_, ?_, ?_, ?_⟩
    · rw [Array.getElem?_setIfInBounds_ne (by omega), Array.getElem?_setIfInBounds_ne (by omega), Array.getElem?_setIfInBounds_ne (by omega), Array.getElem?_setIfInBounds_ne (by omega)]; exact h0
    · rw [Array.getElem?_setIfInBounds_ne (by omega), Array.getElem?_setIfInBounds_ne (by omega), Array.getElem?_setIfInBounds_ne (by omega), Array.getElem?_setIfInBounds_ne (by omega)]; exact h1
    · rw [Array.getElem?_setIfInBounds_ne (by omega), Array.getElem?_setIfInBounds_ne (by omega), Array.getElem?_setIfInBounds_ne (by omega), Array.getElem?_setIfInBounds_ne (by omega)]; exact h2
    · rw [Array.getElem?_setIfInBounds_ne (by omega), Array.getElem?_setIfInBounds_ne (by omega), Array.getElem?_setIfInBounds_ne (by omega), Array.getElem?_setIfInBounds_ne (by omega)]; exact h3
theorem spot_stored {w : World} {g k : Nat} {C : Array Value} {t : TypeId} (A : SpotD) (h : w.heap[g]? = some (.cells C t (0, 0))) :
    ((((w.setCell ⟨g, k * 4, none⟩ (.string A.key)).setCell ⟨g, k * 4 + 1, none⟩ (.int .i64 A.seg)).setCell ⟨g, k * 4 + 2, none⟩ (.int .i64 A.pos)).setCell ⟨g, k * 4 + 3, none⟩ (.int .i64 A.seq)).heap[g]? = some (.cells (putSpot C k A) t (0, 0)) := heap_setCell_same _ g _ _ t _ (heap_setCell_same _ g _ _ t _ (heap_setCell_same _ g _ _ t _ (heap_setCell_same w g _ C t _ h)))
theorem spotsAt_own {w : World} {g : Nat} {C : Array Value} {t : TypeId} {fs : List SpotD} (h : w.heap[g]? = some (.cells C t (0, 0))) (hC : SpotsIn C fs fs.length) : SpotsAt w (some ⟨g, 0, none⟩) fs := by
  intro j hj
  obtain ⟨h0, h1, h2, h3⟩ := hC j hj hj
  have hg : g < w.heap.size := (Array.getElem?_eq_some_iff.1 h).1
  refine ⟨g, 0, rfl, hg, ?_, ?_, ?_, ?_⟩
  · rw [Nat.zero_add, cell_of_row w g _ C t (0, 0) h, h0]
  · rw [Nat.zero_add, cell_of_row w g _ C t (0, 0) h, h1]
  · rw [Nat.zero_add, cell_of_row w g _ C t (0, 0) h, h2]
  · rw [Nat.zero_add, cell_of_row w g _ C t (0, 0) h, h3]

/-- The one that is marked from k on. -/
def markSpotD (k : Nat) : SpotD := ⟨⟨(mk (k)).toArray⟩, ((k + 1 : Nat) : Int), ((k + 2 : Nat) : Int), ((k + 3 : Nat) : Int)⟩
/-- n of them, marked from k on. -/
def markSpotDs (k n : Nat) : List SpotD := (List.range n).map (fun j => markSpotD (k + 4 * j))
theorem markSpotDs_length (k n : Nat) : (markSpotDs k n).length = n := by simp [markSpotDs]
theorem markSpotDs_get (k n j : Nat) (h : j < (markSpotDs k n).length) : (markSpotDs k n)[j] = markSpotD (k + 4 * j) := by simp [markSpotDs]
/-- The cells of a row. -/
def cellsSpot : List SpotD → List Value
  | [] => []
  | A :: r => .string A.key :: .int .i64 A.seg :: .int .i64 A.pos :: .int .i64 A.seq :: cellsSpot r
theorem cellsSpot_append : ∀ (a b : List SpotD), cellsSpot (a ++ b) = cellsSpot a ++ cellsSpot b
  | [], _ => rfl
  | A :: r, b => by simp [cellsSpot, cellsSpot_append r b]
theorem cellsSpot_length : ∀ a : List SpotD, (cellsSpot a).length = a.length * 4
  | [] => rfl
  | A :: r => by simp [cellsSpot, cellsSpot_length r]; omega
theorem cellsSpot_one : ∀ (a : List SpotD), ∀ u ∈ cellsSpot a, u.oneCell' = true
  | [], u, h => absurd h List.not_mem_nil
  | A :: r, u, h => by
    simp only [cellsSpot, List.mem_cons] at h
    rcases h with rfl | rfl | rfl | rfl | h
    · rfl
    · rfl
    · rfl
    · rfl
    · exact cellsSpot_one r u h
theorem cellsSpot_get : ∀ (a : List SpotD) (j : Nat) (h : j < a.length), (cellsSpot a)[j * 4]? = some (.string a[j].key) ∧ (cellsSpot a)[j * 4 + 1]? = some (.int .i64 a[j].seg) ∧ (cellsSpot a)[j * 4 + 2]? = some (.int .i64 a[j].pos) ∧ (cellsSpot a)[j * 4 + 3]? = some (.int .i64 a[j].seq)
  | [], _, h => absurd h (by simp)
  | A :: r, 0, _ => by simp [cellsSpot]
  | A :: r, j + 1, h => by
    have := cellsSpot_get r j (by simpa using h)
    have e : (j + 1) * 4 = j * 4 + 4 := by omega
    simp only [cellsSpot, e]
    simpa using this

/-- A row of a call's own. -/
def RowSpot (w : World) (B : Nat) (v : Value) (fs : List SpotD) : Prop := (v = .slice none 0 0 ∧ fs = []) ∨
  ∃ (g cap : Nat) (C : Array Value), v = .slice (some ⟨g, 0, none⟩) fs.length cap ∧ B ≤ g ∧ w.heap[g]? = some (.cells C 44 (0, 0)) ∧ fs.length * 4 ≤ C.size ∧ SpotsIn C fs fs.length
theorem rowSpot_at {w : World} {B : Nat} {v : Value} {fs : List SpotD} (h : RowSpot w B v fs) : ∃ ao cap, v = .slice ao fs.length cap ∧ SpotsAt w ao fs := by
  rcases h with ⟨rfl, rfl⟩ | ⟨g, cap, C, rfl, _, hC, _, hI⟩
  · exact ⟨none, 0, rfl, fun j hj => absurd hj (by simp)⟩
  · exact ⟨_, cap, rfl, spotsAt_own hC hI⟩
theorem rowSpot_lt {w : World} {B : Nat} {v : Value} {fs : List SpotD} (h : RowSpot w B v fs) : ∀ g, v.ownBlock = some g → B ≤ g ∧ g < w.heap.size := by
  rcases h with ⟨rfl, rfl⟩ | ⟨g, cap, C, rfl, hB, hC, _, hI⟩
  · intro g h; cases h
  · intro g' h
    obtain rfl : g = g' := by simpa [Value.ownBlock] using h
    exact ⟨hB, (Array.getElem?_eq_some_iff.1 hC).1⟩
theorem rowSpot_keep {w w' : World} {B : Nat} {v : Value} {fs : List SpotD} (h : RowSpot w B v fs) (hk : ∀ g, v.ownBlock = some g → w'.heap[g]? = w.heap[g]?) : RowSpot w' B v fs := by
  rcases h with ⟨rfl, rfl⟩ | ⟨g, cap, C, rfl, hB, hC, hs, hI⟩
  · exact .inl ⟨rfl, rfl⟩
  · exact .inr ⟨g, cap, C, rfl, hB, (hk g rfl).trans hC, hs, hI⟩
theorem rowSpot_below {w w' : World} {B : Nat} {v : Value} {fs : List SpotD} (h : RowSpot w B v fs) (hb : Below w.heap.size w w') : RowSpot w' B v fs :=
  rowSpot_keep h (fun g hg => hb.block g (rowSpot_lt h g hg).2)
theorem rowSpot_grown {w w' : World} {B : Nat} {v : Value} {fs : List SpotD} {r : Option Nat} (h : RowSpot w B v fs) (hb : w.grownBy w' r) (hr : ∀ g, v.ownBlock = some g → some g ≠ r) : RowSpot w' B v fs :=
  rowSpot_keep h (fun g hg => hb.block g (rowSpot_lt h g hg).2 (hr g hg))
theorem rowSpot_le {w : World} {B B' : Nat} {v : Value} {fs : List SpotD} (h : RowSpot w B v fs) (hB : B' ≤ B) : RowSpot w B' v fs := by
  rcases h with h | ⟨g, cap, C, h1, h2, h3⟩
  · exact .inl h
  · exact .inr ⟨g, cap, C, h1, by omega, h3⟩
theorem rowSpot_rows {w : World} {B n c : Nat} {a : Option Addr} {fs : List SpotD} (h : RowSpot w B (.slice a n c) fs) : SpotsAt w a fs := by
  obtain ⟨ao, cap, e, hf⟩ := rowSpot_at h
  cases e
  exact hf
theorem take_getSpot {C : Array Value} {xs : List Value} {n : Nat} (h : C.toList.take n = xs) {j : Nat} {u : Value} (hj : j < n) (hu : xs[j]? = some u) : C[j]? = some u := by
  rw [← h, List.getElem?_take_of_lt hj] at hu
  simpa using hu
theorem rowSpot_own {w : World} {B : Nat} {v : Value} {fs : List SpotD} (h : w.ownsRow B 44 4 v fs.length (cellsSpot fs)) : RowSpot w B v fs := by
  rcases h.2 with ⟨rfl, hn⟩ | ⟨g, cap, cur, rfl, hB, hC, hle, _, hs, ht⟩
  · exact .inl ⟨rfl, List.eq_nil_of_length_eq_zero hn⟩
  · refine .inr ⟨g, cap, cur, rfl, hB, hC, by omega, ?_⟩
    intro j hj _
    obtain ⟨h0, h1, h2, h3⟩ := cellsSpot_get fs j hj
    exact ⟨take_getSpot ht (by omega) h0, take_getSpot ht (by omega) h1, take_getSpot ht (by omega) h2, take_getSpot ht (by omega) h3⟩

/-- One is put behind a row of the call's own, at a step of a region that draws its order. -/
theorem step_app_spot {ops : Array Oper} {o : Oper} {a : Act} {K : Act → World → Prop} {Q : Exit → Act → World → Prop} {E : Prop} (W : World) (B : Nat) (hgd : o.guard = none) (s y : Operand)
    (ho : o.op = .call { callee := .builtin .append, args := #[s, y], argTypes := #[38, 38] }) (v : Value) (l : List SpotD) (F : SpotD) (hs : a.eval s = v)
    (hown : W.ownsRow B 44 4 v l.length (cellsSpot l)) (k : Nat) (hx : a.eval y = .slice (some ⟨k, 0, none⟩) 1 1) (hblk : W.heap[k]? = some (.cells #[.string F.key, .int .i64 F.seg, .int .i64 F.pos, .int .i64 F.seq] 44 (0, 0)))
    (hlen : l.length ≤ 1048576) (hbase : B ≤ W.heap.size)
    (h : ∀ g cap w', w'.ownsRow B 44 4 (.slice (some ⟨g, 0, none⟩) (l.length + 1) cap) (l ++ [F]).length (cellsSpot (l ++ [F])) → Below B W w' → B ≤ g → g < w'.heap.size → K (a.put o.dst (.slice (some ⟨g, 0, none⟩) (l.length + 1) cap)) w') :
    if Region.wanted o (yielded ops a.tmps) = true then Oper.wp Tryd.prog o a W K Q else E := by
  obtain ⟨i0, hi, hz0, hz1, hz2⟩ := info_parts Tryd.infoSpot
  refine step_append_lies W hgd s y 38 ho B 44 i0 (.agg #[.string ⟨#[]⟩, .int .i64 0, .int .i64 0, .int .i64 0]) 4 40 Tryd.underlying38 hi hz0 hz1 hz2 rfl (by decide) v l.length (cellsSpot l) hs hown ⟨k, 0, none⟩ 1 1 (cellsSpot [F]) hx (by rw [cellsSpot_length]; rfl)
    (fun j u hj => World.news_of_block hblk j u hj) (cellsSpot_one [F]) (by omega) (by unfold maxLen; omega) (by omega) hbase W.heap.size rfl ?_
  intro g cap w' hown' hgrow hg hgl
  have hlt := hown.lt
  refine h g cap w' ?_ ((Below.refl B W).grown hgrow hbase (fun k hk => (hlt k hk).1)) ?_ hgl
  · rw [cellsSpot_append, List.length_append]
    exact hown'
  · rcases hg with hg | rfl
    · exact (hlt g hg).1
    · exact hbase
/-- The same in a plain region. -/
theorem app_spot {ops : Array Oper} {rest : List Oper} {o : Oper} {a : Act} {Q : Exit → Act → World → Prop} (W : World) (B : Nat) (hgd : o.guard = none) (s y : Operand)
    (ho : o.op = .call { callee := .builtin .append, args := #[s, y], argTypes := #[38, 38] }) (v : Value) (l : List SpotD) (F : SpotD) (hs : a.eval s = v)
    (hown : W.ownsRow B 44 4 v l.length (cellsSpot l)) (k : Nat) (hx : a.eval y = .slice (some ⟨k, 0, none⟩) 1 1) (hblk : W.heap[k]? = some (.cells #[.string F.key, .int .i64 F.seg, .int .i64 F.pos, .int .i64 F.seq] 44 (0, 0)))
    (hlen : l.length ≤ 1048576) (hbase : B ≤ W.heap.size)
    (h : ∀ g cap w', w'.ownsRow B 44 4 (.slice (some ⟨g, 0, none⟩) (l.length + 1) cap) (l ++ [F]).length (cellsSpot (l ++ [F])) → Below B W w' → B ≤ g → g < w'.heap.size → wpList Tryd.prog ops Q rest (a.put o.dst (.slice (some ⟨g, 0, none⟩) (l.length + 1) cap)) w') :
    wpList Tryd.prog ops Q (o :: rest) a W := by
  obtain ⟨i0, hi, hz0, hz1, hz2⟩ := info_parts Tryd.infoSpot
  refine wpList_append_lies W hgd s y 38 ho B 44 i0 (.agg #[.string ⟨#[]⟩, .int .i64 0, .int .i64 0, .int .i64 0]) 4 40 Tryd.underlying38 hi hz0 hz1 hz2 rfl (by decide) v l.length (cellsSpot l) hs hown ⟨k, 0, none⟩ 1 1 (cellsSpot [F]) hx (by rw [cellsSpot_length]; rfl)
    (fun j u hj => World.news_of_block hblk j u hj) (cellsSpot_one [F]) (by omega) (by unfold maxLen; omega) (by omega) hbase W.heap.size rfl ?_
  intro g cap w' hown' hgrow hg hgl
  have hlt := hown.lt
  refine h g cap w' ?_ ((Below.refl B W).grown hgrow hbase (fun k hk => (hlt k hk).1)) ?_ hgl
  · rw [cellsSpot_append, List.length_append]
    exact hown'
  · rcases hg with hg | rfl
    · exact (hlt g hg).1
    · exact hbase

end Go.Proofs.YtijmlgdeeodehabDoor
