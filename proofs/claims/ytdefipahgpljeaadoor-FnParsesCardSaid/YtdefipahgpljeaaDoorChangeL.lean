/- Rows of Change as the laws hold them (written by tools/gen_struct.py). -/
import Derived.Test.YtdefipahgpljeaaDoorBase
import Derived.Test.YtdefipahgpljeaaDoorMarkText
import Derived.Laws.MakeOwn
import Derived.Lib.SmallJoins
import Derived.OpenShut
namespace Go.Proofs.YtdefipahgpljeaaDoor
open Go.RowKit

structure ChangeD where
  key : ByteArray
  value : ByteArray
  gone : Bool

/-- A row of these in memory. -/
def ChangesAt (w : World) (ao : Option Addr) (fs : List ChangeD) : Prop := ∀ j (h : j < fs.length), ∃ b off : Nat, ao = some ⟨b, off, none⟩ ∧ b < w.heap.size ∧
  w.cell? ⟨b, off + j * 3, none⟩ = some (.string fs[j].key) ∧ w.cell? ⟨b, off + j * 3 + 1, none⟩ = some (.string fs[j].value) ∧ w.cell? ⟨b, off + j * 3 + 2, none⟩ = some (.bool fs[j].gone)
theorem changesAt_keep {w w' : World} {ao : Option Addr} {fs : List ChangeD} (h : ChangesAt w ao fs) (hb : Below w.heap.size w w') : ChangesAt w' ao fs := by
  intro j hj
  obtain ⟨b, off, h1, h2, h3, h4, h5⟩ := h j hj
  exact ⟨b, off, h1, Nat.lt_of_lt_of_le h2 hb.size, (hb.cell (p := ⟨b, off + j * 3, none⟩) h2).trans h3, (hb.cell (p := ⟨b, off + j * 3 + 1, none⟩) h2).trans h4, (hb.cell (p := ⟨b, off + j * 3 + 2, none⟩) h2).trans h5⟩

/-- What one leaves of a measure; below 0: it is too great. -/
def szChangeD (A : ChangeD) (n : Int) : Int := if n < (A.key.size : Int) then -1 else if n < (A.key.size : Int) + (A.value.size : Int) then -1 else n - A.key.size - A.value.size

theorem szChangeD_small {A : ChangeD} {n : Int} (h0 : n ≤ 1048576) (h : 0 ≤ szChangeD A n) : A.key.size ≤ 1048576 ∧ A.value.size ≤ 1048576 := by
  unfold szChangeD at h
  repeat' split at h
  all_goals omega

theorem szChangeD_le (A : ChangeD) (n : Int) (h : 0 ≤ n) : szChangeD A n ≤ n := by
  unfold szChangeD
  repeat' split
  all_goals omega

/-- What a row leaves of a measure. -/
def szChangeDs : List ChangeD → Int → Int
  | [], n => n
  | A :: r, n => if szChangeD A n < 0 then -1 else szChangeDs r (szChangeD A n)

theorem szChangeDs_small : ∀ (fs : List ChangeD) (n : Int), n ≤ 1048576 → 0 ≤ n → 0 ≤ szChangeDs fs n → ∀ A ∈ fs, A.key.size ≤ 1048576 ∧ A.value.size ≤ 1048576
  | [], _, _, _, _, _, h => absurd h List.not_mem_nil
  | F :: r, n, h0, h1, h2, A, hA => by
    unfold szChangeDs at h2
    split at h2
    · omega
    · rcases List.mem_cons.1 hA with rfl | hA
      · exact szChangeD_small h0 (by omega)
      · have := szChangeD_le F n h1
        exact szChangeDs_small r _ (by omega) (by omega) h2 A hA
theorem szChangeDs_le : ∀ (fs : List ChangeD) (n : Int), 0 ≤ n → szChangeDs fs n ≤ n
  | [], _, _ => Int.le_refl _
  | F :: r, n, h => by
    unfold szChangeDs
    split
    · omega
    · have := szChangeD_le F n h
      have := szChangeDs_le r (szChangeD F n) (by omega)
      omega

/-- The first k of these stand in these cells. -/
def ChangesIn (C : Array Value) (fs : List ChangeD) (k : Nat) : Prop := ∀ j (h : j < fs.length), j < k → C[j * 3]? = some (.string fs[j].key) ∧ C[j * 3 + 1]? = some (.string fs[j].value) ∧ C[j * 3 + 2]? = some (.bool fs[j].gone)
/-- One is put into its cells. -/
def putChange (C : Array Value) (k : Nat) (A : ChangeD) : Array Value := ((C.setIfInBounds (k * 3) (.string A.key)).setIfInBounds (k * 3 + 1) (.string A.value)).setIfInBounds (k * 3 + 2) (.bool A.gone)
theorem putChange_size (C : Array Value) (k : Nat) (A : ChangeD) : (putChange C k A).size = C.size := by simp [putChange]
theorem changesIn_put {C : Array Value} {fs : List ChangeD} {k : Nat} (h : ChangesIn C fs k) (hk : k < fs.length) (hs : fs.length * 3 ≤ C.size) : ChangesIn (putChange C k fs[k]) fs (k + 1) := by
  intro j hj hjk
  unfold putChange
  by_cases e : j = k
  · subst e
    refine ⟨?_, ?_, ?_⟩ <;> simp [Array.getElem?_setIfInBounds] <;> omega
  · obtain ⟨h0, h1, h2⟩ := h j hj (by omega)
    refine ⟨?_, ?_, ?_⟩
    · rw [Array.getElem?_setIfInBounds_ne (by omega), Array.getElem?_setIfInBounds_ne (by omega), Array.getElem?_setIfInBounds_ne (by omega)]; exact h0
    · rw [Array.getElem?_setIfInBounds_ne (by omega), Array.getElem?_setIfInBounds_ne (by omega), Array.getElem?_setIfInBounds_ne (by omega)]; exact h1
    · rw [Array.getElem?_setIfInBounds_ne (by omega), Array.getElem?_setIfInBounds_ne (by omega), Array.getElem?_setIfInBounds_ne (by omega)]; exact h2
theorem change_stored {w : World} {g k : Nat} {C : Array Value} {t : TypeId} (A : ChangeD) (h : w.heap[g]? = some (.cells C t (0, 0))) :
    (((w.setCell ⟨g, k * 3, none⟩ (.string A.key)).setCell ⟨g, k * 3 + 1, none⟩ (.string A.value)).setCell ⟨g, k * 3 + 2, none⟩ (.bool A.gone)).heap[g]? = some (.cells (putChange C k A) t (0, 0)) := heap_setCell_same _ g _ _ t _ (heap_setCell_same _ g _ _ t _ (heap_setCell_same w g _ C t _ h))
theorem changesAt_own {w : World} {g : Nat} {C : Array Value} {t : TypeId} {fs : List ChangeD} (h : w.heap[g]? = some (.cells C t (0, 0))) (hC : ChangesIn C fs fs.length) : ChangesAt w (some ⟨g, 0, none⟩) fs := by
  intro j hj
  obtain ⟨h0, h1, h2⟩ := hC j hj hj
  have hg : g < w.heap.size := (Array.getElem?_eq_some_iff.1 h).1
  refine ⟨g, 0, rfl, hg, ?_, ?_, ?_⟩
  · rw [Nat.zero_add, cell_of_row w g _ C t (0, 0) h, h0]
  · rw [Nat.zero_add, cell_of_row w g _ C t (0, 0) h, h1]
  · rw [Nat.zero_add, cell_of_row w g _ C t (0, 0) h, h2]

/-- The one that is marked from k on. -/
def markChangeD (k : Nat) : ChangeD := ⟨⟨(mk (k)).toArray⟩, ⟨(mk (k + 1)).toArray⟩, (((k + 2 : Nat) : Int) % 3 == 0)⟩
/-- n of them, marked from k on. -/
def markChangeDs (k n : Nat) : List ChangeD := (List.range n).map (fun j => markChangeD (k + 3 * j))
theorem markChangeDs_length (k n : Nat) : (markChangeDs k n).length = n := by simp [markChangeDs]
theorem markChangeDs_get (k n j : Nat) (h : j < (markChangeDs k n).length) : (markChangeDs k n)[j] = markChangeD (k + 3 * j) := by simp [markChangeDs]
/-- The cells of a row. -/
def cellsChange : List ChangeD → List Value
  | [] => []
  | A :: r => .string A.key :: .string A.value :: .bool A.gone :: cellsChange r
theorem cellsChange_append : ∀ (a b : List ChangeD), cellsChange (a ++ b) = cellsChange a ++ cellsChange b
  | [], _ => rfl
  | A :: r, b => by simp [cellsChange, cellsChange_append r b]
theorem cellsChange_length : ∀ a : List ChangeD, (cellsChange a).length = a.length * 3
  | [] => rfl
  | A :: r => by simp [cellsChange, cellsChange_length r]; omega
theorem cellsChange_one : ∀ (a : List ChangeD), ∀ u ∈ cellsChange a, u.oneCell' = true
  | [], u, h => absurd h List.not_mem_nil
  | A :: r, u, h => by
    simp only [cellsChange, List.mem_cons] at h
    rcases h with rfl | rfl | rfl | h
    · rfl
    · rfl
    · rfl
    · exact cellsChange_one r u h
theorem cellsChange_get : ∀ (a : List ChangeD) (j : Nat) (h : j < a.length), (cellsChange a)[j * 3]? = some (.string a[j].key) ∧ (cellsChange a)[j * 3 + 1]? = some (.string a[j].value) ∧ (cellsChange a)[j * 3 + 2]? = some (.bool a[j].gone)
  | [], _, h => absurd h (by simp)
  | A :: r, 0, _ => by simp [cellsChange]
  | A :: r, j + 1, h => by
    have := cellsChange_get r j (by simpa using h)
    have e : (j + 1) * 3 = j * 3 + 3 := by omega
    simp only [cellsChange, e]
    simpa using this

theorem take_getChange {C : Array Value} {xs : List Value} {n : Nat} (h : C.toList.take n = xs) {j : Nat} {u : Value} (hj : j < n) (hu : xs[j]? = some u) : C[j]? = some u := by
  rw [← h, List.getElem?_take_of_lt hj] at hu
  simpa using hu
end Go.Proofs.YtdefipahgpljeaaDoor
