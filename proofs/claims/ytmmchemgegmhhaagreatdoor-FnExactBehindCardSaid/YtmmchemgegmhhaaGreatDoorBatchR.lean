/- A batch is read of a text, plainly; what the specification's reader holds in memory. -/
import Derived.Test.YtmmchemgegmhhaaGreatDoorBatchC
import Derived.Test.YtmmchemgegmhhaaGreatDoorBatchS2
namespace Go.Proofs.YtmmchemgegmhhaaGreatDoor
open Go.RowKit

/-- One change is read. -/
def rdStep (t : ByteArray) (i : Nat) (bad : Bool) : ChangeD × Nat × Bool :=
  let a := shortC t i bad
  let b := takeC t 1 a.2.1 a.2.2
  let c := shortC t b.2.1 b.2.2
  (⟨a.1, c.1, b.1.toList == [1]⟩, c.2)
/-- So many changes are read, or fewer. -/
def rdF (t : ByteArray) : Nat → Nat → Bool → List ChangeD → List ChangeD × Bool
  | 0, _, bad, acc => (acc, bad)
  | _ + 1, _, true, acc => (acc, true)
  | f + 1, i, false, acc => rdF t f (rdStep t i false).2.1 (rdStep t i false).2.2 (acc ++ [(rdStep t i false).1])
theorem rdF_bad (t : ByteArray) (f i : Nat) (acc : List ChangeD) : rdF t f i true acc = (acc, true) := by cases f <;> rfl
/-- The number, the changes and whether the text is not of the form. -/
def rdRaw (t : ByteArray) : Nat × List ChangeD × Bool :=
  let a := takeC t 1 0 false
  let b := varC t a.2.1 a.2.2
  let c := varC t b.2.1 b.2.2
  (b.1, rdF t (min c.1 100) c.2.1 c.2.2 [])
/-- Is the text one of a batch? -/
def rdOk (t : ByteArray) : Bool := !(rdRaw t).2.2 && (textOkD (rdRaw t).1 (rdRaw t).2.1 && decide (textD (rdRaw t).1 (rdRaw t).2.1 = t))
def rdSeq (t : ByteArray) : Int := if rdOk t then (rdRaw t).1 else 0
def rdChanges (t : ByteArray) : List ChangeD := if rdOk t then (rdRaw t).2.1 else []

theorem shortC_le {t : ByteArray} {i : Nat} (bad : Bool) (h : i ≤ t.size) : (shortC t i bad).2.1 ≤ t.size ∧ (shortC t i bad).1.size ≤ t.size := takeC_le _ (varC_le bad h).1

/-- What the reader holds: its answer's cells, the cursor, the batch so far and the row of its changes. -/
def StB (w wr : World) (t : ByteArray) (i : Nat) (bad : Bool) (q : Int) (v : Value) (acc : List ChangeD) : Prop :=
  wr.heap[w.heap.size]? = some (.cells #[.int .i64 0, .slice none 0 0] 96 (0, 0)) ∧ CurB wr (w.heap.size + 1) t i bad ∧ wr.heap[w.heap.size + 2]? = some (.cells #[.int .i64 q, v] 96 (0, 0)) ∧
  wr.ownsRow (w.heap.size + 3) 144 3 v acc.length (cellsChange acc) ∧ Below w.heap.size w wr
theorem heap_lt {w : World} {k : Nat} {x : Obj} (h : w.heap[k]? = some x) : k < w.heap.size := (Array.getElem?_eq_some_iff.1 h).1
theorem own_ne {w : World} {B : Nat} {e : TypeId} {s : Nat} {v : Value} {n : Nat} {xs : List Value} (h : w.ownsRow B e s v n xs) {k : Nat} (hk : k < B) : v.ownBlock = none ∨ v.ownBlock ≠ some k := by
  cases e : v.ownBlock with
  | none => exact .inl rfl
  | some g => exact .inr (fun e2 => by have := (h.lt g e).1; simp at e2; omega)
theorem stB_cur {w wr w' : World} {t : ByteArray} {i i' : Nat} {bad bad' : Bool} {q : Int} {v : Value} {acc : List ChangeD} (h : StB w wr t i bad q v acc) (hg : wr.grownBy w' (some (w.heap.size + 1))) (hc : CurB w' (w.heap.size + 1) t i' bad') : StB w w' t i' bad' q v acc := by
  obtain ⟨h1, h2, h3, h4, h5⟩ := h
  refine ⟨(hg.block _ (heap_lt h1) (by simp)).trans h1, hc, (hg.block _ (heap_lt h3) (by simp)).trans h3, h4.kept hg (own_ne h4 (by omega)), h5.grown hg h5.size (fun k hk => by simp at hk; omega)⟩
theorem stB_below {w wr w' : World} {t : ByteArray} {i : Nat} {bad : Bool} {q : Int} {v : Value} {acc : List ChangeD} (h : StB w wr t i bad q v acc) (hb : Below wr.heap.size wr w') : StB w w' t i bad q v acc := by
  obtain ⟨h1, h2, h3, h4, h5⟩ := h
  have hg := grownBy_below none hb
  exact ⟨(hg.block _ (heap_lt h1) (by simp)).trans h1, curB_below h2 hb, (hg.block _ (heap_lt h3) (by simp)).trans h3, h4.kept hg (by cases v.ownBlock <;> simp), h5.trans (hb.mono h5.size)⟩
theorem stB_far {w wr w' : World} {t : ByteArray} {i : Nat} {bad : Bool} {q : Int} {v : Value} {acc : List ChangeD} {k : Nat} (h : StB w wr t i bad q v acc) (hk : w.heap.size + 3 ≤ k) (hne : v.ownBlock ≠ some k) (hg : wr.grownBy w' (some k)) : StB w w' t i bad q v acc := by
  obtain ⟨h1, h2, h3, h4, h5⟩ := h
  exact ⟨(hg.block _ (heap_lt h1) (by simp; omega)).trans h1, (hg.block _ (heap_lt h2) (by simp; omega)).trans h2, (hg.block _ (heap_lt h3) (by simp; omega)).trans h3, h4.kept hg (.inr hne), h5.grown hg h5.size (fun k' hk' => by simp at hk'; omega)⟩
theorem stB_seq {w wr : World} {t : ByteArray} {i : Nat} {bad : Bool} {q : Int} {v : Value} {acc : List ChangeD} (h : StB w wr t i bad q v acc) (q' : Int) : StB w (wr.setCell ⟨w.heap.size + 2, 0, none⟩ (.int .i64 q')) t i bad q' v acc := by
  obtain ⟨h1, h2, h3, h4, h5⟩ := h
  have hg : wr.grownBy (wr.setCell ⟨w.heap.size + 2, 0, none⟩ (.int .i64 q')) (some (w.heap.size + 2)) := grownBy_store (World.grownBy.refl _ _) 0 _
  exact ⟨(hg.block _ (heap_lt h1) (by simp)).trans h1, (hg.block _ (heap_lt h2) (by simp)).trans h2, (heap_setCell_same _ _ _ _ _ _ h3).trans rfl, h4.kept hg (own_ne h4 (by omega)), h5.grown hg h5.size (fun k hk => by simp at hk; omega)⟩
theorem stB_row {w wr w5 : World} {t : ByteArray} {i : Nat} {bad : Bool} {q : Int} {v v' : Value} {acc acc' : List ChangeD} (h : StB w wr t i bad q v acc) (hb : Below (w.heap.size + 3) wr w5) (ho : w5.ownsRow (w.heap.size + 3) 144 3 v' acc'.length (cellsChange acc')) : StB w (w5.setCell ⟨w.heap.size + 2, 1, none⟩ v') t i bad q v' acc' := by
  obtain ⟨h1, h2, h3, h4, h5⟩ := h
  have hg : w5.grownBy (w5.setCell ⟨w.heap.size + 2, 1, none⟩ v') (some (w.heap.size + 2)) := grownBy_store (World.grownBy.refl _ _) 1 _
  have k1 := (hb.block (w.heap.size) (by omega)).trans h1
  have k2 := (hb.block (w.heap.size + 1) (by omega)).trans h2
  have k3 := (hb.block (w.heap.size + 2) (by omega)).trans h3
  have k5 : Below w.heap.size w w5 := h5.trans (hb.mono (by omega))
  exact ⟨(hg.block _ (heap_lt k1) (by simp)).trans k1, (hg.block _ (heap_lt k2) (by simp)).trans k2, (heap_setCell_same _ _ _ _ _ _ k3).trans rfl, ho.kept hg (own_ne ho (by omega)), k5.grown hg k5.size (fun k hk => by simp at hk; omega)⟩
/-- What the walk reads of it. -/
theorem stB_cells {w wr : World} {t : ByteArray} {i : Nat} {bad : Bool} {q : Int} {v : Value} {acc : List ChangeD} (h : StB w wr t i bad q v acc) :
    (wr.cell? ⟨w.heap.size + 2, 0, none⟩ = some (.int .i64 q) ∧ wr.cell? ⟨w.heap.size + 2, 1, none⟩ = some v ∧ wr.frozen? ⟨w.heap.size + 2, 0, none⟩ = false ∧ wr.frozen? ⟨w.heap.size + 2, 1, none⟩ = false) ∧
    (wr.cell? ⟨w.heap.size, 0, none⟩ = some (.int .i64 0) ∧ wr.cell? ⟨w.heap.size, 1, none⟩ = some (.slice none 0 0) ∧ wr.frozen? ⟨w.heap.size, 0, none⟩ = false ∧ wr.frozen? ⟨w.heap.size, 1, none⟩ = false) ∧
    wr.cell? ⟨w.heap.size + 1, 2, none⟩ = some (.bool bad) := by
  obtain ⟨h1, h2, h3, h4, h5⟩ := h
  exact ⟨⟨(cell_of_row wr _ 0 _ _ (0, 0) h3).trans rfl, (cell_of_row wr _ 1 _ _ (0, 0) h3).trans rfl, frozen_of_row wr _ 0 _ _ h3, frozen_of_row wr _ 1 _ _ h3⟩,
    ⟨(cell_of_row wr _ 0 _ _ (0, 0) h1).trans rfl, (cell_of_row wr _ 1 _ _ (0, 0) h1).trans rfl, frozen_of_row wr _ 0 _ _ h1, frozen_of_row wr _ 1 _ _ h1⟩, (curB_cells h2).2.2⟩
end Go.Proofs.YtmmchemgegmhhaaGreatDoor
