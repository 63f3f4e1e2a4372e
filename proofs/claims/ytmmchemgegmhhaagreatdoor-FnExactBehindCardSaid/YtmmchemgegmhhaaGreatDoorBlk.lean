/- What a block holds, carried on from world to world. -/
import Derived.Test.YtmmchemgegmhhaaGreatDoorRowF
namespace Go.Proofs.YtmmchemgegmhhaaGreatDoor
open Go.RowKit

theorem blk_below {w w' : World} {b : Nat} {O : Obj} (h : w.heap[b]? = some O) (hb : Below w.heap.size w w') : w'.heap[b]? = some O := (hb.block b (Array.getElem?_eq_some_iff.1 h).1).trans h
theorem blk_grown {w w' : World} {b : Nat} {O : Obj} {r : Option Nat} (h : w.heap[b]? = some O) (hg : w.grownBy w' r) (hne : some b ≠ r) : w'.heap[b]? = some O := (hg.block b (Array.getElem?_eq_some_iff.1 h).1 hne).trans h
theorem box_of {w : World} {b : Nat} {v : Value} {t : TypeId} (h : w.heap[b]? = some (.cells #[v] t (0, 0))) : w.cell? ⟨b, 0, none⟩ = some v := (cell_of_row w b 0 _ _ (0, 0) h).trans rfl
theorem rowF_files {w : World} {B n c : Nat} {a : Option Addr} {fs : List FileD} (h : RowF w B (.slice a n c) fs) : FilesAt w a fs := by
  obtain ⟨ao, cap, e, hf⟩ := rowF_at h
  cases e
  exact hf
theorem own_slice {g n c a b : Nat} (ha : a ≤ g) (hb : g < b) : ∀ k, (Value.slice (some ⟨g, 0, none⟩) n c).ownBlock = some k → a ≤ k ∧ k < b ∧ k = g := by
  intro k h
  have e : g = k := by simpa [Value.ownBlock] using h
  subst e
  exact ⟨ha, hb, rfl⟩

/-- What a call that answers a disk leaves: its box and its row. -/
def GotF (W wx : World) (β : Nat) (v : Value) (R : List FileD) : Prop :=
  wx.heap[β]? = some (.cells #[v] 27 (0, 0)) ∧ RowF wx W.heap.size v R ∧ (∀ j, v.ownBlock = some j → W.heap.size ≤ j ∧ j < wx.heap.size ∧ j ≠ β) ∧ Below W.heap.size W wx ∧ W.heap.size ≤ β ∧ β < wx.heap.size

theorem got_new {W wf : World} {B : Nat} {v : Value} {R : List FileD} (hrow : RowF wf B v R) (hB : W.heap.size ≤ B) (hb : Below W.heap.size W wf) : GotF W (wf.alloc (.cells #[v] 27)) wf.heap.size v R :=
  ⟨heap_alloc_new _ _, rowF_le (rowF_below hrow ((Below.refl _ _).alloc (Nat.le_refl _) _)) hB, fun j hj => by have h := rowF_lt hrow j hj; exact ⟨by omega, by simp; omega, by omega⟩, hb.alloc hb.size _, hb.size, by simp⟩

theorem got_old {W wf : World} {B β : Nat} {v : Value} {R : List FileD} (hrow : RowF wf B v R) (hB : β < B) (hW : W.heap.size ≤ β) (hb : Below W.heap.size W wf) (hq : wf.heap[β]? = some (.cells #[.slice none 0 0] 27 (0, 0))) : GotF W (wf.setCell ⟨β, 0, none⟩ v) β v R := by
  have hlt := (Array.getElem?_eq_some_iff.1 hq).1
  have hb' := hb.setCell (p := ⟨β, 0, none⟩) hW v
  have hsz : (wf.setCell ⟨β, 0, none⟩ v).heap.size = wf.heap.size := by simp [World.setCell]
  refine ⟨(heap_setCell_same _ _ _ _ _ _ hq).trans rfl, rowF_le (rowF_grown hrow (grownBy_store (World.grownBy.refl _ _) 0 _) (fun g hg e => by have h1 := (rowF_lt hrow g hg).1; cases e; omega)) (by omega), fun j hj => ?_, hb', hW, by rw [hsz]; exact hlt⟩
  have h := rowF_lt hrow j hj
  exact ⟨by omega, by rw [hsz]; omega, by omega⟩
end Go.Proofs.YtmmchemgegmhhaaGreatDoor
