/- What a call that answers a disk leaves: its box and its row. -/
import Derived.Test.YtpldafobdjjibaaLawD0
import Derived.Test.YtpldafobdjjibaaBlk
namespace Go.Proofs.Ytpldafobdjjibaa
open Go.RowKit

def GotF (W wx : World) (β : Nat) (v : Value) (R : List FileD) : Prop :=
  wx.heap[β]? = some (.cells #[v] 26 (0, 0)) ∧ RowF wx W.heap.size v R ∧ (∀ j, v.ownBlock = some j → W.heap.size ≤ j ∧ j < wx.heap.size ∧ j ≠ β) ∧ Below W.heap.size W wx ∧ W.heap.size ≤ β ∧ β < wx.heap.size

theorem got_new {W wf : World} {B : Nat} {v : Value} {R : List FileD} (hrow : RowF wf B v R) (hB : W.heap.size ≤ B) (hb : Below W.heap.size W wf) : GotF W (wf.alloc (.cells #[v] 26)) wf.heap.size v R :=
  ⟨heap_alloc_new _ _, rowF_le (rowF_below hrow ((Below.refl _ _).alloc (Nat.le_refl _) _)) hB, fun j hj => by have h := rowF_lt hrow j hj; exact ⟨by omega, by simp; omega, by omega⟩, hb.alloc hb.size _, hb.size, by simp⟩

theorem got_old {W wf : World} {B β : Nat} {v : Value} {R : List FileD} (hrow : RowF wf B v R) (hB : β < B) (hW : W.heap.size ≤ β) (hb : Below W.heap.size W wf) (hq : wf.heap[β]? = some (.cells #[.slice none 0 0] 26 (0, 0))) : GotF W (wf.setCell ⟨β, 0, none⟩ v) β v R := by
  have hlt := (Array.getElem?_eq_some_iff.1 hq).1
  have hb' := hb.setCell (p := ⟨β, 0, none⟩) hW v
  have hsz : (wf.setCell ⟨β, 0, none⟩ v).heap.size = wf.heap.size := by simp [World.setCell]
  refine ⟨(heap_setCell_same _ _ _ _ _ _ hq).trans rfl, rowF_le (rowF_grown hrow (grownBy_store (World.grownBy.refl _ _) 0 _) (fun g hg e => by have h1 := (rowF_lt hrow g hg).1; cases e; omega)) (by omega), fun j hj => ?_, hb', hW, by rw [hsz]; exact hlt⟩
  have h := rowF_lt hrow j hj
  exact ⟨by omega, by rw [hsz]; omega, by omega⟩
end Go.Proofs.Ytpldafobdjjibaa
