/- Some drawn changes (written by tools/gen_drawl.py). -/
import Derived.Test.YtdefipahgpljeaaDoorDrawKey
import Derived.Test.YtdefipahgpljeaaDoorChangeL
import Derived.Test.YtdefipahgpljeaaDoorTurnQ
import Derived.Deep.RegionHeld3
import Derived.Deep.RegionLaw
import Derived.Deep.CutRange
namespace Go.Proofs.YtdefipahgpljeaaDoor
open Go.RowKit

theorem blk_lt {w : World} {k : Nat} {x : Obj} (h : w.heap[k]? = some x) : k < w.heap.size := (Array.getElem?_eq_some_iff.1 h).1
theorem cur_far {w0 w : World} {g X : Nat} {ao : Option Addr} {len cap j : Nat} {u : Value} (h : CurAt w0 w g ao len cap) (hX : g < X) : CurAt w0 (w.setCell ⟨X, j, none⟩ u) g ao len cap := by
  obtain ⟨c1, c2, i, z, T, c3, c4⟩ := h
  exact ⟨c1.setCell (p := ⟨X, j, none⟩) (by show w0.heap.size ≤ X; omega) u, c2, i, z, T, c3, (Below.heap_setCell _ _ _ _ (by intro e; simp only at e; omega)).trans c4⟩
theorem grown_far {a b : World} {r : Option Nat} (h : a.grownBy b r) {p : Nat} (hp : a.heap.size ≤ p) (j : Nat) (u : Value) : a.grownBy (b.setCell ⟨p, j, none⟩ u) r :=
  ⟨h.os, h.tape, h.output, by have := h.size; simpa [World.setCell] using this, fun k hk hne => (Below.heap_setCell _ _ _ _ (by intro e; simp only at e; omega)).trans (h.block k hk hne)⟩
theorem put_box {w : World} {X : Nat} {a b c x y z : Value} {T : TypeId} (h : w.heap[X]? = some (.cells #[a, b, c] T (0, 0))) : (((w.setCell ⟨X, 0, none⟩ x).setCell ⟨X, 1, none⟩ y).setCell ⟨X, 2, none⟩ z).heap[X]? = some (.cells #[x, y, z] T (0, 0)) :=
  (heap_setCell_same _ _ _ _ _ _ ((heap_setCell_same _ _ _ _ _ _ ((heap_setCell_same _ _ _ _ _ _ h).trans rfl)).trans rfl)).trans rfl
theorem keys_row : (#[.string ⟨#[97]⟩, .string ⟨#[98]⟩, .string ⟨#[99]⟩, .string ⟨#[100]⟩, .string ⟨#[107, 101, 121]⟩, .string ⟨#[107, 107]⟩] : Array Value) = (keysL.map Value.string).toArray := rfl
end Go.Proofs.YtdefipahgpljeaaDoor
