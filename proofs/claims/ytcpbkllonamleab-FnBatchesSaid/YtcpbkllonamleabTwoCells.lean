/- A struct of two cells in memory. -/
import Derived.Test.YtcpbkllonamleabBase
namespace Go.Proofs.Ytcpbkllonamleab
open Go.RowKit

theorem two_new (w : World) (a b : Value) (t : TypeId) : (w.alloc (.cells #[a, b] t)).cell? ⟨w.heap.size, 0, none⟩ = some a ∧ (w.alloc (.cells #[a, b] t)).cell? ⟨w.heap.size, 1, none⟩ = some b :=
  ⟨(cell_of_row _ _ 0 _ _ (0, 0) (heap_alloc_new w _)).trans rfl, (cell_of_row _ _ 1 _ _ (0, 0) (heap_alloc_new w _)).trans rfl⟩
theorem two_keep {w w' : World} {p n : Nat} {a b : Value} (h : w.cell? ⟨p, 0, none⟩ = some a ∧ w.cell? ⟨p, 1, none⟩ = some b) (hb : Below n w w') (hlt : p < n) : w'.cell? ⟨p, 0, none⟩ = some a ∧ w'.cell? ⟨p, 1, none⟩ = some b :=
  ⟨(hb.cell (p := ⟨p, 0, none⟩) hlt).trans h.1, (hb.cell (p := ⟨p, 1, none⟩) hlt).trans h.2⟩
end Go.Proofs.Ytcpbkllonamleab
