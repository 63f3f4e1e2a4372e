/- What a block holds, carried on from world to world. -/
import Derived.Test.YtpldafobdjjibaaRowF
namespace Go.Proofs.Ytpldafobdjjibaa
open Go.RowKit

theorem blk_below {w w' : World} {b : Nat} {O : Obj} (h : w.heap[b]? = some O) (hb : Below w.heap.size w w') : w'.heap[b]? = some O := (hb.block b (Array.getElem?_eq_some_iff.1 h).1).trans h
theorem blk_grown {w w' : World} {b : Nat} {O : Obj} {r : Option Nat} (h : w.heap[b]? = some O) (hg : w.grownBy w' r) (hne : some b ≠ r) : w'.heap[b]? = some O := (hg.block b (Array.getElem?_eq_some_iff.1 h).1 hne).trans h
theorem box_of {w : World} {b : Nat} {v : Value} {t : TypeId} (h : w.heap[b]? = some (.cells #[v] t (0, 0))) : w.cell? ⟨b, 0, none⟩ = some v := (cell_of_row w b 0 _ _ (0, 0) h).trans rfl
theorem rowF_files {w : World} {B n c : Nat} {a : Option Addr} {fs : List FileD} (h : RowF w B (.slice a n c) fs) : FilesAt w a fs := by
  obtain ⟨ao, cap, e, hf⟩ := rowF_at h
  cases e
  exact hf
theorem own_slice {g n c a b : Nat} (ha : a ≤ g) (hb : g < b) : ∀ k, (Value.slice (some ⟨g, 0, none⟩) n c).ownBlock = some k → a ≤ k ∧ k < b ∧ k = g := by
  intro k h
  have e : g = k := by simpa [Value.ownBlock] using h
  subst e
  exact ⟨ha, hb, rfl⟩
end Go.Proofs.Ytpldafobdjjibaa
