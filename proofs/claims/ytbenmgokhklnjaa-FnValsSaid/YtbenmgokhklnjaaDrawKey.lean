/- A drawn key of a change. -/
import Derived.Test.YtbenmgokhklnjaaDrawNm
namespace Go.Proofs.Ytbenmgokhklnjaa
open Go.RowKit

def keysL : List ByteArray := [⟨#[97]⟩, ⟨#[98]⟩, ⟨#[99]⟩, ⟨#[100]⟩, ⟨#[107, 101, 121]⟩, ⟨#[107, 107]⟩]
theorem keys_cells (w : World) : ∀ j z, keysL[j]? = some z → (w.alloc (.cells #[.string ⟨#[97]⟩, .string ⟨#[98]⟩, .string ⟨#[99]⟩, .string ⟨#[100]⟩, .string ⟨#[107, 101, 121]⟩, .string ⟨#[107, 107]⟩] 9)).cell? ⟨w.heap.size, j, none⟩ = some (.string z) := by
  intro j z hz
  refine (World.cell?_alloc_mark w (keysL.map Value.string).toArray 9 (0, 0) j).trans ?_
  rw [List.getElem?_toArray, List.getElem?_map, hz]
  rfl
theorem keys_small : ∀ z ∈ keysL, 1 ≤ z.size ∧ z.size ≤ 8 := by
  intro z hz
  simp only [keysL, List.mem_cons, List.not_mem_nil, or_false] at hz
  rcases hz with rfl | rfl | rfl | rfl | rfl | rfl <;> decide

end Go.Proofs.Ytbenmgokhklnjaa
