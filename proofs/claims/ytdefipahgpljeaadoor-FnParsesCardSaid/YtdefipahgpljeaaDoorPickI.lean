/- One number of a list is drawn; a long text. -/
import Derived.Test.YtdefipahgpljeaaDoorDraw4
namespace Go.Proofs.YtdefipahgpljeaaDoor
open Go.RowKit

theorem ints_cells {w : World} {b : Nat} {T : TypeId} (zs : List Int) (h : w.heap[b]? = some (.cells (zs.map (Value.int .i64)).toArray T (0, 0))) : ∀ j z, zs[j]? = some z → w.cell? ⟨b, j, none⟩ = some (.int .i64 z) := by
  intro j z hz
  rw [cell_of_row w b j _ _ (0, 0) h, List.getElem?_toArray, List.getElem?_map, hz]
  rfl
theorem texts_cells {w : World} {b : Nat} {T : TypeId} (zs : List ByteArray) (h : w.heap[b]? = some (.cells (zs.map Value.string).toArray T (0, 0))) : ∀ j z, zs[j]? = some z → w.cell? ⟨b, j, none⟩ = some (.string z) := by
  intro j z hz
  rw [cell_of_row w b j _ _ (0, 0) h, List.getElem?_toArray, List.getElem?_map, hz]
  rfl

/-- Many bytes of one kind, by a number of any form. -/
theorem long_int (n x : Int) (w : World) (h0 : 0 ≤ n) (hn : n ≤ 1000000) (hx0 : 0 ≤ x) (hx : x < 256) :
    Calls Tryd.prog 38 #[.int .i64 n, .int .u8 x] w fun e w' => ∃ T : ByteArray, e = .returned (.string T) ∧ T.size = n.toNat ∧ Below w.heap.size w w' := by
  obtain ⟨m, rfl⟩ := Int.eq_ofNat_of_zero_le h0
  obtain ⟨y, rfl⟩ := Int.eq_ofNat_of_zero_le hx0
  refine (long_any m y w (by omega) (by omega)).mono ?_
  rintro e w' ⟨l, rfl, hl, hb⟩
  exact ⟨⟨l.toArray⟩, rfl, by show l.length = _; omega, hb⟩
end Go.Proofs.YtdefipahgpljeaaDoor
