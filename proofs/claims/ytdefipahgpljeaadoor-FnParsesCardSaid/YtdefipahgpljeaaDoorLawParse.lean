/- The law on ParseRequest: both sides tell the same; what is told lies in memory of its own, and a further call leaves it alone. -/
import Derived.Test.YtdefipahgpljeaaDoorReqS4
import Derived.Test.YtdefipahgpljeaaDoorTxtL
namespace Go.Proofs.YtdefipahgpljeaaDoor
open Go.RowKit

/-- What one call leaves, in letters. -/
def TellsR (c p : Nat) (L : List ByteArray) (w : World) (e : Ending) (w' : World) : Prop :=
  Below w.heap.size w w' ∧ ∃ ao cap, e = .returned (.tuple #[.slice ao L.length cap, .int .i64 (p : Int), .int .i64 (c : Int)]) ∧ RowText w' w.heap.size (.slice ao L.length cap) L
theorem tells_of {s : ByteArray} {w : World} {e : Ending} {w' : World} (h : ParseLeft s w e w') : TellsR (parse s).1 (parse s).2.1 (parse s).2.2 w e w' := by
  obtain ⟨hb, v, he, hv⟩ := h
  obtain ⟨ao, cap, rfl, _⟩ := rowText_at hv
  exact ⟨hb, ao, cap, he, hv⟩

end Go.Proofs.YtdefipahgpljeaaDoor
