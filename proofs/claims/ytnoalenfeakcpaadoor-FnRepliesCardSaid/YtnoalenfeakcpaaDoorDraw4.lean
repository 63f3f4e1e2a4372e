/- More of a draw: many bytes of one kind. -/
import Derived.Test.YtnoalenfeakcpaaDoorDraw3
namespace Go.Proofs.YtnoalenfeakcpaaDoor
open Go.RowKit

theorem made_bytes (n : Nat) : (madeCells (Value.int .u8 0).cells (n * 1)).toList = (List.replicate n (0 : UInt8)).map bv := by
  show (madeCells #[.int .u8 0] (n * 1)).toList = _
  rw [toList_madeCells_one, Nat.mul_one, List.map_replicate]
  rfl

end Go.Proofs.YtnoalenfeakcpaaDoor
