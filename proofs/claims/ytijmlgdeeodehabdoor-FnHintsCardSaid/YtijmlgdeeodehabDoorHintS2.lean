/- The specification's ReadHint. -/
import Derived.Test.YtijmlgdeeodehabDoorHintS0
import Derived.Test.YtijmlgdeeodehabDoorHintS1
namespace Go.Proofs.YtijmlgdeeodehabDoor
open Go.RowKit
theorem specReadHint_any (s : ByteArray) (w : World) (hs : s.size ≤ 1048576) :
    Calls Tryd.prog 17 #[.string s] w fun e w' => (∃ v, e = .returned (.tuple #[v, .bool (hintOk s)]) ∧ RowSpot w' w.heap.size v (hintDir s)) ∧ Below w.heap.size w w' :=
  specReadHint_of specHintText_any s w hs
end Go.Proofs.YtijmlgdeeodehabDoor
