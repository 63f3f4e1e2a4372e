/- The specification's ReadHint. -/
import Derived.Test.YtjfagmjajpnacamDoorHintS0
import Derived.Test.YtjfagmjajpnacamDoorHintS1
namespace Go.Proofs.YtjfagmjajpnacamDoor
open Go.RowKit
theorem specReadHint_any (s : ByteArray) (w : World) (hs : s.size ≤ 1048576) :
    Calls Tryd.prog 4 #[.string s] w fun e w' => (∃ v, e = .returned (.tuple #[v, .bool (hintOk s)]) ∧ RowSpot w' w.heap.size v (hintDir s)) ∧ Below w.heap.size w w' :=
  specReadHint_of specHintText_any s w hs
end Go.Proofs.YtjfagmjajpnacamDoor
