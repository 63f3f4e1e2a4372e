/- The program's ReadSegment. -/
import Derived.Test.YtijmlgdeeodehalDoorSegI1
namespace Go.Proofs.YtijmlgdeeodehalDoor
open Go.RowKit Go.Shelf

end Go.Proofs.YtijmlgdeeodehalDoor
