/- The program's ReadSegment. -/
import Derived.Test.YtijmlgdeeodehamGreatDoorSegI1
namespace Go.Proofs.YtijmlgdeeodehamGreatDoor
open Go.RowKit Go.Shelf

end Go.Proofs.YtijmlgdeeodehamGreatDoor
