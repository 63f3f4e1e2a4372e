/- The program's ReadSegment. -/
import Derived.Test.YtijmlgdeeodehalGreatDoorSegI1
namespace Go.Proofs.YtijmlgdeeodehalGreatDoor
open Go.RowKit Go.Shelf

end Go.Proofs.YtijmlgdeeodehalGreatDoor
