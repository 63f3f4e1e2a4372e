/- The program's ReadSegment. -/
import Derived.Test.YtmmchemgegmhhaaGreatDoorSegI1
namespace Go.Proofs.YtmmchemgegmhhaaGreatDoor
open Go.RowKit Go.Shelf

end Go.Proofs.YtmmchemgegmhhaaGreatDoor
