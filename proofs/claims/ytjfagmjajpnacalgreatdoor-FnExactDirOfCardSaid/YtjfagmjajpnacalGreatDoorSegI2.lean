/- The program's ReadSegment. -/
import Derived.Test.YtjfagmjajpnacalGreatDoorSegI1
namespace Go.Proofs.YtjfagmjajpnacalGreatDoor
open Go.RowKit Go.Shelf

end Go.Proofs.YtjfagmjajpnacalGreatDoor
