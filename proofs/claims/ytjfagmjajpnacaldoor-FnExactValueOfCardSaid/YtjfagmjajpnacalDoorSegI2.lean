/- The program's ReadSegment. -/
import Derived.Test.YtjfagmjajpnacalDoorSegI1
namespace Go.Proofs.YtjfagmjajpnacalDoor
open Go.RowKit Go.Shelf

end Go.Proofs.YtjfagmjajpnacalDoor
