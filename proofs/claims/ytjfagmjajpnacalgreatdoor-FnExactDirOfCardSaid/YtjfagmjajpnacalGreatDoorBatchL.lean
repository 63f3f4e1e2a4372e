/- Batches as the laws hold them. -/
import Derived.Test.YtjfagmjajpnacalGreatDoorChangeL
namespace Go.Proofs.YtjfagmjajpnacalGreatDoor
open Go.RowKit

end Go.Proofs.YtjfagmjajpnacalGreatDoor
