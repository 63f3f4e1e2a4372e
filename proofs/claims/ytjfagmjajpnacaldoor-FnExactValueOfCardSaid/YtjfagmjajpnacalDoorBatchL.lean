/- Batches as the laws hold them. -/
import Derived.Test.YtjfagmjajpnacalDoorChangeL
namespace Go.Proofs.YtjfagmjajpnacalDoor
open Go.RowKit

end Go.Proofs.YtjfagmjajpnacalDoor
