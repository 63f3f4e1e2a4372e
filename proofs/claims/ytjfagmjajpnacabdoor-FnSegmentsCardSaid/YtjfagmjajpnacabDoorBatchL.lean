/- Batches as the laws hold them. -/
import Derived.Test.YtjfagmjajpnacabDoorChangeL
namespace Go.Proofs.YtjfagmjajpnacabDoor
open Go.RowKit

end Go.Proofs.YtjfagmjajpnacabDoor
