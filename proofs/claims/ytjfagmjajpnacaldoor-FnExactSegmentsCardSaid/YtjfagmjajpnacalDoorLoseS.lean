/- The specification's LoseDisk. -/
import Derived.Test.YtjfagmjajpnacalDoorLoseS0
namespace Go.Proofs.YtjfagmjajpnacalDoor
open Go.RowKit

end Go.Proofs.YtjfagmjajpnacalDoor
