/- The specification's LoseDisk. -/
import Derived.Test.YtijmlgdeeodehalDoorLoseS0
namespace Go.Proofs.YtijmlgdeeodehalDoor
open Go.RowKit

end Go.Proofs.YtijmlgdeeodehalDoor
