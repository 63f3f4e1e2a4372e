/- Batches as the laws hold them. -/
import Derived.Test.YtijmlgdeeodehalDoorChangeL
namespace Go.Proofs.YtijmlgdeeodehalDoor
open Go.RowKit

end Go.Proofs.YtijmlgdeeodehalDoor
