/- Batches as the laws hold them. -/
import Derived.Test.YtijmlgdeeodehabDoorChangeL
namespace Go.Proofs.YtijmlgdeeodehabDoor
open Go.RowKit

end Go.Proofs.YtijmlgdeeodehabDoor
