/- Batches as the laws hold them. -/
import Derived.Test.YtijmlgdeeodehamGreatDoorChangeL
namespace Go.Proofs.YtijmlgdeeodehamGreatDoor
open Go.RowKit

end Go.Proofs.YtijmlgdeeodehamGreatDoor
