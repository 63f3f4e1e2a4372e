/- Batches as the laws hold them. -/
import Derived.Test.YtijmlgdeeodehalGreatDoorChangeL
namespace Go.Proofs.YtijmlgdeeodehalGreatDoor
open Go.RowKit

end Go.Proofs.YtijmlgdeeodehalGreatDoor
