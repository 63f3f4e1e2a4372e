/- Batches as the laws hold them. -/
import Derived.Test.YtmmchemgegmhhaaGreatDoorChangeL
namespace Go.Proofs.YtmmchemgegmhhaaGreatDoor
open Go.RowKit

end Go.Proofs.YtmmchemgegmhhaaGreatDoor
