/- Batches as the laws hold them. -/
import Derived.Test.YtomdpkahcbnlnalDoorChangeL
namespace Go.Proofs.YtomdpkahcbnlnalDoor
open Go.RowKit

end Go.Proofs.YtomdpkahcbnlnalDoor
