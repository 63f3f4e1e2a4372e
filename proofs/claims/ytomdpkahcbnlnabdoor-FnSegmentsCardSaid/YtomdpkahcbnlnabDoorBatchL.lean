/- Batches as the laws hold them. -/
import Derived.Test.YtomdpkahcbnlnabDoorChangeL
namespace Go.Proofs.YtomdpkahcbnlnabDoor
open Go.RowKit

end Go.Proofs.YtomdpkahcbnlnabDoor
