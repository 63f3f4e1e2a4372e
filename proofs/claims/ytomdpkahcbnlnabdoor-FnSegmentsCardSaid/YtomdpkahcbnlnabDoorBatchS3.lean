/- The specification's ReadBatch. -/
import Derived.Test.YtomdpkahcbnlnabDoorBatchR
namespace Go.Proofs.YtomdpkahcbnlnabDoor
open Go.RowKit

end Go.Proofs.YtomdpkahcbnlnabDoor
