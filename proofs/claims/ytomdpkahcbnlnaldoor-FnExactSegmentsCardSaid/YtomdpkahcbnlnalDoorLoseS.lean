/- The specification's LoseDisk. -/
import Derived.Test.YtomdpkahcbnlnalDoorLoseS0
namespace Go.Proofs.YtomdpkahcbnlnalDoor
open Go.RowKit

end Go.Proofs.YtomdpkahcbnlnalDoor
