/- A number within bounds: the specification's. -/
import Derived.Test.YtdefipahgpljeaaDoorBase
namespace Go.Proofs.YtdefipahgpljeaaDoor
open Go.RowKit

end Go.Proofs.YtdefipahgpljeaaDoor
