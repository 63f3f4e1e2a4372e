/- The check sum: the specification's. -/
import Derived.Test.YtgalhnbfdgpfpaaDoorSumI
namespace Go.Proofs.YtgalhnbfdgpfpaaDoor
open Go.RowKit

end Go.Proofs.YtgalhnbfdgpfpaaDoor
