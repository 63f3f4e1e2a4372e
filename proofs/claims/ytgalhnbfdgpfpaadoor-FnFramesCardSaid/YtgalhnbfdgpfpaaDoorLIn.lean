/- A number within bounds: the specification's. -/
import Derived.Test.YtgalhnbfdgpfpaaDoorBase
namespace Go.Proofs.YtgalhnbfdgpfpaaDoor
open Go.RowKit

end Go.Proofs.YtgalhnbfdgpfpaaDoor
