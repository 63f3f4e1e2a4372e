/- The bytes of a number: the specification's writer. -/
import Derived.Test.YtgalhnbfdgpfpaaDoorBase
namespace Go.Proofs.YtgalhnbfdgpfpaaDoor
open Go.RowKit

end Go.Proofs.YtgalhnbfdgpfpaaDoor
