/- The check sum in bytes, a text sealed and unsealed: the specification's. -/
import Derived.Test.YtgalhnbfdgpfpaaDoorSumQ
import Derived.Test.YtgalhnbfdgpfpaaDoorSumS
namespace Go.Proofs.YtgalhnbfdgpfpaaDoor
open Go.RowKit

end Go.Proofs.YtgalhnbfdgpfpaaDoor
