/- A record in its frame: the specification's. -/
import Derived.Test.YtgalhnbfdgpfpaaDoorFrameP
import Derived.Test.YtgalhnbfdgpfpaaDoorVarS
import Derived.Test.YtgalhnbfdgpfpaaDoorSumS1
import Derived.Test.YtgalhnbfdgpfpaaDoorLIn
namespace Go.Proofs.YtgalhnbfdgpfpaaDoor
open Go.RowKit

end Go.Proofs.YtgalhnbfdgpfpaaDoor
