/- A number within bounds: the specification's. -/
import Derived.Test.YtmpogbeogcmgfaaDoorBase
namespace Go.Proofs.YtmpogbeogcmgfaaDoor
open Go.RowKit

end Go.Proofs.YtmpogbeogcmgfaaDoor
