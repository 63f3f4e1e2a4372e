/- The text whose figures these are: the specification's reader. -/
import Derived.Test.YtmpogbeogcmgfaaDoorFigs
namespace Go.Proofs.YtmpogbeogcmgfaaDoor
open Go.RowKit

end Go.Proofs.YtmpogbeogcmgfaaDoor
