/- The text whose figures these are: the specification's reader. -/
import Derived.Test.YthokkdhilefhfaaDoorFigs
namespace Go.Proofs.YthokkdhilefhfaaDoor
open Go.RowKit

end Go.Proofs.YthokkdhilefhfaaDoor
