/- The text whose figures these are: the specification's reader. -/
import Derived.Test.YtdefipahgpljeaaDoorFigs
namespace Go.Proofs.YtdefipahgpljeaaDoor
open Go.RowKit

end Go.Proofs.YtdefipahgpljeaaDoor
