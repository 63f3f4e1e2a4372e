/- The text whose figures these are: the specification's reader. -/
import Derived.Test.YtnfnhkodjmilgaaDoorFigs
namespace Go.Proofs.YtnfnhkodjmilgaaDoor
open Go.RowKit

end Go.Proofs.YtnfnhkodjmilgaaDoor
