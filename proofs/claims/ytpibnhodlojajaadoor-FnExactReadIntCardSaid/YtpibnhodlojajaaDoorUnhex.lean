/- The text whose figures these are: the specification's reader. -/
import Derived.Test.YtpibnhodlojajaaDoorFigs
namespace Go.Proofs.YtpibnhodlojajaaDoor
open Go.RowKit

end Go.Proofs.YtpibnhodlojajaaDoor
