/- The text whose figures these are: the specification's reader. -/
import Derived.Test.YtgdfhiabiakikaaDoorFigs
namespace Go.Proofs.YtgdfhiabiakikaaDoor
open Go.RowKit

end Go.Proofs.YtgdfhiabiakikaaDoor
