/- A number within bounds: the specification's. -/
import Derived.Test.YtgdfhiabiakikaaDoorBase
namespace Go.Proofs.YtgdfhiabiakikaaDoor
open Go.RowKit

end Go.Proofs.YtgdfhiabiakikaaDoor
