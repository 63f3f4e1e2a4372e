/- The text whose figures these are: the specification's reader. -/
import Derived.Test.YtnoalenfeakcpaaDoorFigs
namespace Go.Proofs.YtnoalenfeakcpaaDoor
open Go.RowKit

end Go.Proofs.YtnoalenfeakcpaaDoor
