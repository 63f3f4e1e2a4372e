/- Disks as the laws hold them: turned into the program's, held against each other. -/
import Derived.Test.YtgalhnbfdgpfpaaFileL3
namespace Go.Proofs.Ytgalhnbfdgpfpaa
open Go.RowKit

end Go.Proofs.Ytgalhnbfdgpfpaa
