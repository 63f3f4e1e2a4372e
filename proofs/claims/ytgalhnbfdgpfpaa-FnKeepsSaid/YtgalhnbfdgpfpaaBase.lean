/- Closed facts on the program's types. -/
import Derived.Test.YtgalhnbfdgpfpaaChecked
import Derived.Test.YtgalhnbfdgpfpaaKit
import Derived.Test.YtgalhnbfdgpfpaaWords0
namespace Go.Proofs.Ytgalhnbfdgpfpaa
open Go.RowKit

theorem Try.info5 : (Try.prog.info? 5).map (fun i => (i.zero, i.size, i.bytes)) = some (some (.int .u8 0), 1, 1) := by kernel_rfl
theorem Try.cells5 : Try.prog.cellsOf 5 = 1 := by kernel_rfl
end Go.Proofs.Ytgalhnbfdgpfpaa
