/- Closed facts on the program's types. -/
import Derived.Test.YtpdpjkocfkdnnaaChecked
import Derived.Test.YtpdpjkocfkdnnaaKit
import Derived.Test.YtpdpjkocfkdnnaaWords0
namespace Go.Proofs.Ytpdpjkocfkdnnaa
open Go.RowKit

theorem Try.info5 : (Try.prog.info? 5).map (fun i => (i.zero, i.size, i.bytes)) = some (some (.int .u8 0), 1, 1) := by kernel_rfl
theorem Try.cells5 : Try.prog.cellsOf 5 = 1 := by kernel_rfl

end Go.Proofs.Ytpdpjkocfkdnnaa
