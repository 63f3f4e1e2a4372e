/- Closed facts on the program's types. -/
import Derived.Test.YtpibnhodlojajaaDoorChecked
import Derived.Test.YtpibnhodlojajaaDoorKit
import Derived.Test.YtpibnhodlojajaaDoorWords0
namespace Go.Proofs.YtpibnhodlojajaaDoor
open Go.RowKit

theorem Tryd.info5 : (Tryd.prog.info? 5).map (fun i => (i.zero, i.size, i.bytes)) = some (some (.int .u8 0), 1, 1) := by kernel_rfl
theorem Tryd.cells5 : Tryd.prog.cellsOf 5 = 1 := by kernel_rfl

end Go.Proofs.YtpibnhodlojajaaDoor
