/- Closed facts on the program's types. -/
import Derived.Test.YtnfnhkodjmilgaaDoorChecked
import Derived.Test.YtnfnhkodjmilgaaDoorKit
import Derived.Test.YtnfnhkodjmilgaaDoorWords0
namespace Go.Proofs.YtnfnhkodjmilgaaDoor
open Go.RowKit

theorem Tryd.info5 : (Tryd.prog.info? 5).map (fun i => (i.zero, i.size, i.bytes)) = some (some (.int .u8 0), 1, 1) := by kernel_rfl
theorem Tryd.cells5 : Tryd.prog.cellsOf 5 = 1 := by kernel_rfl

end Go.Proofs.YtnfnhkodjmilgaaDoor
