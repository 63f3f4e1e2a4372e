/- Closed facts on the program's types. -/
import Derived.Test.YtnoalenfeakcpaaDoorChecked
import Derived.Test.YtnoalenfeakcpaaDoorKit
import Derived.Test.YtnoalenfeakcpaaDoorWords0
namespace Go.Proofs.YtnoalenfeakcpaaDoor
open Go.RowKit

theorem Tryd.info5 : (Tryd.prog.info? 5).map (fun i => (i.zero, i.size, i.bytes)) = some (some (.int .u8 0), 1, 1) := by kernel_rfl
theorem Tryd.cells5 : Tryd.prog.cellsOf 5 = 1 := by kernel_rfl

set_option maxRecDepth 100000 in
theorem l01In_any (x a b : Int) (w : World) : Calls Tryd.prog 23 #[.int .i64 x, .int .i64 a, .int .i64 b] w fun e w' => e = .returned (.bool (decide (a ≤ x) && decide (x ≤ b))) ∧ w' = w := by
  by_cases h : a ≤ x
  · have h' : decide (a ≤ x) = true := by simp; omega
    rw [h', Bool.true_and]
    go_enter Tryd.func23, Tryd.ntmps23
    go_wp2
    go_ret
    exact ⟨rfl, rfl⟩
  · have h' : decide (a ≤ x) = false := by simp; omega
    rw [h', Bool.false_and]
    go_enter Tryd.func23, Tryd.ntmps23
    go_wp2
    go_ret
    exact ⟨rfl, rfl⟩
theorem l01In_val (x a b : Int) (c : Bool) (w : World) (h : (decide (a ≤ x) && decide (x ≤ b)) = c) : Calls Tryd.prog 23 #[.int .i64 x, .int .i64 a, .int .i64 b] w fun e w' => e = .returned (.bool c) ∧ w' = w := h ▸ l01In_any x a b w
end Go.Proofs.YtnoalenfeakcpaaDoor
