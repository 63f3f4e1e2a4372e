/- Closed facts on the program's types. -/
import Derived.Test.YtpibnhodlojajaaChecked
import Derived.Test.YtpibnhodlojajaaKit
import Derived.Test.YtpibnhodlojajaaWords0
namespace Go.Proofs.Ytpibnhodlojajaa
open Go.RowKit

theorem Try.info5 : (Try.prog.info? 5).map (fun i => (i.zero, i.size, i.bytes)) = some (some (.int .u8 0), 1, 1) := by kernel_rfl
theorem Try.cells5 : Try.prog.cellsOf 5 = 1 := by kernel_rfl

set_option maxRecDepth 100000 in
theorem l01In_any (x a b : Int) (w : World) : Calls Try.prog 32 #[.int .i64 x, .int .i64 a, .int .i64 b] w fun e w' => e = .returned (.bool (decide (a ≤ x) && decide (x ≤ b))) ∧ w' = w := by
  by_cases h : a ≤ x
  · have h' : decide (a ≤ x) = true := by simp; omega
    rw [h', Bool.true_and]
    go_enter Try.func32, Try.ntmps32
    go_wp2
    go_ret
    exact ⟨rfl, rfl⟩
  · have h' : decide (a ≤ x) = false := by simp; omega
    rw [h', Bool.false_and]
    go_enter Try.func32, Try.ntmps32
    go_wp2
    go_ret
    exact ⟨rfl, rfl⟩
theorem l01In_val (x a b : Int) (c : Bool) (w : World) (h : (decide (a ≤ x) && decide (x ≤ b)) = c) : Calls Try.prog 32 #[.int .i64 x, .int .i64 a, .int .i64 b] w fun e w' => e = .returned (.bool c) ∧ w' = w := h ▸ l01In_any x a b w
end Go.Proofs.Ytpibnhodlojajaa
