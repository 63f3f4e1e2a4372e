/- One figure: the specification's writer. -/
import Derived.Test.YtpibnhodlojajaaDoorBase
namespace Go.Proofs.YtpibnhodlojajaaDoor
open Go.RowKit

theorem figure_any (x : Int) (w : World) (h0 : 0 ≤ x) (h1 : x < 16) :
    Calls Tryd.prog 31 #[.int .i64 x] w fun e w' => e = .returned (.int .u8 (Wd.figI x)) ∧ w' = w := by
  by_cases h : x < 10
  · rw [Wd.figI_low x h]
    go_enter Tryd.func31, Tryd.ntmps31
    go_wp2
    go_ret
    exact ⟨rfl, rfl⟩
  · rw [Wd.figI_high x h]
    go_enter Tryd.func31, Tryd.ntmps31
    go_wp2
    go_ret
    refine ⟨?_, rfl⟩
    show Ending.returned (.int .u8 (97 + x - 10)) = _
    rw [show 97 + x - 10 = 87 + x from by omega]

end Go.Proofs.YtpibnhodlojajaaDoor
