/- Batches as the laws hold them. -/
import Derived.Test.YtijmlgdeeodehakDoorChangeL
namespace Go.Proofs.YtijmlgdeeodehakDoor
open Go.RowKit

set_option maxRecDepth 100000 in
theorem eqBatch_same (q : Int) (fs : List ChangeD) (ao ao2 : Option Addr) (cap cap2 : Nat) (w : World) (hl : fs.length ≤ maxLen) (h1 : ChangesAt w ao fs) (h2 : ChangesAt w ao2 fs) :
    Calls Tryd.prog 27 #[.agg #[.int .i64 q, .slice ao fs.length cap], .agg #[.int .i64 q, .slice ao2 fs.length cap2]] w fun e w' => e = .returned (.bool true) ∧ Below w.heap.size w w' := by
  have H1 := hide h1
  have H2 := hide h2
  clear h1 h2
  have hqq : (!(q == q)) = false := by simp
  go_enter Tryd.func27, Tryd.ntmps27
  go_wp2_with fail
  have b0 := ((Below.refl _ w).alloc (Nat.le_refl _) (.cells #[.int .i64 q, .slice ao fs.length cap] 45)).alloc (by simp) (.cells #[.int .i64 q, .slice ao2 fs.length cap2] 45)
  refine (eqChangeS_same fs ao ao2 cap cap2 _ hl (changesAt_keep H1.out b0) (changesAt_keep H2.out b0)).mono ?_
  rintro e w1 ⟨rfl, b1⟩
  have HB := hide (b0.trans (b1.mono b0.size))
  clear b0 b1
  go_wp2
  go_ret
  exact ⟨rfl, HB.out⟩

set_option maxRecDepth 100000 in
theorem markChangeS_nil (k : Int) (w : World) :
    Calls Tryd.prog 28 #[.slice none 0 0, .int .i64 k] w fun e w' => e = .returned (.int .i64 k) ∧ w' = w := by
  go_enter Tryd.func28, Tryd.ntmps28
  go_wp2
  go_loop [1, 5] (fun kk ii => kk = .int .i64 k ∧ ii = .int .i64 0) (fun _ _ => 0)
  case atStart => exact ⟨rfl, rfl⟩
  case round =>
    obtain ⟨rfl, rfl⟩ := hrel
    go_wp2
    go_ret
    exact ⟨rfl, rfl⟩

end Go.Proofs.YtijmlgdeeodehakDoor
