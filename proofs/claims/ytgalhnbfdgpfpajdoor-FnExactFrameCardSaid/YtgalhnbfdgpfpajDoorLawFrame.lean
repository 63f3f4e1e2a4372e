/- The law on Frame: the program answers as the specification. -/
import Derived.Test.YtgalhnbfdgpfpajDoorFrameI
import Derived.Test.YtgalhnbfdgpfpajDoorFrameS
import Derived.WalkSmall
namespace Go.Proofs.YtgalhnbfdgpfpajDoor
open Go.RowKit

set_option maxRecDepth 100000 in
set_option maxHeartbeats 800000 in
theorem frame_walk (s : ByteArray) (w : World) (hT : SumTab w) :
    Calls Tryd.prog 3 #[.string s] w fun e w' => e = .returned (.bool true) ∧ Below w.heap.size w w' := by
  have HT := hide hT
  clear hT
  by_cases hs : s.size ≤ 1048576
  · have hs' : decide (1048576 < (s.size : Int)) = false := by simp; omega
    by_cases hb : 1 ≤ s.size ∧ s.size ≤ 9000
    · have hself := txt_eq (rfl : frameB s = frameB s)
      go_enter Tryd.func3, Tryd.ntmps3
      go_wp2_with (first | (go_at_call 5; refine (specFrame_yes s _ hb.1 hb.2).mono ?_; rintro e w1 ⟨rfl, b1⟩) | (go_at_call 6; refine (frame_yes s _ hb.1 hb.2 (sumTab_later b1 HT.out)).mono ?_; rintro e w2 ⟨rfl, b2⟩))
      go_ret
      exact ⟨rfl, b1.trans (b2.mono b1.size)⟩
    · have hb' : s.size < 1 ∨ 9000 < s.size := by omega
      clear hb
      go_enter Tryd.func3, Tryd.ntmps3
      go_wp2_with (first | (go_at_call 5; refine (specFrame_no s _ hb').mono ?_; rintro e w1 ⟨rfl, rfl⟩) | (go_at_call 6; refine (frame_no s _ hb').mono ?_; rintro e w2 ⟨rfl, rfl⟩))
      go_ret
      exact ⟨rfl, Below.refl _ _⟩
  · have hs' : decide (1048576 < (s.size : Int)) = true := by simp; omega
    go_enter Tryd.func3, Tryd.ntmps3
    go_wp2
    go_ret
    exact ⟨rfl, Below.refl _ _⟩
end Go.Proofs.YtgalhnbfdgpfpajDoor
