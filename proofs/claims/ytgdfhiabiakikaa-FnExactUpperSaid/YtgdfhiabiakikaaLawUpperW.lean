/- The law of Upper: whatever the text, both sides answer the same. -/
import Derived.Test.YtgdfhiabiakikaaLawUpper
namespace Go.Proofs.Ytgdfhiabiakikaa
open Go.RowKit

theorem lawUpper (s : ByteArray) (w : World) (_ : s.size ≤ maxLen) : Calls Try.prog 3 #[.string s] w fun e w' => e = .returned (.bool true) ∧ Below w.heap.size w w' := by
  by_cases h : s.size ≤ 1048576
  · have h' : decide (1048576 < (s.size : Int)) = false := by simp; omega
    go_enter Try.func3, Try.ntmps3
    go_wp2_with (first | (go_at_call 4; refine (specUpper_any s _ h).mono ?_; rintro e w1 ⟨rfl, hb1⟩) | (go_at_call 5; refine (implUpper_any s _ h).mono ?_; rintro e w2 ⟨rfl, hb2⟩))
    go_ret
    exact ⟨rfl, hb1.trans (hb2.mono hb1.size)⟩
  · have h' : decide (1048576 < (s.size : Int)) = true := by simp; omega
    go_enter Try.func3, Try.ntmps3
    go_wp2
    go_ret
    exact ⟨rfl, Below.refl _ _⟩
end Go.Proofs.Ytgdfhiabiakikaa
