/- A text behind its length: the program's writer. -/
import Derived.Test.YtbenmgokhklnjaaVarI
import Derived.Test.YtbenmgokhklnjaaLen
namespace Go.Proofs.Ytbenmgokhklnjaa
open Go.RowKit

theorem implShort_no (s : ByteArray) (w : World) (ws : s.size ≤ maxLen) (h : 20000 < s.size) :
    Calls Try.prog 32 #[.string s] w fun e w' => e = .returned (.tuple #[.string ⟨#[]⟩, .bool false]) ∧ w' = w := by
  unfold maxLen at ws
  go_enter Try.func32, Try.ntmps32
  go_wp2
  go_ret2
  exact ⟨rfl, rfl⟩

theorem implShort_yes (s : ByteArray) (w : World) (h : s.size ≤ 20000) :
    Calls Try.prog 32 #[.string s] w fun e w' => e = .returned (.tuple #[.string (⟨(Wd.varF 5 s.size).toArray⟩ ++ s), .bool true]) ∧ Below w.heap.size w w' := by
  have hl := Wd.varF_length 5 s.size
  go_enter Try.func32, Try.ntmps32
  go_wp2_with (first | (go_at_call 31; refine (implVar_yes s.size _ (by omega)).mono ?_; rintro e w1 ⟨rfl, hb1⟩))
  go_ret2
  exact ⟨rfl, hb1⟩

end Go.Proofs.Ytbenmgokhklnjaa
