/- A short text, as it is written. -/
import Derived.Test.YtbenmgokhklnjaaVarS
import Derived.Test.YtbenmgokhklnjaaLen
namespace Go.Proofs.Ytbenmgokhklnjaa
open Go.RowKit

/-- A length, and the text. -/
def shortB (s : ByteArray) : ByteArray := ⟨(Wd.varF 5 s.size).toArray⟩ ++ s
theorem size_of_list (l : List UInt8) : (⟨l.toArray⟩ : ByteArray).size = l.length := rfl
theorem shortB_size (s : ByteArray) : (shortB s).size ≤ s.size + 5 := by
  have h := Wd.varF_length 5 s.size
  rw [shortB, ByteArray.size_append, size_of_list]
  omega
theorem l05Short_any (s : ByteArray) (w : World) (hs : s.size ≤ 1048576) :
    Calls Try.prog 72 #[.string s] w fun e w' => e = .returned (.string (shortB s)) ∧ Below w.heap.size w w' := by
  have HE : Hid (shortB s = ⟨(Wd.varF 5 s.size).toArray⟩ ++ s) := rfl
  have hv := Wd.varF_length 5 s.size
  go_enter Try.func72, Try.ntmps72
  go_wp2_with (first | (go_at_call 71; refine (l01Var_any s.size _ (by omega)).mono ?_; rintro e w1 ⟨rfl, b1⟩))
  go_ret
  rw [HE.out]
  exact ⟨rfl, b1⟩

end Go.Proofs.Ytbenmgokhklnjaa
