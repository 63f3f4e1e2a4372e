/- Replies as texts: the program's heads. -/
import Derived.Test.YtpibnhodlojajaaDoorDecI
import Derived.Test.YtpibnhodlojajaaDoorRepW
namespace Go.Proofs.YtpibnhodlojajaaDoor
open Go.RowKit

/-- A number's decimal text. -/
def numB (n : Int) : ByteArray := ⟨(Wd.decS n).toArray⟩
theorem numB_size (n : Int) (h0 : -9223372036854775808 ≤ n) (h1 : n ≤ 9223372036854775807) : (numB n).size ≤ 21 := by
  show (Wd.decS n).toArray.size ≤ 21
  rw [List.size_toArray]
  have h := Wd.decA_length 20 n.natAbs [] 20 (by omega)
  unfold Wd.decS
  split
  · decide
  · split
    · rw [List.length_cons]; simp at h; omega
    · simp at h; omega
/-- A mark, a number, CR and LF. -/
def hdB (m : ByteArray) (n : Int) : ByteArray := (m ++ numB n) ++ ⟨#[13, 10]⟩
theorem hdB_size (m : ByteArray) (n : Int) (hm : m.size ≤ 1) (h0 : -9223372036854775808 ≤ n) (h1 : n ≤ 9223372036854775807) : (hdB m n).size ≤ 24 := by
  have := numB_size n h0 h1
  have h2 : (⟨#[13, 10]⟩ : ByteArray).size = 2 := rfl
  unfold hdB
  rw [ByteArray.size_append, ByteArray.size_append]
  omega
end Go.Proofs.YtpibnhodlojajaaDoor
