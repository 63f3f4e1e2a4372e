/- Files as the laws hold them: measured, turned into the program's, held against each other. -/
import Derived.Test.YtgalhnbfdgpfpaaFileL
namespace Go.Proofs.Ytgalhnbfdgpfpaa
open Go.RowKit

/-- What files leave of a measure. -/
def szFs : List FileD → Int → Int
  | [], n => n
  | F :: r, n => if szF F n < 0 then -1 else szFs r (szF F n)

theorem szF_le (F : FileD) (n : Int) (h : 0 ≤ n) : szF F n ≤ n := by
  unfold szF; split
  · omega
  · split <;> omega

end Go.Proofs.Ytgalhnbfdgpfpaa
