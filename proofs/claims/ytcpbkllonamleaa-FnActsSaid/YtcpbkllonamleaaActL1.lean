/- An act as the laws hold it. -/
import Derived.Test.YtcpbkllonamleaaFiles
import Derived.Lib.SmallJoins
import Derived.OpenShut
namespace Go.Proofs.Ytcpbkllonamleaa
open Go.RowKit

/-- What an act leaves of a measure. -/
def szA (A : ActD) (n : Int) : Int := if n < A.name.size then -1 else if n < A.name.size + A.text.size then -1 else if n < A.name.size + A.text.size + A.to.size then -1 else n - A.name.size - A.text.size - A.to.size

theorem szA_small {A : ActD} {n : Int} (h0 : n ≤ 1048576) (h : 0 ≤ szA A n) : A.name.size ≤ 1048576 ∧ A.text.size ≤ 1048576 ∧ A.to.size ≤ 1048576 := by
  unfold szA at h
  split at h
  · omega
  · split at h
    · omega
    · split at h <;> omega

end Go.Proofs.Ytcpbkllonamleaa
