/- The mark of a number, as a text. -/
import Derived.Test.YtjfagmjajpnacalOne
namespace Go.Proofs.Ytjfagmjajpnacal
open Go.RowKit

/-- The mark of a number. -/
def mk (k : Nat) : List UInt8 := 109 :: Wd.decA 20 k []

end Go.Proofs.Ytjfagmjajpnacal
