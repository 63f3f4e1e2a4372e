/- The mark of a number, as a text. -/
import Derived.Test.YtpibnhodlojajaaDoorBase
namespace Go.Proofs.YtpibnhodlojajaaDoor
open Go.RowKit

/-- One byte, laid into a new block, as a text. -/
theorem conv_byte (W : World) (b : UInt8) (z : Int) (hz : (b.toNat : Int) = z) :
    (convert 25 9 (.slice (some ⟨W.heap.size, 0, none⟩) 1 1)).run Tryd.prog (W.alloc (.cells #[.int .u8 z] 5)) = .ok (.string ⟨#[b]⟩) (W.alloc (.cells #[.int .u8 z] 5)) := by
  refine run_convert_bytes_back (P := Tryd.prog) (W.alloc (.cells #[.int .u8 z] 5)) 25 9 5 ⟨W.heap.size, 0, none⟩ 1 [b] Tryd.underlying25 Tryd.underlying5 Tryd.underlying9 ?_
  intro j hj
  exact cells_new W #[.int .u8 z] 5 j _ (by
    have : j = 0 := by simpa using hj
    subst this
    simp [hz])

/-- The mark of a number. -/
def mk (k : Nat) : List UInt8 := 109 :: Wd.decA 20 k []

end Go.Proofs.YtpibnhodlojajaaDoor
