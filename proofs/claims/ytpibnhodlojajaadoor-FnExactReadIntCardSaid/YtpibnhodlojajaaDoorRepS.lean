/- Replies as texts: Number, Bulk, Nil, Array, on both sides. -/
import Derived.Test.YtpibnhodlojajaaDoorRepI
import Derived.Test.YtpibnhodlojajaaDoorDec
import Derived.Test.YtpibnhodlojajaaDoorTxtL
namespace Go.Proofs.YtpibnhodlojajaaDoor
open Go.RowKit

abbrev Pow10 (w : World) : Prop := Lib.TabIs Tryd.prog w "internal/strconv.uint64pow10" .u64 Lib.pow10Tab

/-- A text with its length ahead. -/
def bulkB (s : ByteArray) : ByteArray := (hdB ⟨#[36]⟩ s.size ++ s) ++ ⟨#[13, 10]⟩
end Go.Proofs.YtpibnhodlojajaaDoor
