/- The specification's ReplyAt and Replies. -/
import Derived.Test.YtpibnhodlojajaaDoorRplS2
namespace Go.Proofs.YtpibnhodlojajaaDoor
open Go.RowKit

/-- A row without texts. -/
theorem own_none (w : World) (B : Nat) (hB : B ≤ w.heap.size) : (w.alloc (.cells #[] 9)).ownsRow B 9 1 (.slice (some ⟨w.heap.size, 0, none⟩) 0 0) ([] : List ByteArray).length (([] : List ByteArray).map Value.string) :=
  ⟨by simp, .inr ⟨w.heap.size, 0, #[], rfl, hB, heap_alloc_new _ _, Nat.le_refl _, by unfold maxLen; omega, by simp, by simp⟩⟩

/-- What the specification's Replies leaves. -/
def RplPostS (w : World) (o : Option (List ByteArray)) (e : Ending) (w' : World) : Prop :=
  (∃ v, e = .returned (.tuple #[v, .bool o.isSome]) ∧ RowText w' w.heap.size v (o.getD [])) ∧ Below w.heap.size w w'

end Go.Proofs.YtpibnhodlojajaaDoor
