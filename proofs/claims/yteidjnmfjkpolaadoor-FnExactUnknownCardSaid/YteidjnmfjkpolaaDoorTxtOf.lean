/- A row of texts that came in. -/
import Derived.Test.YteidjnmfjkpolaaDoorTxtL
namespace Go.Proofs.YteidjnmfjkpolaaDoor
open Go.RowKit

open Go.ChangeShapes Go.WideShapes Go.Deep in
theorem texts_of {H : Type} {enc : TypeId × Value → H} {w : World} {base : Nat} {v : Value} {d : DataW H} {p : List MemPlace} (hv : Value.okWide Tryd.prog w .any base 22 v)
    (h : DataW.Trod enc Tryd.prog w 0 (fun _ => true) true 22 v d p) :
    ∃ (ao : Option Addr) (ts : List ByteArray) (cap : Nat), v = .slice ao ts.length cap ∧ ts.length ≤ maxLen ∧ TextsAt w ao ts ∧ ∀ x ∈ ts, x.size ≤ maxLen := by
  obtain ⟨a0, l0, c0, rfl⟩ := okWide_slice Tryd.underlying22 hv
  obtain ⟨fuel, hf⟩ := h
  have hf' : DataW.trod enc Tryd.prog w 0 (fun _ => true) true fuel 22 [.slice a0 l0 c0] = some (d, p) := by simpa [Value.cells] using hf
  exact texts_in hf'
end Go.Proofs.YteidjnmfjkpolaaDoor
