/- What Find answers. -/
import Derived.Test.YtbenmgokhklnjaaEntL
namespace Go.Proofs.Ytbenmgokhklnjaa
open Go.RowKit

def noVal : ValD := ⟨0, 0, ⟨#[]⟩, []⟩
/-- The first entry with this key, from place k on. -/
def findE : List EntD → ByteArray → Option ValD
  | [], _ => none
  | e :: r, key => if e.key.toList == key.toList then some e.val else findE r key
def findV (es : List EntD) (key : ByteArray) : ValD := (findE es key).getD noVal
def findB (es : List EntD) (key : ByteArray) : Bool := (findE es key).isSome
theorem findE_here {es : List EntD} {key : ByteArray} {k : Nat} (hk : k < es.length) (h : (es[k].key.toList == key.toList) = true) : findE (es.drop k) key = some es[k].val := by
  rw [List.drop_eq_getElem_cons hk]
  simp only [findE]
  rw [if_pos h]
theorem findE_next {es : List EntD} {key : ByteArray} {k : Nat} (hk : k < es.length) (h : (es[k].key.toList == key.toList) = false) : findE (es.drop k) key = findE (es.drop (k + 1)) key := by
  rw [List.drop_eq_getElem_cons hk]
  simp only [findE]
  rw [if_neg (by rw [h]; simp)]
theorem findV_mem (es : List EntD) (key : ByteArray) : findV es key = noVal ∨ ∃ e ∈ es, e.val = findV es key := by
  unfold findV
  induction es with
  | nil => exact .inl rfl
  | cons e r ih =>
    simp only [findE]
    split
    · exact .inr ⟨e, by simp, rfl⟩
    · rcases ih with h | ⟨x, hx, h⟩
      · exact .inl h
      · exact .inr ⟨x, by simp [hx], h⟩
end Go.Proofs.Ytbenmgokhklnjaa
