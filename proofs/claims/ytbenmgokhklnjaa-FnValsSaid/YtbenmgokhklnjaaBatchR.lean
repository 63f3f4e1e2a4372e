/- A batch is read of a text, plainly; what the specification's reader holds in memory. -/
import Derived.Test.YtbenmgokhklnjaaBatchC
import Derived.Test.YtbenmgokhklnjaaBatchS2
namespace Go.Proofs.Ytbenmgokhklnjaa
open Go.RowKit

/-- One change is read. -/
def rdStep (t : ByteArray) (i : Nat) (bad : Bool) : ChangeD × Nat × Bool :=
  let a := shortC t i bad
  let b := takeC t 1 a.2.1 a.2.2
  let c := shortC t b.2.1 b.2.2
  (⟨a.1, c.1, b.1.toList == [1]⟩, c.2)
/-- So many changes are read, or fewer. -/
def rdF (t : ByteArray) : Nat → Nat → Bool → List ChangeD → List ChangeD × Bool
  | 0, _, bad, acc => (acc, bad)
  | _ + 1, _, true, acc => (acc, true)
  | f + 1, i, false, acc => rdF t f (rdStep t i false).2.1 (rdStep t i false).2.2 (acc ++ [(rdStep t i false).1])
theorem rdF_bad (t : ByteArray) (f i : Nat) (acc : List ChangeD) : rdF t f i true acc = (acc, true) := by cases f <;> rfl
/-- The number, the changes and whether the text is not of the form. -/
def rdRaw (t : ByteArray) : Nat × List ChangeD × Bool :=
  let a := takeC t 1 0 false
  let b := varC t a.2.1 a.2.2
  let c := varC t b.2.1 b.2.2
  (b.1, rdF t (min c.1 100) c.2.1 c.2.2 [])
/-- Is the text one of a batch? -/
def rdOk (t : ByteArray) : Bool := !(rdRaw t).2.2 && (textOkD (rdRaw t).1 (rdRaw t).2.1 && decide (textD (rdRaw t).1 (rdRaw t).2.1 = t))
def rdSeq (t : ByteArray) : Int := if rdOk t then (rdRaw t).1 else 0
def rdChanges (t : ByteArray) : List ChangeD := if rdOk t then (rdRaw t).2.1 else []

theorem shortC_le {t : ByteArray} {i : Nat} (bad : Bool) (h : i ≤ t.size) : (shortC t i bad).2.1 ≤ t.size ∧ (shortC t i bad).1.size ≤ t.size := takeC_le _ (varC_le bad h).1

theorem heap_lt {w : World} {k : Nat} {x : Obj} (h : w.heap[k]? = some x) : k < w.heap.size := (Array.getElem?_eq_some_iff.1 h).1
theorem own_ne {w : World} {B : Nat} {e : TypeId} {s : Nat} {v : Value} {n : Nat} {xs : List Value} (h : w.ownsRow B e s v n xs) {k : Nat} (hk : k < B) : v.ownBlock = none ∨ v.ownBlock ≠ some k := by
  cases e : v.ownBlock with
  | none => exact .inl rfl
  | some g => exact .inr (fun e2 => by have := (h.lt g e).1; simp at e2; omega)
end Go.Proofs.Ytbenmgokhklnjaa
