/- The specification's text of a batch. -/
import Derived.Test.YtbenmgokhklnjaaBatchS0
import Derived.Test.YtbenmgokhklnjaaShortB
import Derived.Test.YtbenmgokhklnjaaVarS
import Derived.Test.YtbenmgokhklnjaaLen
import Derived.Test.YtbenmgokhklnjaaConvRow
namespace Go.Proofs.Ytbenmgokhklnjaa
open Go.RowKit

/-- The byte of a change that tells whether it is gone. -/
def flagB (g : Bool) : ByteArray := if g then ⟨#[1]⟩ else ⟨#[0]⟩
/-- A change in bytes. -/
def changeB (A : ChangeD) : ByteArray := shortB A.key ++ flagB A.gone ++ shortB A.value
/-- The head of a batch. -/
def headB (q n : Nat) : ByteArray := ⟨#[66]⟩ ++ ⟨(Wd.varF 5 q).toArray⟩ ++ ⟨(Wd.varF 5 n).toArray⟩
/-- The changes in bytes. -/
def changesL : List ChangeD → List UInt8
  | [] => []
  | A :: r => (changeB A).data.toList ++ changesL r
/-- A batch in bytes. -/
def batchL (q : Nat) (fs : List ChangeD) : List UInt8 := (headB q fs.length).data.toList ++ changesL fs
theorem changesL_snoc : ∀ (a : List ChangeD) (A : ChangeD), changesL (a ++ [A]) = changesL a ++ (changeB A).data.toList
  | [], A => by simp [changesL]
  | B :: r, A => by simp [changesL, changesL_snoc r A, List.append_assoc]
theorem flagB_size (g : Bool) : (flagB g).size = 1 := by cases g <;> rfl
theorem changeB_size (A : ChangeD) : (changeB A).size ≤ A.key.size + A.value.size + 11 := by
  have h1 := shortB_size A.key
  have h2 := shortB_size A.value
  rw [changeB, ByteArray.size_append, ByteArray.size_append, flagB_size]
  omega
theorem headB_size (q n : Nat) : (headB q n).size ≤ 11 := by
  have h1 := Wd.varF_length 5 q
  have h2 := Wd.varF_length 5 n
  have e1 : (⟨#[66]⟩ : ByteArray).size = 1 := rfl
  rw [headB, ByteArray.size_append, ByteArray.size_append, e1, size_of_list, size_of_list]
  omega

end Go.Proofs.Ytbenmgokhklnjaa
