/- The specification's text of a batch. -/
import Derived.Test.YtmmchemgegmhhaaGreatDoorBatchS0
import Derived.Test.YtmmchemgegmhhaaGreatDoorVarS
import Derived.Test.YtmmchemgegmhhaaGreatDoorLen
import Derived.Test.YtmmchemgegmhhaaGreatDoorConvRow
namespace Go.Proofs.YtmmchemgegmhhaaGreatDoor
open Go.RowKit

/-- A length, and the text. -/
def shortB (s : ByteArray) : ByteArray := ⟨(Wd.varF 5 s.size).toArray⟩ ++ s
/-- The byte of a change that tells whether it is gone. -/
def flagB (g : Bool) : ByteArray := if g then ⟨#[1]⟩ else ⟨#[0]⟩
/-- A change in bytes. -/
def changeB (A : ChangeD) : ByteArray := shortB A.key ++ flagB A.gone ++ shortB A.value
/-- The head of a batch. -/
def headB (q n : Nat) : ByteArray := ⟨#[66]⟩ ++ ⟨(Wd.varF 5 q).toArray⟩ ++ ⟨(Wd.varF 5 n).toArray⟩
/-- The changes in bytes. -/
def changesL : List ChangeD → List UInt8
  | [] => []
  | A :: r => (changeB A).data.toList ++ changesL r
/-- A batch in bytes. -/
def batchL (q : Nat) (fs : List ChangeD) : List UInt8 := (headB q fs.length).data.toList ++ changesL fs
theorem changesL_snoc : ∀ (a : List ChangeD) (A : ChangeD), changesL (a ++ [A]) = changesL a ++ (changeB A).data.toList
  | [], A => by simp [changesL]
  | B :: r, A => by simp [changesL, changesL_snoc r A, List.append_assoc]
theorem size_of_list (l : List UInt8) : (⟨l.toArray⟩ : ByteArray).size = l.length := rfl
theorem shortB_size (s : ByteArray) : (shortB s).size ≤ s.size + 5 := by
  have h := Wd.varF_length 5 s.size
  rw [shortB, ByteArray.size_append, size_of_list]
  omega
theorem flagB_size (g : Bool) : (flagB g).size = 1 := by cases g <;> rfl
theorem changeB_size (A : ChangeD) : (changeB A).size ≤ A.key.size + A.value.size + 11 := by
  have h1 := shortB_size A.key
  have h2 := shortB_size A.value
  rw [changeB, ByteArray.size_append, ByteArray.size_append, flagB_size]
  omega
theorem headB_size (q n : Nat) : (headB q n).size ≤ 11 := by
  have h1 := Wd.varF_length 5 q
  have h2 := Wd.varF_length 5 n
  have e1 : (⟨#[66]⟩ : ByteArray).size = 1 := rfl
  rw [headB, ByteArray.size_append, ByteArray.size_append, e1, size_of_list, size_of_list]
  omega

theorem l05Short_any (s : ByteArray) (w : World) (hs : s.size ≤ 1048576) :
    Calls Tryz.prog 109 #[.string s] w fun e w' => e = .returned (.string (shortB s)) ∧ Below w.heap.size w w' := by
  have HE : Hid (shortB s = ⟨(Wd.varF 5 s.size).toArray⟩ ++ s) := rfl
  have hv := Wd.varF_length 5 s.size
  go_enter Tryz.func109, Tryz.ntmps109
  go_wp2_with (first | (go_at_call 87; refine (l01Var_any s.size _ (by omega)).mono ?_; rintro e w1 ⟨rfl, b1⟩))
  go_ret
  rw [HE.out]
  exact ⟨rfl, b1⟩

theorem l05Flag_any (g : Bool) (w : World) : Calls Tryz.prog 110 #[.bool g] w fun e w' => e = .returned (.string (flagB g)) ∧ w' = w := by
  cases g <;>
  · go_enter Tryz.func110, Tryz.ntmps110
    go_wp2
    go_ret
    exact ⟨rfl, rfl⟩
end Go.Proofs.YtmmchemgegmhhaaGreatDoor
