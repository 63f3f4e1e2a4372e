/- A text sealed and unsealed: the program's. -/
import Derived.Test.YtjfagmjajpnacalDoorOne
namespace Go.Proofs.YtjfagmjajpnacalDoor
open Go.RowKit

/-- A text sealed. -/
def sealB (s : ByteArray) : ByteArray := s ++ ⟨(four (sumB 4294967295 s)).toArray⟩

theorem sealB_list (s : ByteArray) : (sealB s).data.toList = sealL s.data.toList := by
  unfold sealB sealL sumB
  simp

theorem sealB_size (s : ByteArray) : (sealB s).size = s.size + 4 := by
  unfold sealB
  rw [ByteArray.size_append]
  rfl

set_option maxRecDepth 100000 in
set_option maxHeartbeats 400000 in
theorem sealed_any (s : ByteArray) (w : World) (hl : s.size ≤ 20000) (hT : SumTab w) :
    Calls Tryd.prog 46 #[.string s] w fun e w' => e = .returned (.tuple #[.string (sealB s), .bool true]) ∧ Below w.heap.size w w' := by
  have HT := hide hT
  have hno : decide (20000 < (s.size : Int)) = false := by simp; omega
  have HE : Hid (sealB s = s ++ ⟨(four (sumB 4294967295 s)).toArray⟩) := rfl
  have hlt := sumB_lt s
  have h4 : (four (sumB 4294967295 s)).length = 4 := rfl
  clear hT
  go_enter Tryd.func46, Tryd.ntmps46
  go_wp2_with (first | (go_at_call 72; refine (sumOf_any s _ (by omega) HT.out).mono ?_; rintro e w' ⟨rfl, rfl⟩) | (go_at_call 73; refine (inBytes_any _ _ hlt).mono ?_; rintro e w' ⟨rfl, hb⟩))
  go_ret2
  rw [HE.out]
  exact ⟨rfl, hb⟩

theorem sealed_no (s : ByteArray) (w : World) (hl : 20000 < s.size) :
    Calls Tryd.prog 46 #[.string s] w fun e w' => e = .returned (.tuple #[.string ⟨#[]⟩, .bool false]) ∧ w' = w := by
  have hno : decide (20000 < (s.size : Int)) = true := by simp; omega
  go_enter Tryd.func46, Tryd.ntmps46
  go_wp2
  go_ret2
  exact ⟨rfl, rfl⟩

/-- What a text is the seal of: its beginning, if that one's seal it is. -/
def foreB (s : ByteArray) : ByteArray := s.extract 0 (s.size - 4)
theorem foreB_size (s : ByteArray) : (foreB s).size = s.size - 4 := by unfold foreB; rw [ByteArray.size_extract]; omega

end Go.Proofs.YtjfagmjajpnacalDoor
