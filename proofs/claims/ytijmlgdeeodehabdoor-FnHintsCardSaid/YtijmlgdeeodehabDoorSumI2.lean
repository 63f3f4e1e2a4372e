/- A text sealed and unsealed: the program's. -/
import Derived.Test.YtijmlgdeeodehabDoorOne
namespace Go.Proofs.YtijmlgdeeodehabDoor
open Go.RowKit

/-- A text sealed. -/
def sealB (s : ByteArray) : ByteArray := s ++ ⟨(four (sumB 4294967295 s)).toArray⟩

theorem sealB_list (s : ByteArray) : (sealB s).data.toList = sealL s.data.toList := by
  unfold sealB sealL sumB
  simp

theorem sealB_size (s : ByteArray) : (sealB s).size = s.size + 4 := by
  unfold sealB
  rw [ByteArray.size_append]
  rfl

set_option maxRecDepth 100000 in
set_option maxHeartbeats 400000 in
theorem sealed_any (s : ByteArray) (w : World) (hl : s.size ≤ 20000) (hT : SumTab w) :
    Calls Tryd.prog 30 #[.string s] w fun e w' => e = .returned (.tuple #[.string (sealB s), .bool true]) ∧ Below w.heap.size w w' := by
  have HT := hide hT
  have hno : decide (20000 < (s.size : Int)) = false := by simp; omega
  have HE : Hid (sealB s = s ++ ⟨(four (sumB 4294967295 s)).toArray⟩) := rfl
  have hlt := sumB_lt s
  have h4 : (four (sumB 4294967295 s)).length = 4 := rfl
  clear hT
  go_enter Tryd.func30, Tryd.ntmps30
  go_wp2_with (first | (go_at_call 51; refine (sumOf_any s _ (by omega) HT.out).mono ?_; rintro e w' ⟨rfl, rfl⟩) | (go_at_call 52; refine (inBytes_any _ _ hlt).mono ?_; rintro e w' ⟨rfl, hb⟩))
  go_ret2
  rw [HE.out]
  exact ⟨rfl, hb⟩

theorem sealed_no (s : ByteArray) (w : World) (hl : 20000 < s.size) :
    Calls Tryd.prog 30 #[.string s] w fun e w' => e = .returned (.tuple #[.string ⟨#[]⟩, .bool false]) ∧ w' = w := by
  have hno : decide (20000 < (s.size : Int)) = true := by simp; omega
  go_enter Tryd.func30, Tryd.ntmps30
  go_wp2
  go_ret2
  exact ⟨rfl, rfl⟩

/-- What a text is the seal of: its beginning, if that one's seal it is. -/
def foreB (s : ByteArray) : ByteArray := s.extract 0 (s.size - 4)
theorem foreB_size (s : ByteArray) : (foreB s).size = s.size - 4 := by unfold foreB; rw [ByteArray.size_extract]; omega

theorem unsealed_short (s : ByteArray) (w : World) (h : s.size < 4) :
    Calls Tryd.prog 31 #[.string s] w fun e w' => e = .returned (.tuple #[.string ⟨#[]⟩, .bool false]) ∧ w' = w := by
  have hno : decide ((s.size : Int) < 4) = true := by simp; omega
  go_enter Tryd.func31, Tryd.ntmps31
  go_wp2
  go_ret2
  exact ⟨rfl, rfl⟩

set_option maxRecDepth 100000 in
set_option maxHeartbeats 400000 in
theorem unsealed_yes (s : ByteArray) (w : World) (h4 : 4 ≤ s.size) (hbig : s.size ≤ 20004) (he : sealB (foreB s) = s) (hT : SumTab w) :
    Calls Tryd.prog 31 #[.string s] w fun e w' => e = .returned (.tuple #[.string (foreB s), .bool true]) ∧ Below w.heap.size w w' := by
  have HT := hide hT
  have hno : decide ((s.size : Int) < 4) = false := by simp; omega
  have hw : IntKind.i64.wrap ((s.size : Int) - 4) = ((s.size - 4 : Nat) : Int) := by rw [IntKind.wrap_i64]; omega
  have HX : Hid (s.extract 0 (s.size - 4) = foreB s) := rfl
  have hhs := foreB_size s
  clear hT
  have hne := txt_eq he
  clear he
  go_enter Tryd.func31, Tryd.ntmps31
  go_wp2_with (first | (go_at_call 30; rw [HX.out]; refine (sealed_any (foreB s) _ (by omega) HT.out).mono ?_; rintro e w' ⟨rfl, hb⟩) | (go_at_call 62; refine (ownText_any (foreB s) _ (by omega)).mono ?_; rintro e w'' ⟨rfl, hb2⟩))
  go_ret2
  exact ⟨rfl, hb.trans (hb2.mono hb.size)⟩

set_option maxRecDepth 100000 in
set_option maxHeartbeats 400000 in
theorem unsealed_no (s : ByteArray) (w : World) (h4 : 4 ≤ s.size) (hl : s.size ≤ 1048576) (hx : s.size ≤ 20004 → sealB (foreB s) ≠ s) (hT : SumTab w) :
    Calls Tryd.prog 31 #[.string s] w fun e w' => e = .returned (.tuple #[.string ⟨#[]⟩, .bool false]) ∧ Below w.heap.size w w' := by
  have HT := hide hT
  have hno : decide ((s.size : Int) < 4) = false := by simp; omega
  have hw : IntKind.i64.wrap ((s.size : Int) - 4) = ((s.size - 4 : Nat) : Int) := by rw [IntKind.wrap_i64]; omega
  have HX : Hid (s.extract 0 (s.size - 4) = foreB s) := rfl
  have hhs := foreB_size s
  clear hT
  by_cases hbig : s.size ≤ 20004
  · have hne := txt_ne (hx hbig)
    clear hx
    go_enter Tryd.func31, Tryd.ntmps31
    go_wp2_with (first | (go_at_call 30; rw [HX.out]; refine (sealed_any (foreB s) _ (by omega) HT.out).mono ?_; rintro e w' ⟨rfl, hb⟩))
    go_ret2
    exact ⟨rfl, hb⟩
  · clear hx
    go_enter Tryd.func31, Tryd.ntmps31
    go_wp2_with (first | (go_at_call 30; rw [HX.out]; refine (sealed_no (foreB s) _ (by omega)).mono ?_; rintro e w' ⟨rfl, rfl⟩))
    go_ret2
    exact ⟨rfl, Below.refl _ _⟩
end Go.Proofs.YtijmlgdeeodehabDoor
