/- A text sealed and unsealed: the specification's. -/
import Derived.Test.YtjfagmjajpnacalDoorSumI2
import Derived.Test.YtjfagmjajpnacalDoorOne
namespace Go.Proofs.YtjfagmjajpnacalDoor
open Go.RowKit

set_option maxRecDepth 100000 in
set_option maxHeartbeats 400000 in
theorem specSealed_any (s : ByteArray) (w : World) (hl : s.size ≤ 20000) :
    Calls Tryd.prog 42 #[.string s] w fun e w' => e = .returned (.tuple #[.string (sealB s), .bool true]) ∧ Below w.heap.size w w' := by
  have hno : decide (20000 < (s.size : Int)) = false := by simp; omega
  have HE : Hid (sealB s = s ++ ⟨(four (sumB 4294967295 s)).toArray⟩) := rfl
  have hlt := sumB_lt s
  have h4 : (four (sumB 4294967295 s)).length = 4 := rfl
  go_enter Tryd.func42, Tryd.ntmps42
  go_wp2_with (first | (go_at_call 69; refine (specOf_any s _ (by omega)).mono ?_; rintro e w' ⟨rfl, rfl⟩) | (go_at_call 68; refine (specFour_any _ _ hlt).mono ?_; rintro e w' ⟨rfl, hb⟩))
  go_ret2
  rw [HE.out]
  exact ⟨rfl, hb⟩

theorem specSealed_no (s : ByteArray) (w : World) (hl : 20000 < s.size) :
    Calls Tryd.prog 42 #[.string s] w fun e w' => e = .returned (.tuple #[.string ⟨#[]⟩, .bool false]) ∧ w' = w := by
  have hno : decide (20000 < (s.size : Int)) = true := by simp; omega
  go_enter Tryd.func42, Tryd.ntmps42
  go_wp2
  go_ret2
  exact ⟨rfl, rfl⟩

/-- The last four bytes. -/
def tailB (s : ByteArray) : ByteArray := s.extract (s.size - 4) s.size
theorem head_tail (s : ByteArray) : foreB s ++ tailB s = s := by
  apply ByteArray.ext
  apply Array.toList_inj.1
  simp [foreB, tailB]
theorem tail_test (s : ByteArray) (h : sealB (foreB s) = s) : tailB s = ⟨(four (sumB 4294967295 (foreB s))).toArray⟩ := by
  have e : foreB s ++ tailB s = foreB s ++ ⟨(four (sumB 4294967295 (foreB s))).toArray⟩ := (head_tail s).trans h.symm
  have e2 := congrArg (fun x : ByteArray => x.data.toList) e
  simp only [ByteArray.data_append, Array.toList_append] at e2
  exact ByteArray.ext (Array.toList_inj.1 (List.append_cancel_left e2))
theorem tail_test' (s : ByteArray) (h : sealB (foreB s) ≠ s) : tailB s ≠ ⟨(four (sumB 4294967295 (foreB s))).toArray⟩ := by
  intro e
  apply h
  unfold sealB
  rw [← e, head_tail]

theorem four_list (l : List UInt8) : (⟨l.toArray⟩ : ByteArray).toList = l := by rw [ByteArray.toList_eq]

theorem cut_head (s : ByteArray) (h : 4 ≤ s.size) (n : Nat) (hn : n + 4 = s.size) : ∀ W : World, (Instr.slice 9 (.string s) none (some (.int .i64 (n : Int))) none).run Tryd.prog W = .ok (.string (foreB s)) W := by
  intro W
  rw [run_slice_string_to_if W 9 s .i64 (n : Int) Tryd.underlying9, if_pos (by omega), Int.toNat_natCast, show n = s.size - 4 by omega]; rfl
theorem cut_tail (s : ByteArray) (h : 4 ≤ s.size) (n : Nat) (hn : n + 4 = s.size) : ∀ W : World, (Instr.slice 9 (.string s) (some (.int .i64 (n : Int))) none none).run Tryd.prog W = .ok (.string (tailB s)) W := by
  intro W
  rw [run_slice_string_from_if W 9 s .i64 (n : Int) Tryd.underlying9, if_pos (by omega), Int.toNat_natCast, show n = s.size - 4 by omega]; rfl

end Go.Proofs.YtjfagmjajpnacalDoor
