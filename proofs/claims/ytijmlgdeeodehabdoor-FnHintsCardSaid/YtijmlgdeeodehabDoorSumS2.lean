/- A text sealed and unsealed: the specification's. -/
import Derived.Test.YtijmlgdeeodehabDoorSumI2
import Derived.Test.YtijmlgdeeodehabDoorOne
namespace Go.Proofs.YtijmlgdeeodehabDoor
open Go.RowKit

set_option maxRecDepth 100000 in
set_option maxHeartbeats 400000 in
theorem specSealed_any (s : ByteArray) (w : World) (hl : s.size ≤ 20000) :
    Calls Tryd.prog 36 #[.string s] w fun e w' => e = .returned (.tuple #[.string (sealB s), .bool true]) ∧ Below w.heap.size w w' := by
  have hno : decide (20000 < (s.size : Int)) = false := by simp; omega
  have HE : Hid (sealB s = s ++ ⟨(four (sumB 4294967295 s)).toArray⟩) := rfl
  have hlt := sumB_lt s
  have h4 : (four (sumB 4294967295 s)).length = 4 := rfl
  go_enter Tryd.func36, Tryd.ntmps36
  go_wp2_with (first | (go_at_call 67; refine (specOf_any s _ (by omega)).mono ?_; rintro e w' ⟨rfl, rfl⟩) | (go_at_call 66; refine (specFour_any _ _ hlt).mono ?_; rintro e w' ⟨rfl, hb⟩))
  go_ret2
  rw [HE.out]
  exact ⟨rfl, hb⟩

theorem specSealed_no (s : ByteArray) (w : World) (hl : 20000 < s.size) :
    Calls Tryd.prog 36 #[.string s] w fun e w' => e = .returned (.tuple #[.string ⟨#[]⟩, .bool false]) ∧ w' = w := by
  have hno : decide (20000 < (s.size : Int)) = true := by simp; omega
  go_enter Tryd.func36, Tryd.ntmps36
  go_wp2
  go_ret2
  exact ⟨rfl, rfl⟩

/-- The last four bytes. -/
def tailB (s : ByteArray) : ByteArray := s.extract (s.size - 4) s.size
theorem head_tail (s : ByteArray) : foreB s ++ tailB s = s := by
  apply ByteArray.ext
  apply Array.toList_inj.1
  simp [foreB, tailB]
theorem tail_test (s : ByteArray) (h : sealB (foreB s) = s) : tailB s = ⟨(four (sumB 4294967295 (foreB s))).toArray⟩ := by
  have e : foreB s ++ tailB s = foreB s ++ ⟨(four (sumB 4294967295 (foreB s))).toArray⟩ := (head_tail s).trans h.symm
  have e2 := congrArg (fun x : ByteArray => x.data.toList) e
  simp only [ByteArray.data_append, Array.toList_append] at e2
  exact ByteArray.ext (Array.toList_inj.1 (List.append_cancel_left e2))
theorem tail_test' (s : ByteArray) (h : sealB (foreB s) ≠ s) : tailB s ≠ ⟨(four (sumB 4294967295 (foreB s))).toArray⟩ := by
  intro e
  apply h
  unfold sealB
  rw [← e, head_tail]

theorem four_list (l : List UInt8) : (⟨l.toArray⟩ : ByteArray).toList = l := by rw [ByteArray.toList_eq]

theorem specUnsealed_short (s : ByteArray) (w : World) (h : s.size < 4) :
    Calls Tryd.prog 38 #[.string s] w fun e w' => e = .returned (.tuple #[.string ⟨#[]⟩, .bool false]) ∧ Below w.heap.size w w' := by
  have hw : IntKind.i64.wrap ((s.size : Int) - 4) = (s.size : Int) - 4 := by rw [IntKind.wrap_i64]; omega
  have hno : decide ((s.size : Int) - 4 < 0) = true := by simp; omega
  go_enter Tryd.func38, Tryd.ntmps38
  go_wp2
  go_quiet (fail)
  go_wp2
  go_ret2
  exact ⟨rfl, below_drewN (Below.refl _ _) _⟩

theorem specUnsealed_long (s : ByteArray) (w : World) (h : 20004 < s.size) (hl : s.size ≤ 1048576) :
    Calls Tryd.prog 38 #[.string s] w fun e w' => e = .returned (.tuple #[.string ⟨#[]⟩, .bool false]) ∧ Below w.heap.size w w' := by
  have hw : IntKind.i64.wrap ((s.size : Int) - 4) = (s.size : Int) - 4 := by rw [IntKind.wrap_i64]; omega
  have hno : decide ((s.size : Int) - 4 < 0) = false := by simp; omega
  have hno2 : decide (20000 < (s.size : Int) - 4) = true := by simp; omega
  go_enter Tryd.func38, Tryd.ntmps38
  go_wp2
  go_quiet (fail)
  go_wp2
  go_ret2
  exact ⟨rfl, below_drewN (Below.refl _ _) _⟩

theorem cut_head (s : ByteArray) (h : 4 ≤ s.size) (n : Nat) (hn : n + 4 = s.size) : ∀ W : World, (Instr.slice 9 (.string s) none (some (.int .i64 (n : Int))) none).run Tryd.prog W = .ok (.string (foreB s)) W := by
  intro W
  rw [run_slice_string_to_if W 9 s .i64 (n : Int) Tryd.underlying9, if_pos (by omega), Int.toNat_natCast, show n = s.size - 4 by omega]; rfl
theorem cut_tail (s : ByteArray) (h : 4 ≤ s.size) (n : Nat) (hn : n + 4 = s.size) : ∀ W : World, (Instr.slice 9 (.string s) (some (.int .i64 (n : Int))) none none).run Tryd.prog W = .ok (.string (tailB s)) W := by
  intro W
  rw [run_slice_string_from_if W 9 s .i64 (n : Int) Tryd.underlying9, if_pos (by omega), Int.toNat_natCast, show n = s.size - 4 by omega]; rfl

set_option maxRecDepth 100000 in
set_option maxHeartbeats 800000 in
theorem specUnsealed_yes (s : ByteArray) (w : World) (h4 : 4 ≤ s.size) (hbig : s.size ≤ 20004) (he : sealB (foreB s) = s) :
    Calls Tryd.prog 38 #[.string s] w fun e w' => e = .returned (.tuple #[.string (foreB s), .bool true]) ∧ Below w.heap.size w w' := by
  obtain ⟨n, hn⟩ : ∃ n, n + 4 = s.size := ⟨s.size - 4, by omega⟩
  have hw : IntKind.i64.wrap ((s.size : Int) - 4) = (n : Int) := by rw [IntKind.wrap_i64]; omega
  have hno : decide ((n : Int) < 0) = false := by simp
  have hno2 : decide (20000 < (n : Int)) = false := by simp; omega
  have hc1 := cut_head s h4 n hn
  have hc2 := cut_tail s h4 n hn
  have hne : ((tailB s).toList == four (sumB 4294967295 (foreB s))) = true := by have := txt_eq (tail_test s he); rwa [four_list (four (sumB 4294967295 (foreB s)))] at this
  have hhs := foreB_size s
  have hlt := sumB_lt (foreB s)
  clear he
  go_enter Tryd.func38, Tryd.ntmps38
  go_wp2
  go_region_held3 (fun _ => True) (trivial) ((first | (go_at_call 67; refine (specOf_any (foreB s) _ (by omega)).mono ?_; rintro e w' ⟨rfl, rfl⟩) | (go_at_call 66; refine (specFour_any _ _ hlt).mono ?_; rintro e w' ⟨rfl, hb⟩)))
  go_wp2
  go_ret2
  exact ⟨rfl, (Below.refl _ _).drew.trans hb⟩

set_option maxRecDepth 100000 in
set_option maxHeartbeats 800000 in
theorem specUnsealed_no (s : ByteArray) (w : World) (h4 : 4 ≤ s.size) (hbig : s.size ≤ 20004) (he : sealB (foreB s) ≠ s) :
    Calls Tryd.prog 38 #[.string s] w fun e w' => e = .returned (.tuple #[.string ⟨#[]⟩, .bool false]) ∧ Below w.heap.size w w' := by
  obtain ⟨n, hn⟩ : ∃ n, n + 4 = s.size := ⟨s.size - 4, by omega⟩
  have hw : IntKind.i64.wrap ((s.size : Int) - 4) = (n : Int) := by rw [IntKind.wrap_i64]; omega
  have hno : decide ((n : Int) < 0) = false := by simp
  have hno2 : decide (20000 < (n : Int)) = false := by simp; omega
  have hc1 := cut_head s h4 n hn
  have hc2 := cut_tail s h4 n hn
  have hne : ((tailB s).toList == four (sumB 4294967295 (foreB s))) = false := by have := txt_ne (tail_test' s he); rwa [four_list (four (sumB 4294967295 (foreB s)))] at this
  have hhs := foreB_size s
  have hlt := sumB_lt (foreB s)
  clear he
  go_enter Tryd.func38, Tryd.ntmps38
  go_wp2
  go_region_held3 (fun _ => True) (trivial) ((first | (go_at_call 67; refine (specOf_any (foreB s) _ (by omega)).mono ?_; rintro e w' ⟨rfl, rfl⟩) | (go_at_call 66; refine (specFour_any _ _ hlt).mono ?_; rintro e w' ⟨rfl, hb⟩)))
  go_wp2
  go_ret2
  exact ⟨rfl, (Below.refl _ _).drew.trans hb⟩

end Go.Proofs.YtijmlgdeeodehabDoor
