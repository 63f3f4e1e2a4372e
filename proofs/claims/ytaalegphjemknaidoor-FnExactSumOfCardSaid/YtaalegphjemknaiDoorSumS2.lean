/- The check sum in bytes, a text sealed and unsealed: the specification's. -/
import Derived.Test.YtaalegphjemknaiDoorSumI2
import Derived.Test.YtaalegphjemknaiDoorSumS
namespace Go.Proofs.YtaalegphjemknaiDoor
open Go.RowKit

set_option maxRecDepth 100000 in
set_option maxHeartbeats 400000 in
theorem specFour_any (s : Nat) (w : World) (hs : s < 4294967296) :
    Calls Tryd.prog 14 #[.int .u32 s] w fun e w' => e = .returned (.string ⟨(four s).toArray⟩) ∧ Below w.heap.size w w' := by
  obtain ⟨b3, h3, e3⟩ := byte_of_div s 16777216
  obtain ⟨b2, h2, e2⟩ := byte_of_div s 65536
  obtain ⟨b1, h1, e1⟩ := byte_of_div s 256
  obtain ⟨b0, h0, e0⟩ := byte_of_div s 1
  have H4 : Hid (four s = [b3, b2, b1, b0]) := by show _ = _; rw [← h3, ← h2, ← h1, ← h0, Nat.div_one]; rfl
  have e3 : (s : Int) / 16777216 = (b3.toNat : Int) := by have := e3; omega
  have e2 : (s : Int) / 65536 % 256 = (b2.toNat : Int) := e2
  have e1 : (s : Int) / 256 % 256 = (b1.toNat : Int) := e1
  have e0 : (s : Int) % 256 = (b0.toNat : Int) := by have := e0; omega
  clear h3 h2 h1 h0
  have hcv := conv_own (P := Tryd.prog) 34 5 9 Tryd.underlying34 Tryd.underlying5 Tryd.underlying9 _ _ _ [b3, b2, b1, b0] (four_cells w b3 b2 b1 b0 5)
  go_enter Tryd.func14, Tryd.ntmps14
  go_wp2
  go_ret
  rw [H4.out]
  exact ⟨rfl, (Below.refl _ w).alloc (Nat.le_refl _) _⟩

theorem specOf_any (s : ByteArray) (w : World) (hl : s.size ≤ 2097152) :
    Calls Tryd.prog 6 #[.string s] w fun e w' => e = .returned (.int .u32 (sumB 4294967295 s : Nat)) ∧ w' = w := by
  go_enter Tryd.func6, Tryd.ntmps6
  go_wp2_with (go_at_call 12; refine (specMore_any 4294967295 s _ (by decide) hl).mono ?_; rintro e w' ⟨rfl, rfl⟩)
  go_ret
  exact ⟨rfl, rfl⟩

set_option maxRecDepth 100000 in
set_option maxHeartbeats 400000 in
theorem specSealed_any (s : ByteArray) (w : World) (hl : s.size ≤ 20000) :
    Calls Tryd.prog 8 #[.string s] w fun e w' => e = .returned (.tuple #[.string (sealB s), .bool true]) ∧ Below w.heap.size w w' := by
  have hno : decide (20000 < (s.size : Int)) = false := by simp; omega
  have HE : Hid (sealB s = s ++ ⟨(four (sumB 4294967295 s)).toArray⟩) := rfl
  have hlt := sumB_lt s
  have h4 : (four (sumB 4294967295 s)).length = 4 := rfl
  go_enter Tryd.func8, Tryd.ntmps8
  go_wp2_with (first | (go_at_call 6; refine (specOf_any s _ (by omega)).mono ?_; rintro e w' ⟨rfl, rfl⟩) | (go_at_call 14; refine (specFour_any _ _ hlt).mono ?_; rintro e w' ⟨rfl, hb⟩))
  go_ret2
  rw [HE.out]
  exact ⟨rfl, hb⟩

theorem specSealed_no (s : ByteArray) (w : World) (hl : 20000 < s.size) :
    Calls Tryd.prog 8 #[.string s] w fun e w' => e = .returned (.tuple #[.string ⟨#[]⟩, .bool false]) ∧ w' = w := by
  have hno : decide (20000 < (s.size : Int)) = true := by simp; omega
  go_enter Tryd.func8, Tryd.ntmps8
  go_wp2
  go_ret2
  exact ⟨rfl, rfl⟩

/-- The last four bytes. -/
def tailB (s : ByteArray) : ByteArray := s.extract (s.size - 4) s.size
theorem head_tail (s : ByteArray) : headB s ++ tailB s = s := by
  apply ByteArray.ext
  apply Array.toList_inj.1
  simp [headB, tailB]
theorem tail_test (s : ByteArray) (h : sealB (headB s) = s) : tailB s = ⟨(four (sumB 4294967295 (headB s))).toArray⟩ := by
  have e : headB s ++ tailB s = headB s ++ ⟨(four (sumB 4294967295 (headB s))).toArray⟩ := (head_tail s).trans h.symm
  have e2 := congrArg (fun x : ByteArray => x.data.toList) e
  simp only [ByteArray.data_append, Array.toList_append] at e2
  exact ByteArray.ext (Array.toList_inj.1 (List.append_cancel_left e2))
theorem tail_test' (s : ByteArray) (h : sealB (headB s) ≠ s) : tailB s ≠ ⟨(four (sumB 4294967295 (headB s))).toArray⟩ := by
  intro e
  apply h
  unfold sealB
  rw [← e, head_tail]

theorem four_list (l : List UInt8) : (⟨l.toArray⟩ : ByteArray).toList = l := by rw [ByteArray.toList_eq]

theorem specUnsealed_short (s : ByteArray) (w : World) (h : s.size < 4) :
    Calls Tryd.prog 10 #[.string s] w fun e w' => e = .returned (.tuple #[.string ⟨#[]⟩, .bool false]) ∧ Below w.heap.size w w' := by
  have hw : IntKind.i64.wrap ((s.size : Int) - 4) = (s.size : Int) - 4 := by rw [IntKind.wrap_i64]; omega
  have hno : decide ((s.size : Int) - 4 < 0) = true := by simp; omega
  go_enter Tryd.func10, Tryd.ntmps10
  go_wp2
  go_quiet (fail)
  go_wp2
  go_ret2
  exact ⟨rfl, below_drewN (Below.refl _ _) _⟩

theorem specUnsealed_long (s : ByteArray) (w : World) (h : 20004 < s.size) (hl : s.size ≤ 1048576) :
    Calls Tryd.prog 10 #[.string s] w fun e w' => e = .returned (.tuple #[.string ⟨#[]⟩, .bool false]) ∧ Below w.heap.size w w' := by
  have hw : IntKind.i64.wrap ((s.size : Int) - 4) = (s.size : Int) - 4 := by rw [IntKind.wrap_i64]; omega
  have hno : decide ((s.size : Int) - 4 < 0) = false := by simp; omega
  have hno2 : decide (20000 < (s.size : Int) - 4) = true := by simp; omega
  go_enter Tryd.func10, Tryd.ntmps10
  go_wp2
  go_quiet (fail)
  go_wp2
  go_ret2
  exact ⟨rfl, below_drewN (Below.refl _ _) _⟩

theorem cut_head (s : ByteArray) (h : 4 ≤ s.size) (n : Nat) (hn : n + 4 = s.size) : ∀ W : World, (Instr.slice 9 (.string s) none (some (.int .i64 (n : Int))) none).run Tryd.prog W = .ok (.string (headB s)) W := by
  intro W
  rw [run_slice_string_to_if W 9 s .i64 (n : Int) Tryd.underlying9, if_pos (by omega), Int.toNat_natCast, show n = s.size - 4 by omega]; rfl
theorem cut_tail (s : ByteArray) (h : 4 ≤ s.size) (n : Nat) (hn : n + 4 = s.size) : ∀ W : World, (Instr.slice 9 (.string s) (some (.int .i64 (n : Int))) none none).run Tryd.prog W = .ok (.string (tailB s)) W := by
  intro W
  rw [run_slice_string_from_if W 9 s .i64 (n : Int) Tryd.underlying9, if_pos (by omega), Int.toNat_natCast, show n = s.size - 4 by omega]; rfl

set_option maxRecDepth 100000 in
set_option maxHeartbeats 800000 in
theorem specUnsealed_yes (s : ByteArray) (w : World) (h4 : 4 ≤ s.size) (hbig : s.size ≤ 20004) (he : sealB (headB s) = s) :
    Calls Tryd.prog 10 #[.string s] w fun e w' => e = .returned (.tuple #[.string (headB s), .bool true]) ∧ Below w.heap.size w w' := by
  obtain ⟨n, hn⟩ : ∃ n, n + 4 = s.size := ⟨s.size - 4, by omega⟩
  have hw : IntKind.i64.wrap ((s.size : Int) - 4) = (n : Int) := by rw [IntKind.wrap_i64]; omega
  have hno : decide ((n : Int) < 0) = false := by simp
  have hno2 : decide (20000 < (n : Int)) = false := by simp; omega
  have hc1 := cut_head s h4 n hn
  have hc2 := cut_tail s h4 n hn
  have hne : ((tailB s).toList == four (sumB 4294967295 (headB s))) = true := by have := txt_eq (tail_test s he); rwa [four_list (four (sumB 4294967295 (headB s)))] at this
  have hhs := headB_size s
  have hlt := sumB_lt (headB s)
  clear he
  go_enter Tryd.func10, Tryd.ntmps10
  go_wp2
  go_region_held3 (fun _ => True) (trivial) ((first | (go_at_call 6; refine (specOf_any (headB s) _ (by omega)).mono ?_; rintro e w' ⟨rfl, rfl⟩) | (go_at_call 14; refine (specFour_any _ _ hlt).mono ?_; rintro e w' ⟨rfl, hb⟩)))
  go_wp2
  go_ret2
  exact ⟨rfl, (Below.refl _ _).drew.trans hb⟩

set_option maxRecDepth 100000 in
set_option maxHeartbeats 800000 in
theorem specUnsealed_no (s : ByteArray) (w : World) (h4 : 4 ≤ s.size) (hbig : s.size ≤ 20004) (he : sealB (headB s) ≠ s) :
    Calls Tryd.prog 10 #[.string s] w fun e w' => e = .returned (.tuple #[.string ⟨#[]⟩, .bool false]) ∧ Below w.heap.size w w' := by
  obtain ⟨n, hn⟩ : ∃ n, n + 4 = s.size := ⟨s.size - 4, by omega⟩
  have hw : IntKind.i64.wrap ((s.size : Int) - 4) = (n : Int) := by rw [IntKind.wrap_i64]; omega
  have hno : decide ((n : Int) < 0) = false := by simp
  have hno2 : decide (20000 < (n : Int)) = false := by simp; omega
  have hc1 := cut_head s h4 n hn
  have hc2 := cut_tail s h4 n hn
  have hne : ((tailB s).toList == four (sumB 4294967295 (headB s))) = false := by have := txt_ne (tail_test' s he); rwa [four_list (four (sumB 4294967295 (headB s)))] at this
  have hhs := headB_size s
  have hlt := sumB_lt (headB s)
  clear he
  go_enter Tryd.func10, Tryd.ntmps10
  go_wp2
  go_region_held3 (fun _ => True) (trivial) ((first | (go_at_call 6; refine (specOf_any (headB s) _ (by omega)).mono ?_; rintro e w' ⟨rfl, rfl⟩) | (go_at_call 14; refine (specFour_any _ _ hlt).mono ?_; rintro e w' ⟨rfl, hb⟩)))
  go_wp2
  go_ret2
  exact ⟨rfl, (Below.refl _ _).drew.trans hb⟩

end Go.Proofs.YtaalegphjemknaiDoor
