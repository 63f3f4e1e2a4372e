/- The check sum in bytes, a text sealed and unsealed: the program's own. -/
import Derived.Test.YtaalegphjemknaaDoorSumI
import Derived.Test.YtaalegphjemknaaDoorClone
import Derived.Laws.OwnMore
namespace Go.Proofs.YtaalegphjemknaaDoor
open Go.RowKit

theorem four_cells (w : World) (a b c d : UInt8) (t5 : TypeId) : (w.alloc (.cells #[.int .u8 a.toNat, .int .u8 b.toNat, .int .u8 c.toNat, .int .u8 d.toNat] t5)).ownsRow w.heap.size t5 1 (.slice (some ⟨w.heap.size, 0, none⟩) 4 4) 4 ([a, b, c, d].map bv) :=
  World.ownsRow_lit w #[.int .u8 a.toNat, .int .u8 b.toNat, .int .u8 c.toNat, .int .u8 d.toNat] 4 (Nat.le_refl _) (by decide) rfl

theorem byte_of_div (s k : Nat) : ∃ b : UInt8, UInt8.ofNat (s / k) = b ∧ ((s : Int) / k % 256 = (b.toNat : Int)) := ⟨_, rfl, by
  simp⟩

set_option maxRecDepth 100000 in
set_option maxHeartbeats 400000 in
theorem inBytes_any (s : Nat) (w : World) (hs : s < 4294967296) :
    Calls Tryd.prog 32 #[.int .u32 s] w fun e w' => e = .returned (.string ⟨(four s).toArray⟩) ∧ Below w.heap.size w w' := by
  obtain ⟨b3, h3, e3⟩ := byte_of_div s 16777216
  obtain ⟨b2, h2, e2⟩ := byte_of_div s 65536
  obtain ⟨b1, h1, e1⟩ := byte_of_div s 256
  obtain ⟨b0, h0, e0⟩ := byte_of_div s 1
  have H4 : Hid (four s = [b3, b2, b1, b0]) := by show _ = _; rw [← h3, ← h2, ← h1, ← h0, Nat.div_one]; rfl
  have e3 : (s : Int) / 16777216 = (b3.toNat : Int) := by have := e3; omega
  have e2 : (s : Int) / 65536 % 256 = (b2.toNat : Int) := e2
  have e1 : (s : Int) / 256 % 256 = (b1.toNat : Int) := e1
  have e0 : (s : Int) % 256 = (b0.toNat : Int) := by have := e0; omega
  clear h3 h2 h1 h0
  have hcv := conv_own (P := Tryd.prog) 22 5 9 Tryd.underlying22 Tryd.underlying5 Tryd.underlying9 _ _ _ [b3, b2, b1, b0] (four_cells w b3 b2 b1 b0 5)
  go_enter Tryd.func32, Tryd.ntmps32
  go_wp2
  go_ret
  rw [H4.out]
  exact ⟨rfl, (Below.refl _ w).alloc (Nat.le_refl _) _⟩

theorem sumOf_any (s : ByteArray) (w : World) (hl : s.size ≤ 2097152) (hT : SumTab w) :
    Calls Tryd.prog 21 #[.string s] w fun e w' => e = .returned (.int .u32 (sumB 4294967295 s : Nat)) ∧ w' = w := by
  have HT := hide hT
  clear hT
  go_enter Tryd.func21, Tryd.ntmps21
  go_wp2_with (go_at_call 20; refine (sumMore_any 4294967295 s _ (by decide) hl HT.out).mono ?_; rintro e w' ⟨rfl, rfl⟩)
  go_ret
  exact ⟨rfl, rfl⟩

theorem sumB_lt (s : ByteArray) : sumB 4294967295 s < 4294967296 := sumL_lt _ (by decide)

/-- A text sealed. -/
def sealB (s : ByteArray) : ByteArray := s ++ ⟨(four (sumB 4294967295 s)).toArray⟩

theorem sealB_list (s : ByteArray) : (sealB s).data.toList = sealL s.data.toList := by
  unfold sealB sealL sumB
  simp

theorem sealB_size (s : ByteArray) : (sealB s).size = s.size + 4 := by
  unfold sealB
  rw [ByteArray.size_append]
  rfl

set_option maxRecDepth 100000 in
set_option maxHeartbeats 400000 in
theorem sealed_any (s : ByteArray) (w : World) (hl : s.size ≤ 20000) (hT : SumTab w) :
    Calls Tryd.prog 18 #[.string s] w fun e w' => e = .returned (.tuple #[.string (sealB s), .bool true]) ∧ Below w.heap.size w w' := by
  have HT := hide hT
  have hno : decide (20000 < (s.size : Int)) = false := by simp; omega
  have HE : Hid (sealB s = s ++ ⟨(four (sumB 4294967295 s)).toArray⟩) := rfl
  have hlt := sumB_lt s
  have h4 : (four (sumB 4294967295 s)).length = 4 := rfl
  clear hT
  go_enter Tryd.func18, Tryd.ntmps18
  go_wp2_with (first | (go_at_call 21; refine (sumOf_any s _ (by omega) HT.out).mono ?_; rintro e w' ⟨rfl, rfl⟩) | (go_at_call 32; refine (inBytes_any _ _ hlt).mono ?_; rintro e w' ⟨rfl, hb⟩))
  go_ret2
  rw [HE.out]
  exact ⟨rfl, hb⟩

theorem sealed_no (s : ByteArray) (w : World) (hl : 20000 < s.size) :
    Calls Tryd.prog 18 #[.string s] w fun e w' => e = .returned (.tuple #[.string ⟨#[]⟩, .bool false]) ∧ w' = w := by
  have hno : decide (20000 < (s.size : Int)) = true := by simp; omega
  go_enter Tryd.func18, Tryd.ntmps18
  go_wp2
  go_ret2
  exact ⟨rfl, rfl⟩

theorem txt_eq {a b : ByteArray} (h : a = b) : (a.toList == b.toList) = true := by rw [h]; exact beq_self_eq_true _
theorem txt_ne {a b : ByteArray} (h : a ≠ b) : (a.toList == b.toList) = false := by
  rw [beq_eq_false_iff_ne, ByteArray.toList_eq, ByteArray.toList_eq]
  intro e
  exact h (ByteArray.ext (Array.toList_inj.1 e))

/-- What a text is the seal of: its beginning, if that one's seal it is. -/
def headB (s : ByteArray) : ByteArray := s.extract 0 (s.size - 4)
theorem headB_size (s : ByteArray) : (headB s).size = s.size - 4 := by unfold headB; rw [ByteArray.size_extract]; omega

theorem unsealed_short (s : ByteArray) (w : World) (h : s.size < 4) :
    Calls Tryd.prog 19 #[.string s] w fun e w' => e = .returned (.tuple #[.string ⟨#[]⟩, .bool false]) ∧ w' = w := by
  have hno : decide ((s.size : Int) < 4) = true := by simp; omega
  go_enter Tryd.func19, Tryd.ntmps19
  go_wp2
  go_ret2
  exact ⟨rfl, rfl⟩

set_option maxRecDepth 100000 in
set_option maxHeartbeats 400000 in
theorem unsealed_yes (s : ByteArray) (w : World) (h4 : 4 ≤ s.size) (hbig : s.size ≤ 20004) (he : sealB (headB s) = s) (hT : SumTab w) :
    Calls Tryd.prog 19 #[.string s] w fun e w' => e = .returned (.tuple #[.string (headB s), .bool true]) ∧ Below w.heap.size w w' := by
  have HT := hide hT
  have hno : decide ((s.size : Int) < 4) = false := by simp; omega
  have hw : IntKind.i64.wrap ((s.size : Int) - 4) = ((s.size - 4 : Nat) : Int) := by rw [IntKind.wrap_i64]; omega
  have HX : Hid (s.extract 0 (s.size - 4) = headB s) := rfl
  have hhs := headB_size s
  clear hT
  have hne := txt_eq he
  clear he
  go_enter Tryd.func19, Tryd.ntmps19
  go_wp2_with (first | (go_at_call 18; rw [HX.out]; refine (sealed_any (headB s) _ (by omega) HT.out).mono ?_; rintro e w' ⟨rfl, hb⟩) | (go_at_call 30; refine (ownText_any (headB s) _ (by omega)).mono ?_; rintro e w'' ⟨rfl, hb2⟩))
  go_ret2
  exact ⟨rfl, hb.trans (hb2.mono hb.size)⟩

set_option maxRecDepth 100000 in
set_option maxHeartbeats 400000 in
theorem unsealed_no (s : ByteArray) (w : World) (h4 : 4 ≤ s.size) (hl : s.size ≤ 1048576) (hx : s.size ≤ 20004 → sealB (headB s) ≠ s) (hT : SumTab w) :
    Calls Tryd.prog 19 #[.string s] w fun e w' => e = .returned (.tuple #[.string ⟨#[]⟩, .bool false]) ∧ Below w.heap.size w w' := by
  have HT := hide hT
  have hno : decide ((s.size : Int) < 4) = false := by simp; omega
  have hw : IntKind.i64.wrap ((s.size : Int) - 4) = ((s.size - 4 : Nat) : Int) := by rw [IntKind.wrap_i64]; omega
  have HX : Hid (s.extract 0 (s.size - 4) = headB s) := rfl
  have hhs := headB_size s
  clear hT
  by_cases hbig : s.size ≤ 20004
  · have hne := txt_ne (hx hbig)
    clear hx
    go_enter Tryd.func19, Tryd.ntmps19
    go_wp2_with (first | (go_at_call 18; rw [HX.out]; refine (sealed_any (headB s) _ (by omega) HT.out).mono ?_; rintro e w' ⟨rfl, hb⟩))
    go_ret2
    exact ⟨rfl, hb⟩
  · clear hx
    go_enter Tryd.func19, Tryd.ntmps19
    go_wp2_with (first | (go_at_call 18; rw [HX.out]; refine (sealed_no (headB s) _ (by omega)).mono ?_; rintro e w' ⟨rfl, rfl⟩))
    go_ret2
    exact ⟨rfl, Below.refl _ _⟩
end Go.Proofs.YtaalegphjemknaaDoor
