/- The check sum in bytes, a text sealed and unsealed: the program's own. -/
import Derived.Test.YtmmchemgegmhhaaGreatDoorSumI
import Derived.Test.YtmmchemgegmhhaaGreatDoorClone
import Derived.Laws.OwnMore
namespace Go.Proofs.YtmmchemgegmhhaaGreatDoor
open Go.RowKit

theorem four_cells (w : World) (a b c d : UInt8) (t5 : TypeId) : (w.alloc (.cells #[.int .u8 a.toNat, .int .u8 b.toNat, .int .u8 c.toNat, .int .u8 d.toNat] t5)).ownsRow w.heap.size t5 1 (.slice (some ⟨w.heap.size, 0, none⟩) 4 4) 4 ([a, b, c, d].map bv) :=
  World.ownsRow_lit w #[.int .u8 a.toNat, .int .u8 b.toNat, .int .u8 c.toNat, .int .u8 d.toNat] 4 (Nat.le_refl _) (by decide) rfl

theorem byte_of_div (s k : Nat) : ∃ b : UInt8, UInt8.ofNat (s / k) = b ∧ ((s : Int) / k % 256 = (b.toNat : Int)) := ⟨_, rfl, by
  simp⟩

set_option maxRecDepth 100000 in
set_option maxHeartbeats 400000 in
theorem inBytes_any (s : Nat) (w : World) (hs : s < 4294967296) :
    Calls Tryz.prog 128 #[.int .u32 s] w fun e w' => e = .returned (.string ⟨(four s).toArray⟩) ∧ Below w.heap.size w w' := by
  obtain ⟨b3, h3, e3⟩ := byte_of_div s 16777216
  obtain ⟨b2, h2, e2⟩ := byte_of_div s 65536
  obtain ⟨b1, h1, e1⟩ := byte_of_div s 256
  obtain ⟨b0, h0, e0⟩ := byte_of_div s 1
  have H4 : Hid (four s = [b3, b2, b1, b0]) := by show _ = _; rw [← h3, ← h2, ← h1, ← h0, Nat.div_one]; rfl
  have e3 : (s : Int) / 16777216 = (b3.toNat : Int) := by have := e3; omega
  have e2 : (s : Int) / 65536 % 256 = (b2.toNat : Int) := e2
  have e1 : (s : Int) / 256 % 256 = (b1.toNat : Int) := e1
  have e0 : (s : Int) % 256 = (b0.toNat : Int) := by have := e0; omega
  clear h3 h2 h1 h0
  have hcv := conv_own (P := Tryz.prog) 22 5 9 Tryz.underlying22 Tryz.underlying5 Tryz.underlying9 _ _ _ [b3, b2, b1, b0] (four_cells w b3 b2 b1 b0 5)
  go_enter Tryz.func128, Tryz.ntmps128
  go_wp2
  go_ret
  rw [H4.out]
  exact ⟨rfl, (Below.refl _ w).alloc (Nat.le_refl _) _⟩

theorem sumOf_any (s : ByteArray) (w : World) (hl : s.size ≤ 2097152) (hT : SumTab w) :
    Calls Tryz.prog 127 #[.string s] w fun e w' => e = .returned (.int .u32 (sumB 4294967295 s : Nat)) ∧ w' = w := by
  have HT := hide hT
  clear hT
  go_enter Tryz.func127, Tryz.ntmps127
  go_wp2_with (go_at_call 164; refine (sumMore_any 4294967295 s _ (by decide) hl HT.out).mono ?_; rintro e w' ⟨rfl, rfl⟩)
  go_ret
  exact ⟨rfl, rfl⟩

theorem sumB_lt (s : ByteArray) : sumB 4294967295 s < 4294967296 := sumL_lt _ (by decide)
end Go.Proofs.YtmmchemgegmhhaaGreatDoor
