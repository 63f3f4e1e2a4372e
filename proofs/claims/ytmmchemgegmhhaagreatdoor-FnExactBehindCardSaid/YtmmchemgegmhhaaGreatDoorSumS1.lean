/- The check sum in bytes, a text sealed and unsealed: the specification's. -/
import Derived.Test.YtmmchemgegmhhaaGreatDoorSumQ
import Derived.Test.YtmmchemgegmhhaaGreatDoorSumS
namespace Go.Proofs.YtmmchemgegmhhaaGreatDoor
open Go.RowKit

set_option maxRecDepth 100000 in
set_option maxHeartbeats 400000 in
theorem specFour_any (s : Nat) (w : World) (hs : s < 4294967296) :
    Calls Tryz.prog 111 #[.int .u32 s] w fun e w' => e = .returned (.string ⟨(four s).toArray⟩) ∧ Below w.heap.size w w' := by
  obtain ⟨b3, h3, e3⟩ := byte_of_div s 16777216
  obtain ⟨b2, h2, e2⟩ := byte_of_div s 65536
  obtain ⟨b1, h1, e1⟩ := byte_of_div s 256
  obtain ⟨b0, h0, e0⟩ := byte_of_div s 1
  have H4 : Hid (four s = [b3, b2, b1, b0]) := by show _ = _; rw [← h3, ← h2, ← h1, ← h0, Nat.div_one]; rfl
  have e3 : (s : Int) / 16777216 = (b3.toNat : Int) := by have := e3; omega
  have e2 : (s : Int) / 65536 % 256 = (b2.toNat : Int) := e2
  have e1 : (s : Int) / 256 % 256 = (b1.toNat : Int) := e1
  have e0 : (s : Int) % 256 = (b0.toNat : Int) := by have := e0; omega
  clear h3 h2 h1 h0
  have hcv := conv_own (P := Tryz.prog) 22 5 9 Tryz.underlying22 Tryz.underlying5 Tryz.underlying9 _ _ _ [b3, b2, b1, b0] (four_cells w b3 b2 b1 b0 5)
  go_enter Tryz.func111, Tryz.ntmps111
  go_wp2
  go_ret
  rw [H4.out]
  exact ⟨rfl, (Below.refl _ w).alloc (Nat.le_refl _) _⟩

theorem specOf_any (s : ByteArray) (w : World) (hl : s.size ≤ 2097152) :
    Calls Tryz.prog 112 #[.string s] w fun e w' => e = .returned (.int .u32 (sumB 4294967295 s : Nat)) ∧ w' = w := by
  go_enter Tryz.func112, Tryz.ntmps112
  go_wp2_with (go_at_call 151; refine (specMore_any 4294967295 s _ (by decide) hl).mono ?_; rintro e w' ⟨rfl, rfl⟩)
  go_ret
  exact ⟨rfl, rfl⟩
end Go.Proofs.YtmmchemgegmhhaaGreatDoor
