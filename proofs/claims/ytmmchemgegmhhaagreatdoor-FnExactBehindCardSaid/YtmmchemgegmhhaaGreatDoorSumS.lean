/- The check sum: the specification's. -/
import Derived.Test.YtmmchemgegmhhaaGreatDoorSumI
namespace Go.Proofs.YtmmchemgegmhhaaGreatDoor
open Go.RowKit

set_option maxRecDepth 100000 in
set_option maxHeartbeats 800000 in
theorem specMore_any (q0 : Nat) (s : ByteArray) (w : World) (hq0 : q0 < 4294967296) (hl : s.size ≤ 2097152) :
    Calls Tryz.prog 151 #[.int .u32 q0, .string s] w fun e w' => e = .returned (.int .u32 (sumB q0 s : Nat)) ∧ w' = w := by
  go_enter Tryz.func151, Tryz.ntmps151
  go_wp2
  go_loop [0, 5] (fun t u => ∃ (k q : Nat), t = .int .u32 q ∧ u = .int .i64 k ∧ k ≤ s.size ∧ q < 4294967296 ∧ Hid (sumFrom q s k = sumB q0 s)) (fun _ u => s.size - (intOf u).toNat)
  case atStart => exact ⟨0, q0, rfl, rfl, by omega, hq0, rfl⟩
  case round =>
    obtain ⟨k, q, rfl, rfl, hk, hq, hrest⟩ := hrel
    by_cases hlt : k < s.size
    · have hlt' : decide ((k : Int) < (s.size : Int)) = true := by simp; omega
      have HS := hide (sumFrom_step q s k hlt)
      obtain ⟨b, hbt, hb256⟩ : ∃ b : Nat, (s[k]'hlt).toNat = b ∧ b < 256 := ⟨_, rfl, byte_lt _⟩
      rw [hbt] at HS
      have hx0 := u32_xor_nat q b hq (by omega)
      have hx1 := xor_lt32 hq (show b < 4294967296 by omega)
      have HX : Hid (sb q b = hvN 8 (q ^^^ b)) := rfl
      have hq' := sb_lt hq hb256
      generalize q ^^^ b = x at hx0 hx1 HX
      go_wp2
      go_loop [0, 6] (fun t u => ∃ (j y : Nat), t = .int .u32 y ∧ u = .int .i64 j ∧ j ≤ 8 ∧ y < 4294967296 ∧ Hid (hvN (8 - j) y = hvN 8 x)) (fun _ u => 8 - (intOf u).toNat)
      case atStart => exact ⟨0, x, rfl, rfl, by omega, hx1, rfl⟩
      case round =>
        obtain ⟨j, y, rfl, rfl, hj, hy, HY⟩ := hrel
        by_cases hj8 : j < 8
        · have hj8' : decide ((j : Int) < 8) = true := by simp; omega
          have HN : Hid (hvN (8 - (j + 1)) (hv y) = hvN 8 x) := by
            show _ = _
            rw [← HY.out, show 8 - j = (8 - (j + 1)) + 1 by omega]; rfl
          have hy' := hv_lt hy
          by_cases hodd : y % 2 = 1
          · have ho : decide ((y : Int) % 2 = 1) = true := by simp; omega
            have ho2 : ((y : Int) % 2 == 1) = true := by simp; omega
            have hz := u32_xor_nat (y / 2) 3558460437 (by omega) (by decide)
            have hv1 : y / 2 ^^^ 3558460437 = hv y := by unfold hv; rw [if_pos hodd]
            rw [hv1, show ((y / 2 : Nat) : Int) = (y : Int) / 2 by omega] at hz
            have hz : bits .xor .u32 ((y : Int) / 2) 3558460437 = (hv y : Int) := hz
            clear hv1
            generalize hv y = z at HN hy' hz
            go_wp2
            go_round
            case rel => exact ⟨j + 1, z, rfl, by go_num, by omega, hy', HN⟩
            case measure => simp [intOf]; omega
          · have ho : decide ((y : Int) % 2 = 1) = false := by simp; omega
            have ho2 : ((y : Int) % 2 == 1) = false := by simp; omega
            have hv1 : hv y = y / 2 := by unfold hv; rw [if_neg hodd]
            rw [hv1] at HN hy'
            clear hv1
            go_wp2
            go_round
            case rel => exact ⟨j + 1, y / 2, by go_num, by go_num, by omega, hy', HN⟩
            case measure => simp [intOf]; omega
        · have hj8' : decide ((j : Int) < 8) = false := by simp; omega
          have HN : Hid (y = sb q b) := by
            show _ = _
            rw [HX.out, ← HY.out, show 8 - j = 0 by omega]; rfl
          go_wp2
          go_round
          case rel =>
            refine ⟨k + 1, sb q b, by rw [HN.out], by go_num, by omega, hq', ?_⟩
            show _ = _
            rw [← hrest.out, HS.out]
          case measure => simp [intOf]; omega
    · have hlt' : decide ((k : Int) < (s.size : Int)) = false := by simp; omega
      have HF : Hid (sumB q0 s = q) := by show _ = _; rw [← hrest.out, sumFrom_end _ _ _ (by omega)]
      go_wp2
      go_ret
      rw [HF.out]
      exact ⟨rfl, rfl⟩
end Go.Proofs.YtmmchemgegmhhaaGreatDoor
