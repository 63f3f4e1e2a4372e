/- The place of a file of a name. -/
import Derived.Test.YtmmchemgegmhhaaGreatDoorDiskK
namespace Go.Proofs.YtmmchemgegmhhaaGreatDoor
open Go.RowKit

set_option maxRecDepth 100000 in
set_option maxHeartbeats 800000 in
theorem l03At_any (fs : List FileD) (ao : Option Addr) (cap : Nat) (nm : ByteArray) (w : World) (hl : fs.length ≤ 1048576) (hfs : FilesAt w ao fs) :
    Calls Tryz.prog 106 #[.agg #[.slice ao fs.length cap], .string nm] w fun e w' => e = .returned (.int .i64 (atFrom nm 0 fs)) ∧ Below w.heap.size w w' := by
  have HF := hide hfs
  clear hfs
  obtain ⟨R, HR⟩ : ∃ R, Hid (atFrom nm 0 (fs.drop 0) = R) := ⟨_, hide rfl⟩
  have e : atFrom nm 0 fs = R := HR.out
  rw [e]
  clear e
  have HB0 : Hid (Below w.heap.size w (w.alloc (.cells #[.slice ao fs.length cap] 27))) := (Below.refl _ w).alloc (Nat.le_refl _) _
  go_enter Tryz.func106, Tryz.ntmps106
  go_wp2
  go_loop [5] (fun ii => ∃ (k : Nat), ii = .int .i64 k ∧ k ≤ fs.length ∧ Hid (atFrom nm k (fs.drop k) = R)) (fun ii => fs.length - (intOf ii).toNat)
  case atStart => exact ⟨0, rfl, Nat.zero_le _, HR⟩
  case round =>
    obtain ⟨k, rfl, hk, HK⟩ := hrel
    by_cases hlt : k < fs.length
    · have hlt' : decide ((k : Int) < (fs.length : Int)) = true := by simp; omega
      obtain ⟨b, off, rfl, hbw, hc0, hc1, hc2⟩ := filesAt_keep HF.out HB0.out k hlt
      obtain ⟨F, HFk⟩ : ∃ F, Hid (fs[k] = F) := ⟨fs[k], hide rfl⟩
      rw [HFk.out] at hc0
      clear hc1 hc2
      have hi0 : (0 : Int) ≤ (k : Int) := by omega
      have hi1 : (k : Int) < (fs.length : Int) := by omega
      cases hq : (F.name.toList == nm.toList)
      · have HK1 : Hid (atFrom nm (k + 1) (fs.drop (k + 1)) = R) := by show _ = _; rw [← HK.out]; exact (at_miss hlt (by rw [HFk.out]; exact hq)).symm
        go_wp2
        go_round
        case rel => exact ⟨k + 1, by go_num, by omega, HK1⟩
        case measure => simp [intOf]; omega
      · have hR : Hid (R = (k : Int)) := by show _ = _; rw [← HK.out]; exact at_hit hlt (by rw [HFk.out]; exact hq)
        go_wp2
        go_ret
        rw [hR.out]
        exact ⟨rfl, HB0.out⟩
    · have hlt' : decide ((k : Int) < (fs.length : Int)) = false := by simp; omega
      have hR : Hid (R = -1) := by show _ = _; rw [← HK.out]; exact at_end (by omega)
      go_wp2
      go_ret
      rw [hR.out]
      exact ⟨rfl, HB0.out⟩
end Go.Proofs.YtmmchemgegmhhaaGreatDoor
