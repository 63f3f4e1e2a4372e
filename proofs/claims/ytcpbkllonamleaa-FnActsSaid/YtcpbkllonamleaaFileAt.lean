/- FileAt, the program's and the specification's. -/
import Derived.Test.YtcpbkllonamleaaL03At
namespace Go.Proofs.Ytcpbkllonamleaa
open Go.RowKit

set_option maxRecDepth 100000 in
set_option maxHeartbeats 800000 in
theorem fileAt_any (fs : List FileD) (ao : Option Addr) (cap : Nat) (nm : ByteArray) (w : World) (hl : fs.length ≤ 1048576) (hfs : FilesAt w ao fs) (hsz : ∀ F ∈ fs, F.name.size ≤ 1048576 ∧ F.text.size ≤ 1048576) :
    Calls Try.prog 18 #[.agg #[.slice ao fs.length cap], .string nm] w fun e w' => ((fileD fs nm = none ∧ e = .returned (.tuple #[.string ⟨#[]⟩, .bool false])) ∨ ∃ F, fileD fs nm = some F ∧ F ∈ fs ∧ e = .returned (.tuple #[.string F.text, .bool true])) ∧ Below w.heap.size w w' := by
  have HF := hide hfs
  have HS := hide hsz
  clear hfs hsz
  have HR : Hid (fileD (fs.drop 0) nm = fileD fs nm) := rfl
  have HB0 : Hid (Below w.heap.size w (w.alloc (.cells #[.slice ao fs.length cap] 26))) := (Below.refl _ w).alloc (Nat.le_refl _) _
  go_enter Try.func18, Try.ntmps18
  go_wp2
  go_loopw [11] (fun ii wr => ∃ (k : Nat), ii = .int .i64 k ∧ k ≤ fs.length ∧ Hid (fileD (fs.drop k) nm = fileD fs nm) ∧ Hid (Below w.heap.size w wr)) (fun ii _ => fs.length - (intOf ii).toNat)
  case atStart => exact ⟨0, rfl, Nat.zero_le _, HR, HB0⟩
  case round =>
    obtain ⟨k, rfl, hk, HK, HB⟩ := hrel
    by_cases hlt : k < fs.length
    · have hlt' : decide ((k : Int) < (fs.length : Int)) = true := by simp; omega
      obtain ⟨b, off, rfl, hbw, hc0, hc1, hc2⟩ := filesAt_keep HF.out HB.out k hlt
      have HM := hide (List.getElem_mem hlt)
      obtain ⟨F, HFk⟩ : ∃ F, Hid (fs[k] = F) := ⟨fs[k], hide rfl⟩
      rw [HFk.out] at hc0 hc1 hc2 HM
      have hi0 : (0 : Int) ≤ (k : Int) := by omega
      have hi1 : (k : Int) < (fs.length : Int) := by omega
      cases hq : (F.name.toList == nm.toList)
      · have HK1 : Hid (fileD (fs.drop (k + 1)) nm = fileD fs nm) := by show _ = _; rw [← HK.out]; exact (fileD_miss hlt (by rw [HFk.out]; exact hq)).symm
        go_wp2
        go_roundw
        case rel => exact ⟨k + 1, by go_num, by omega, HK1, HB.out.alloc HB.out.size _⟩
        case measure => simp [intOf]; omega
      · have HK1 : Hid (fileD fs nm = some F) := by show _ = _; rw [← HK.out, fileD_hit hlt (by rw [HFk.out]; exact hq), HFk.out]
        have hs2 := (HS.out F HM.out).2
        go_wp2_with fail
        refine (ownText_any F.text _ hs2).mono ?_
        rintro e w1 ⟨rfl, b1⟩
        have HB1 : Hid (Below w.heap.size w w1) := (HB.out.alloc HB.out.size _).trans (b1.mono (by have := HB.out.size; simp; omega))
        clear b1 hc0 hc1 hc2
        go_wp2
        go_ret2
        exact ⟨.inr ⟨F, HK1.out, HM.out, rfl⟩, HB1.out⟩
    · have hlt' : decide ((k : Int) < (fs.length : Int)) = false := by simp; omega
      have hR : Hid (fileD fs nm = none) := by show _ = _; rw [← HK.out]; exact fileD_end (by omega)
      go_wp2
      go_ret2
      exact ⟨.inl ⟨hR.out, rfl⟩, HB.out⟩
end Go.Proofs.Ytcpbkllonamleaa
