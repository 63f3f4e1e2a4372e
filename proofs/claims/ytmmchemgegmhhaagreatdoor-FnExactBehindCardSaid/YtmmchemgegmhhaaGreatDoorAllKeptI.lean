/- AllKept, the program's and the specification's. -/
import Derived.Test.YtmmchemgegmhhaaGreatDoorDiskK
namespace Go.Proofs.YtmmchemgegmhhaaGreatDoor
open Go.RowKit

set_option maxRecDepth 100000 in
set_option maxHeartbeats 800000 in
theorem allKept_any (fs : List FileD) (ao : Option Addr) (cap : Nat) (w : World) (hl : fs.length ≤ 1048576) (hfs : FilesAt w ao fs) (hsz : ∀ F ∈ fs, F.name.size ≤ 1048576 ∧ F.text.size ≤ 1048576) :
    Calls Tryz.prog 168 #[.agg #[.slice ao fs.length cap]] w fun e w' => e = .returned (.bool (allKeptD fs)) ∧ Below w.heap.size w w' := by
  have HF := hide hfs
  have HS := hide hsz
  clear hfs hsz
  have b0 : Below w.heap.size w (w.alloc (.cells #[.slice ao fs.length cap] 27)) := (Below.refl _ w).alloc (Nat.le_refl _) _
  have HB0 := hide b0
  clear b0
  cases hok : diskOkD fs
  · go_enter Tryz.func168, Tryz.ntmps168
    go_wp2_with fail
    refine (diskOk_any fs ao cap _ hl (filesAt_keep HF.out HB0.out) (fun F h => ⟨small_max (HS.out F h).1, small_max (HS.out F h).2⟩)).mono ?_
    rintro e w1 ⟨rfl, b1⟩
    rw [hok]
    have HB1 := hide (HB0.out.trans (b1.mono HB0.out.size))
    clear b1
    go_wp2
    go_ret
    rw [allKeptD, hok]
    exact ⟨rfl, HB1.out⟩
  · obtain ⟨R, HR⟩ : ∃ R, Hid (keptD (fs.drop 0) = R) := ⟨_, hide rfl⟩
    have e : allKeptD fs = R := by rw [allKeptD, hok, ← HR.out]; rfl
    rw [e]
    clear e
    go_enter Tryz.func168, Tryz.ntmps168
    go_wp2_with fail
    refine (diskOk_any fs ao cap _ hl (filesAt_keep HF.out HB0.out) (fun F h => ⟨small_max (HS.out F h).1, small_max (HS.out F h).2⟩)).mono ?_
    rintro e w1 ⟨rfl, b1⟩
    rw [hok]
    have hbox : w1.cell? ⟨w.heap.size, 0, none⟩ = some (.slice ao fs.length cap) := (b1.cell (p := ⟨w.heap.size, 0, none⟩) (by simp)).trans (by rw [cell_of_row _ _ _ _ _ (0, 0) (heap_alloc_new w _)]; rfl)
    have HB1 := hide (HB0.out.trans (b1.mono HB0.out.size))
    clear b1
    go_wp2
    go_loopw [11] (fun ii wr => ∃ (k : Nat), ii = .int .i64 k ∧ k ≤ fs.length ∧ Hid (keptD (fs.drop k) = R) ∧ Hid (Below w.heap.size w wr)) (fun ii _ => fs.length - (intOf ii).toNat)
    case atStart => exact ⟨0, rfl, Nat.zero_le _, HR, HB1⟩
    case round =>
      obtain ⟨k, rfl, hk, HK, HB⟩ := hrel
      by_cases hlt : k < fs.length
      · have hlt' : decide ((k : Int) < (fs.length : Int)) = true := by simp; omega
        obtain ⟨b, off, rfl, hbw, hc0, hc1, hc2⟩ := filesAt_keep HF.out HB.out k hlt
        have HX := hide (HS.out fs[k] (List.getElem_mem hlt))
        obtain ⟨F, HFk⟩ : ∃ F, Hid (fs[k] = F) := ⟨fs[k], hide rfl⟩
        rw [HFk.out] at hc0 hc1 hc2
        have hi0 : (0 : Int) ≤ (k : Int) := by omega
        have hi1 : (k : Int) < (fs.length : Int) := by omega
        have hs2 : F.text.size ≤ 1048576 := by have := HX.out.2; rw [HFk.out] at this; exact this
        cases hq : decide (F.kept < (F.text.size : Int))
        · have HK1 : Hid (keptD (fs.drop (k + 1)) = R) := by show _ = _; rw [← HK.out]; exact (kept_more hlt (by rw [HFk.out]; exact hq)).symm
          go_wp2
          go_roundw
          case rel => exact ⟨k + 1, by go_num, by omega, HK1, HB.out.alloc HB.out.size _⟩
          case measure => simp [intOf]; omega
        · have hR : Hid (R = false) := by show _ = _; rw [← HK.out]; exact kept_bad hlt (by rw [HFk.out]; exact hq)
          go_wp2
          go_ret
          rw [hR.out]
          exact ⟨rfl, HB.out.alloc HB.out.size _⟩
      · have hlt' : decide ((k : Int) < (fs.length : Int)) = false := by simp; omega
        have hR : Hid (R = true) := by show _ = _; rw [← HK.out]; exact kept_end (by omega)
        go_wp2
        go_ret
        rw [hR.out]
        exact ⟨rfl, HB.out⟩
end Go.Proofs.YtmmchemgegmhhaaGreatDoor
