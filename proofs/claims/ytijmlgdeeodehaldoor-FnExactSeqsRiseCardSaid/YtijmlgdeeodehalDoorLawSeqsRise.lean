/- The law of SeqsRise. -/
import Derived.Test.YtijmlgdeeodehalDoorFiles
import Derived.Test.YtijmlgdeeodehalDoorSegS3
namespace Go.Proofs.YtijmlgdeeodehalDoor
open Go.RowKit

set_option maxRecDepth 100000 in
set_option maxHeartbeats 1600000 in
theorem lawSeqsRise (fs : List FileD) (ao : Option Addr) (cap : Nat) (w : World) (hl0 : fs.length ≤ maxLen) (hfs : FilesAt w ao fs) (hsz0 : ∀ F ∈ fs, F.name.size ≤ maxLen ∧ F.text.size ≤ maxLen) (hT : SumTab w) :
    Calls Tryd.prog 4 #[.agg #[.slice ao fs.length cap]] w fun e w' => e = .returned (.bool true) ∧ Below w.heap.size w w' := by
  have HF := hide hfs
  have HS := hide hsz0
  have HT := hide hT
  clear hfs hsz0 hT
  obtain ⟨wA, hwA⟩ : ∃ wA, wA = w.alloc (.cells #[.slice ao fs.length cap] 24) := ⟨_, rfl⟩
  have HA : Hid (Below w.heap.size w wA) := by rw [hwA]; exact (Below.refl _ w).alloc (Nat.le_refl _) _
  have hAs : wA.heap.size = w.heap.size + 1 := by rw [hwA]; simp
  have HAc : Hid (wA.cell? ⟨w.heap.size, 0, none⟩ = some (.slice ao fs.length cap)) := by rw [hwA]; exact box_cell _ _ _
  go_enter Tryd.func4, Tryd.ntmps4
  go_wp2_with fail
  rw [← hwA]
  clear hwA
  refine (szDisk_any fs ao cap 1048576 _ (by decide) (by decide) hl0 (filesAt_keep HF.out HA.out) HS.out).mono ?_
  rintro e w1 ⟨⟨r, rfl, hr⟩, b1⟩
  have HB1 := hide b1
  have HR := hide hr
  clear b1 hr
  by_cases hneg : r < 0
  · have hneg' : decide (r < 0) = true := by simp; omega
    go_wp2
    go_ret
    exact ⟨rfl, HA.out.trans (HB1.out.mono (by omega))⟩
  · have hneg' : decide (r < 0) = false := by simp; omega
    obtain ⟨hr1, hr2⟩ := HR.out (by omega)
    have HZ : Hid (∀ F ∈ fs, F.name.size ≤ 1048576 ∧ F.text.size ≤ 1048576) := szFs_small fs (1048576 - fs.length) (by omega) (by omega) (by omega)
    have hl : fs.length ≤ 1048576 := by omega
    clear hr1 hr2
    have hbx1 : w1.cell? ⟨w.heap.size, 0, none⟩ = some (.slice ao fs.length cap) := (HB1.out.cell (p := ⟨w.heap.size, 0, none⟩) (by show w.heap.size < _; omega)).trans HAc.out
    go_wp2_with fail
    refine (toDisk_any fs ao cap _ hl (filesAt_keep HF.out (HA.out.trans (HB1.out.mono (by omega))))).mono ?_
    rintro e w2 ⟨⟨g2, C2, rfl, hg2, hC2, hCs2, hI2⟩, b2⟩
    have HB2 := hide (HB1.out.trans (b2.mono HB1.out.size))
    have HF2 := hide (filesAt_own hC2 hI2)
    clear b2 hC2 hI2 hCs2 hg2
    go_wp2_with fail
    refine (specSeqsRise_any fs _ _ _ hl HF2.out HZ.out).mono ?_
    rintro e w3 ⟨rfl, b3⟩
    have HB3 := hide (HB2.out.trans (b3.mono HB2.out.size))
    clear b3 HF2
    have hbx3 : w3.cell? ⟨w.heap.size, 0, none⟩ = some (.slice ao fs.length cap) := (HB3.out.cell (p := ⟨w.heap.size, 0, none⟩) (by show w.heap.size < _; omega)).trans HAc.out
    go_wp2_with fail
    refine (toDisk_any fs ao cap _ hl (filesAt_keep HF.out (HA.out.trans (HB3.out.mono (by omega))))).mono ?_
    rintro e w4 ⟨⟨g4, C4, rfl, hg4, hC4, hCs4, hI4⟩, b4⟩
    have HB4 := hide (HB3.out.trans (b4.mono HB3.out.size))
    have HF4 := hide (filesAt_own hC4 hI4)
    clear b4 hC4 hI4 hCs4 hg4
    obtain ⟨wX, hwX⟩ : ∃ wX, wX = w4.alloc (.cells #[.slice (some ⟨g4, 0, none⟩) fs.length fs.length] 31) := ⟨_, rfl⟩
    have HX : Hid (Below w4.heap.size w4 wX) := by rw [hwX]; exact (Below.refl _ w4).alloc (Nat.le_refl _) _
    have hXs : wX.heap.size = w4.heap.size + 1 := by rw [hwX]; simp
    have HXc : Hid (wX.cell? ⟨w4.heap.size, 0, none⟩ = some (.slice (some ⟨g4, 0, none⟩) fs.length fs.length)) := by rw [hwX]; exact box_cell _ _ _
    go_wp2_with fail
    rw [← hwX]
    clear hwX
    have HBX := hide (HB4.out.trans (HX.out.mono HB4.out.size))
    refine (implSeqsRise_any fs _ _ _ hl (filesAt_keep HF4.out HX.out) HZ.out (sumTab_later (HA.out.trans (HBX.out.mono (by omega))) HT.out)).mono ?_
    rintro e w5 ⟨rfl, b5⟩
    have HB5 := hide (HBX.out.trans (b5.mono HBX.out.size))
    have HX5 := hide (HX.out.trans (b5.mono (by omega)))
    have hbx5 : w5.cell? ⟨w.heap.size, 0, none⟩ = some (.slice ao fs.length cap) := (HB5.out.cell (p := ⟨w.heap.size, 0, none⟩) (by show w.heap.size < _; omega)).trans HAc.out
    have hx5 : w5.cell? ⟨w4.heap.size, 0, none⟩ = some (.slice (some ⟨g4, 0, none⟩) fs.length fs.length) := (b5.cell (p := ⟨w4.heap.size, 0, none⟩) (by show w4.heap.size < _; omega)).trans HXc.out
    have HF5 : Hid (FilesAt w5.drew ao fs) := filesAt_keep HF.out ((HA.out.trans (HB5.out.mono (by omega))).drew)
    have HG5 : Hid (FilesAt w5.drew (some ⟨g4, 0, none⟩) fs) := filesAt_keep HF4.out (HX5.out.drew)
    have hz1 : w.heap.size < w5.heap.size := by have := HB5.out.size; omega
    have hz2 : w4.heap.size < w5.heap.size := by have := b5.size; omega
    clear b5 hbx1 hbx3
    cases hd : seqsRise fs
    all_goals
      go_wp2_with fail
      go_region_held3 (fun w' => w'.cell? ⟨w.heap.size, 0, none⟩ = some (.slice ao fs.length cap) ∧ w'.cell? ⟨w4.heap.size, 0, none⟩ = some (.slice (some ⟨g4, 0, none⟩) fs.length fs.length)) (first | go_keep | (exact ⟨(b6.cell (p := ⟨w.heap.size, 0, none⟩) hz1).trans hbx5, (b6.cell (p := ⟨w4.heap.size, 0, none⟩) hz2).trans hx5⟩) | (exact ⟨((b6.trans (b7.mono b6.size)).cell (p := ⟨w.heap.size, 0, none⟩) hz1).trans hbx5, ((b6.trans (b7.mono b6.size)).cell (p := ⟨w4.heap.size, 0, none⟩) hz2).trans hx5⟩)) ((first | (go_at_call 9; refine (toDisk_any fs ao cap _ hl HF5.out).mono ?_; rintro e w6 ⟨⟨g6, C6, rfl, hg6, hC6, hCs6, hI6⟩, b6⟩) | (go_at_call 12; refine (eqDisk_same fs _ _ _ _ _ hl0 (filesAt_keep HG5.out b6) (filesAt_own hC6 hI6)).mono ?_; rintro e w7 ⟨rfl, b7⟩)))
      have HB7 : Hid (Below w5.heap.size w5 w7) := (Below.refl _ _).drew.trans (b6.trans (b7.mono b6.size))
      clear b6 b7 hC6
      go_wp2
      go_ret
      exact ⟨rfl, HA.out.trans ((HB5.out.trans (HB7.out.mono HB5.out.size)).mono (by omega))⟩
end Go.Proofs.YtijmlgdeeodehalDoor
