/- The law of BatchText, but for the program's own function (written by tools/gen_lawbatch.py). -/
import Derived.Test.YtcpbkllonamleakBatchL
import Derived.Test.YtcpbkllonamleakBatchS2
import Derived.Test.YtcpbkllonamleakTwoCells
import Derived.Deep.RegionHeld3
namespace Go.Proofs.Ytcpbkllonamleak
open Go.RowKit

set_option maxRecDepth 100000 in
set_option maxHeartbeats 1600000 in
theorem lawBatchText_of (HI0 : ∀ (q : Int) (fs : List ChangeD) (ao : Option Addr) (cap : Nat) (w : World), fs.length ≤ 1048576 → ChangesAt w ao fs → (∀ A ∈ fs, A.key.size ≤ 1048576 ∧ A.value.size ≤ 1048576) → Calls Try.prog 13 #[.agg #[.int .i64 q, .slice ao fs.length cap]] w fun e w' => e = .returned (.tuple #[.string (textD q fs), .bool (textOkD q fs)]) ∧ Below w.heap.size w w')
    (q : Int) (fs : List ChangeD) (ao : Option Addr) (cap : Nat) (w : World) (hl0 : fs.length ≤ maxLen) (hfs : ChangesAt w ao fs) (hsz0 : ∀ A ∈ fs, A.key.size ≤ maxLen ∧ A.value.size ≤ maxLen) :
    Calls Try.prog 4 #[.agg #[.int .i64 q, .slice ao fs.length cap]] w fun e w' => e = .returned (.bool true) ∧ Below w.heap.size w w' := by
  have HI := hide HI0
  have HF := hide hfs
  have HS := hide hsz0
  clear hfs hsz0 HI0
  obtain ⟨wA, hwA⟩ : ∃ wA, wA = w.alloc (.cells #[.int .i64 q, .slice ao fs.length cap] 24) := ⟨_, rfl⟩
  have HA : Hid (Below w.heap.size w wA) := by rw [hwA]; exact (Below.refl _ w).alloc (Nat.le_refl _) _
  have hAs : wA.heap.size = w.heap.size + 1 := by rw [hwA]; simp
  have HAc : Hid (wA.cell? ⟨w.heap.size, 0, none⟩ = some (.int .i64 q) ∧ wA.cell? ⟨w.heap.size, 1, none⟩ = some (.slice ao fs.length cap)) := by rw [hwA]; exact two_new _ _ _ _
  go_enter Try.func4, Try.ntmps4
  go_wp2_with fail
  rw [← hwA]
  clear hwA
  refine (szBatch_any q fs ao cap 1048576 _ (by decide) (by decide) hl0 (changesAt_keep HF.out HA.out) HS.out).mono ?_
  rintro e w1 ⟨⟨r, rfl, hr⟩, b1⟩
  have HB1 := hide b1
  have HR := hide hr
  clear b1 hr
  by_cases hneg : r < 0
  · have hneg' : decide (r < 0) = true := by simp; omega
    go_wp2
    go_ret
    exact ⟨rfl, HA.out.trans (HB1.out.mono (by omega))⟩
  · have hneg' : decide (r < 0) = false := by simp; omega
    obtain ⟨hr1, hr2⟩ := HR.out (by omega)
    have HZ : Hid (∀ A ∈ fs, A.key.size ≤ 1048576 ∧ A.value.size ≤ 1048576) := szChangeDs_small fs (1048576 - fs.length) (by omega) (by omega) (by omega)
    have HZ' : Hid (∀ A ∈ fs, A.key.size ≤ maxLen ∧ A.value.size ≤ maxLen) := fun A h => by have := HZ.out A h; unfold maxLen; omega
    have hl : fs.length ≤ 1048576 := by omega
    clear hr1 hr2
    obtain ⟨hbx0, hbx1⟩ := two_keep HAc.out HB1.out (by omega)
    go_wp2_with fail
    refine (toBatch_any q fs ao cap _ hl (changesAt_keep HF.out (HA.out.trans (HB1.out.mono (by omega))))).mono ?_
    rintro e w2 ⟨⟨g2, C2, rfl, hg2, hC2, hCs2, hI2⟩, b2⟩
    have HB2 := hide (HB1.out.trans (b2.mono HB1.out.size))
    have HF2 := hide (changesAt_own hC2 hI2)
    clear b2 hC2 hI2 hCs2 hg2
    go_wp2_with fail
    refine (specBatchText_any q fs _ _ _ hl HF2.out HZ.out).mono ?_
    rintro e w3 ⟨rfl, b3⟩
    have HB3 := hide (HB2.out.trans (b3.mono HB2.out.size))
    clear b3 HF2 hbx0 hbx1
    obtain ⟨hbx0, hbx1⟩ := two_keep HAc.out HB3.out (by omega)
    go_wp2_with fail
    refine (toBatch_any q fs ao cap _ hl (changesAt_keep HF.out (HA.out.trans (HB3.out.mono (by omega))))).mono ?_
    rintro e w4 ⟨⟨g4, C4, rfl, hg4, hC4, hCs4, hI4⟩, b4⟩
    have HB4 := hide (HB3.out.trans (b4.mono HB3.out.size))
    have HF4 := hide (changesAt_own hC4 hI4)
    clear b4 hC4 hI4 hCs4 hg4 hbx0 hbx1
    obtain ⟨wX, hwX⟩ : ∃ wX, wX = w4.alloc (.cells #[.int .i64 q, .slice (some ⟨g4, 0, none⟩) fs.length fs.length] 29) := ⟨_, rfl⟩
    have HX : Hid (Below w4.heap.size w4 wX) := by rw [hwX]; exact (Below.refl _ w4).alloc (Nat.le_refl _) _
    have hXs : wX.heap.size = w4.heap.size + 1 := by rw [hwX]; simp
    have HXc : Hid (wX.cell? ⟨w4.heap.size, 0, none⟩ = some (.int .i64 q) ∧ wX.cell? ⟨w4.heap.size, 1, none⟩ = some (.slice (some ⟨g4, 0, none⟩) fs.length fs.length)) := by rw [hwX]; exact two_new _ _ _ _
    go_wp2_with fail
    rw [← hwX]
    clear hwX
    have HBX := hide (HB4.out.trans (HX.out.mono HB4.out.size))
    refine (HI.out q fs _ _ _ hl (changesAt_keep HF4.out HX.out) HZ.out).mono ?_
    rintro e w5 ⟨rfl, b5⟩
    have HB5 := hide (HBX.out.trans (b5.mono HBX.out.size))
    have HX5 := hide (HX.out.trans (b5.mono (by omega)))
    have hbx := two_keep HAc.out HB5.out (by omega)
    have hx := two_keep HXc.out b5 (by omega)
    have HT : Hid (∀ X, Below w5.heap.size w5 X → (X.cell? ⟨w.heap.size, 0, none⟩ = some (.int .i64 q) ∧ X.cell? ⟨w.heap.size, 1, none⟩ = some (.slice ao fs.length cap)) ∧ X.cell? ⟨w4.heap.size, 0, none⟩ = some (.int .i64 q) ∧ X.cell? ⟨w4.heap.size, 1, none⟩ = some (.slice (some ⟨g4, 0, none⟩) fs.length fs.length)) := fun X hX => ⟨two_keep hbx hX (by have := HB5.out.size; omega), two_keep hx hX (by have := b5.size; omega)⟩
    obtain ⟨hbx0, hbx1⟩ := hbx
    obtain ⟨hx0, hx1⟩ := hx
    have HF5 : Hid (ChangesAt w5.drew ao fs) := changesAt_keep HF.out ((HA.out.trans (HB5.out.mono (by omega))).drew)
    have HG5 : Hid (ChangesAt w5.drew (some ⟨g4, 0, none⟩) fs) := changesAt_keep HF4.out (HX5.out.drew)
    clear b5
    obtain ⟨tx, HTX⟩ : ∃ tx, Hid (textD q fs = tx) := ⟨_, rfl⟩
    rw [HTX.out]
    have htx : (tx.toList == tx.toList) = true := beq_self_eq_true _
    cases hd : textOkD q fs
    all_goals
      go_wp2_with fail
      go_region_held3 (fun w' => (w'.cell? ⟨w.heap.size, 0, none⟩ = some (.int .i64 q) ∧ w'.cell? ⟨w.heap.size, 1, none⟩ = some (.slice ao fs.length cap)) ∧ w'.cell? ⟨w4.heap.size, 0, none⟩ = some (.int .i64 q) ∧ w'.cell? ⟨w4.heap.size, 1, none⟩ = some (.slice (some ⟨g4, 0, none⟩) fs.length fs.length)) (first | (go_keep; done) | (exact HT.out _ ((Below.refl _ _).drew)) | (exact HT.out _ ((Below.refl _ _).drew.trans b6)) | (exact HT.out _ ((Below.refl _ _).drew.trans (b6.trans (b7.mono b6.size)))) | fail) ((first | (go_at_call 9; refine (toBatch_any q fs ao cap _ hl HF5.out).mono ?_; rintro e w6 ⟨⟨g6, C6, rfl, hg6, hC6, hCs6, hI6⟩, b6⟩) | (go_at_call 11; refine (eqBatch_same q fs _ _ _ _ _ hl0 (changesAt_keep HG5.out b6) (changesAt_own hC6 hI6)).mono ?_; rintro e w7 ⟨rfl, b7⟩) | fail))
      have HB7 : Hid (Below w5.heap.size w5 w7) := (Below.refl _ _).drew.trans (b6.trans (b7.mono b6.size))
      clear b6 b7 hC6
      go_wp2
      go_ret
      exact ⟨rfl, HA.out.trans ((HB5.out.trans (HB7.out.mono HB5.out.size)).mono (by omega))⟩
end Go.Proofs.Ytcpbkllonamleak
