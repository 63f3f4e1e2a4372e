/- FileAt, the program's and the specification's. -/
import Derived.Test.YtmmchemgegmhhaaGreatDoorL03At
namespace Go.Proofs.YtmmchemgegmhhaaGreatDoor
open Go.RowKit

set_option maxRecDepth 100000 in
set_option maxHeartbeats 800000 in
theorem specFileAt_any (fs : List FileD) (ao : Option Addr) (cap : Nat) (nm : ByteArray) (w : World) (hl : fs.length ≤ 1048576) (hfs : FilesAt w ao fs) :
    Calls Tryz.prog 62 #[.agg #[.slice ao fs.length cap], .string nm] w fun e w' => ((fileD fs nm = none ∧ e = .returned (.tuple #[.string ⟨#[]⟩, .bool false])) ∨ ∃ F, fileD fs nm = some F ∧ F ∈ fs ∧ e = .returned (.tuple #[.string F.text, .bool true])) ∧ Below w.heap.size w w' := by
  have HF := hide hfs
  clear hfs
  have HB0 : Hid (Below w.heap.size w (w.alloc (.cells #[.slice ao fs.length cap] 27))) := (Below.refl _ w).alloc (Nat.le_refl _) _
  have HA := hide (at_cases nm fs 0)
  go_enter Tryz.func62, Tryz.ntmps62
  go_wp2_with fail
  refine (l03At_any fs ao cap nm _ hl (filesAt_keep HF.out HB0.out)).mono ?_
  rintro e w1 ⟨rfl, b1⟩
  have hbox : w1.cell? ⟨w.heap.size, 0, none⟩ = some (.slice ao fs.length cap) := (b1.cell (p := ⟨w.heap.size, 0, none⟩) (by simp)).trans (by rw [cell_of_row _ _ _ _ _ (0, 0) (heap_alloc_new w _)]; rfl)
  have HB1 := hide (HB0.out.trans (b1.mono HB0.out.size))
  clear b1
  rcases HA.out with ⟨h1, h2⟩ | ⟨j, hj, h1, h2, h3⟩
  · rw [h1]
    have HN : Hid (fileD fs nm = none) := List.find?_eq_none.2 (fun F hF => by rw [h2 F hF]; decide)
    clear h1 h2
    have hd : decide ((-1 : Int) < 0) = true := by decide
    go_wp2
    go_ret2
    exact ⟨.inl ⟨HN.out, rfl⟩, HB1.out⟩
  · rw [h1, Nat.zero_add]
    have HN : Hid (fileD fs nm = some fs[j]) := h3
    clear h1 h2 h3
    have hd : decide ((j : Int) < 0) = false := by simp
    obtain ⟨b, off, rfl, hbw, hc0, hc1, hc2⟩ := filesAt_keep HF.out HB1.out j hj
    have HM := hide (List.getElem_mem hj)
    obtain ⟨F, HFk⟩ : ∃ F, Hid (fs[j] = F) := ⟨fs[j], hide rfl⟩
    rw [HFk.out] at hc1 HN HM
    clear hc0 hc2
    have hi0 : (0 : Int) ≤ (j : Int) := by omega
    have hi1 : (j : Int) < (fs.length : Int) := by omega
    go_wp2
    go_ret2
    exact ⟨.inr ⟨F, HN.out, HM.out, rfl⟩, HB1.out⟩

set_option maxRecDepth 100000 in
set_option maxHeartbeats 800000 in
theorem fileAt_any (fs : List FileD) (ao : Option Addr) (cap : Nat) (nm : ByteArray) (w : World) (hl : fs.length ≤ 1048576) (hfs : FilesAt w ao fs) (hsz : ∀ F ∈ fs, F.name.size ≤ 1048576 ∧ F.text.size ≤ 1048576) :
    Calls Tryz.prog 171 #[.agg #[.slice ao fs.length cap], .string nm] w fun e w' => ((fileD fs nm = none ∧ e = .returned (.tuple #[.string ⟨#[]⟩, .bool false])) ∨ ∃ F, fileD fs nm = some F ∧ F ∈ fs ∧ e = .returned (.tuple #[.string F.text, .bool true])) ∧ Below w.heap.size w w' := by
  have HF := hide hfs
  have HS := hide hsz
  clear hfs hsz
  have HR : Hid (fileD (fs.drop 0) nm = fileD fs nm) := rfl
  have HB0 : Hid (Below w.heap.size w (w.alloc (.cells #[.slice ao fs.length cap] 27))) := (Below.refl _ w).alloc (Nat.le_refl _) _
  go_enter Tryz.func171, Tryz.ntmps171
  go_wp2
  go_loopw [11] (fun ii wr => ∃ (k : Nat), ii = .int .i64 k ∧ k ≤ fs.length ∧ Hid (fileD (fs.drop k) nm = fileD fs nm) ∧ Hid (Below w.heap.size w wr)) (fun ii _ => fs.length - (intOf ii).toNat)
  case atStart => exact ⟨0, rfl, Nat.zero_le _, HR, HB0⟩
  case round =>
    obtain ⟨k, rfl, hk, HK, HB⟩ := hrel
    by_cases hlt : k < fs.length
    · have hlt' : decide ((k : Int) < (fs.length : Int)) = true := by simp; omega
      obtain ⟨b, off, rfl, hbw, hc0, hc1, hc2⟩ := filesAt_keep HF.out HB.out k hlt
      have HM := hide (List.getElem_mem hlt)
      obtain ⟨F, HFk⟩ : ∃ F, Hid (fs[k] = F) := ⟨fs[k], hide rfl⟩
      rw [HFk.out] at hc0 hc1 hc2 HM
      have hi0 : (0 : Int) ≤ (k : Int) := by omega
      have hi1 : (k : Int) < (fs.length : Int) := by omega
      cases hq : (F.name.toList == nm.toList)
      · have HK1 : Hid (fileD (fs.drop (k + 1)) nm = fileD fs nm) := by show _ = _; rw [← HK.out]; exact (fileD_miss hlt (by rw [HFk.out]; exact hq)).symm
        go_wp2
        go_roundw
        case rel => exact ⟨k + 1, by go_num, by omega, HK1, HB.out.alloc HB.out.size _⟩
        case measure => simp [intOf]; omega
      · have HK1 : Hid (fileD fs nm = some F) := by show _ = _; rw [← HK.out, fileD_hit hlt (by rw [HFk.out]; exact hq), HFk.out]
        have hs2 := (HS.out F HM.out).2
        go_wp2_with fail
        refine (ownText_any F.text _ hs2).mono ?_
        rintro e w1 ⟨rfl, b1⟩
        have HB1 : Hid (Below w.heap.size w w1) := (HB.out.alloc HB.out.size _).trans (b1.mono (by have := HB.out.size; simp; omega))
        clear b1 hc0 hc1 hc2
        go_wp2
        go_ret2
        exact ⟨.inr ⟨F, HK1.out, HM.out, rfl⟩, HB1.out⟩
    · have hlt' : decide ((k : Int) < (fs.length : Int)) = false := by simp; omega
      have hR : Hid (fileD fs nm = none) := by show _ = _; rw [← HK.out]; exact fileD_end (by omega)
      go_wp2
      go_ret2
      exact ⟨.inl ⟨hR.out, rfl⟩, HB.out⟩
end Go.Proofs.YtmmchemgegmhhaaGreatDoor
