/- The specification's DiskOk. -/
import Derived.Test.YtmmchemgegmhhaaGreatDoorDiskP
namespace Go.Proofs.YtmmchemgegmhhaaGreatDoor
open Go.RowKit

theorem l03Name_val (s : ByteArray) (c : Bool) (w : World) (hs : s.size ≤ maxLen) (h : nameOkD s = c) : Calls Tryz.prog 144 #[.string s] w fun e w' => e = .returned (.bool c) ∧ w' = w := h ▸ l03Name_any s w hs

set_option maxRecDepth 100000 in
set_option maxHeartbeats 1600000 in
theorem specDiskOk_any (fs : List FileD) (ao : Option Addr) (cap : Nat) (w : World) (hl : fs.length ≤ 1048576) (hfs : FilesAt w ao fs) (hsz : ∀ F ∈ fs, F.name.size ≤ maxLen ∧ F.text.size ≤ maxLen) :
    Calls Tryz.prog 97 #[.agg #[.slice ao fs.length cap]] w fun e w' => e = .returned (.bool (diskOkD fs)) ∧ Below w.heap.size w w' := by
  have HF := hide hfs
  have HS := hide hsz
  clear hfs hsz
  obtain ⟨R, HR⟩ : ∃ R, Hid (diskOkD fs = R) := ⟨_, hide rfl⟩
  rw [HR.out]
  by_cases h30 : (30 : Int) < (fs.length : Int)
  · have h30' : decide ((30 : Int) < (fs.length : Int)) = true := by simp; omega
    have hR : R = false := by rw [← HR.out, diskOkD, show decide (fs.length ≤ 30) = false from by simp; omega]; rfl
    subst hR
    go_enter Tryz.func97, Tryz.ntmps97
    go_wp2
    go_ret
    exact ⟨rfl, (Below.refl _ w).alloc (Nat.le_refl _) _⟩
  · have h30' : decide ((30 : Int) < (fs.length : Int)) = false := by simp; omega
    have HR0 : Hid (okFrom (prevOf fs 0) (fs.drop 0) = R) := by show _ = _; rw [← HR.out, diskOkD, show decide (fs.length ≤ 30) = true from by simp; omega]; rfl
    go_enter Tryz.func97, Tryz.ntmps97
    go_wp2
    go_loopw [3] (fun ii wr => ∃ (k : Nat), ii = .int .i64 k ∧ k ≤ fs.length ∧ Hid (okFrom (prevOf fs k) (fs.drop k) = R) ∧ Hid (Below (w.heap.size + 1) (w.alloc (.cells #[.slice ao fs.length cap] 27)) wr)) (fun ii _ => fs.length - (intOf ii).toNat)
    case atStart => exact ⟨0, rfl, Nat.zero_le _, HR0, Below.refl _ _⟩
    case round =>
      obtain ⟨k, rfl, hk, HK, HB⟩ := hrel
      have HB0 : Hid (Below w.heap.size w wr) := ((Below.refl _ w).alloc (Nat.le_refl _) _).trans (HB.out.mono (by omega))
      have hbox : wr.cell? ⟨w.heap.size, 0, none⟩ = some (.slice ao fs.length cap) := (HB.out.cell (p := ⟨w.heap.size, 0, none⟩) (by simp)).trans (by rw [cell_of_row _ _ _ _ _ (0, 0) (heap_alloc_new w _)]; rfl)
      by_cases hlt : k < fs.length
      · have hlt' : decide ((k : Int) < (fs.length : Int)) = true := by simp; omega
        have hsw : w.heap.size + 1 ≤ wr.heap.size := by have := HB.out.size; simpa using this
        obtain ⟨b, off, rfl, hbw, hc0, hc1, hc2⟩ := filesAt_keep HF.out HB0.out k hlt
        obtain ⟨hs1, hs2⟩ := HS.out fs[k] (List.getElem_mem hlt)
        obtain ⟨F, HFk⟩ : ∃ F, Hid (fs[k] = F) := ⟨fs[k], hide rfl⟩
        rw [HFk.out] at hc0 hc1 hc2 hs1 hs2
        have hi0 : (0 : Int) ≤ (k : Int) := by omega
        have hi1 : (k : Int) < (fs.length : Int) := by omega
        have b2 : Below wr.heap.size wr (wr.alloc (.cells #[.string F.name, .string F.text, .int .i64 F.kept] 74)) := (Below.refl _ wr).alloc (Nat.le_refl _) _
        have HB1 : Hid (Below (w.heap.size + 1) (w.alloc (.cells #[.slice (some ⟨b, off, none⟩) fs.length cap] 27)) (wr.alloc (.cells #[.string F.name, .string F.text, .int .i64 F.kept] 74))) := HB.out.trans (b2.mono hsw)
        have HB2 : Hid (Below w.heap.size w (wr.alloc (.cells #[.string F.name, .string F.text, .int .i64 F.kept] 74))) := HB0.out.trans (b2.mono (by omega))
        have hs2' := hs2
        unfold maxLen at hs2'
        go_wp2_with fail
        have hbox1 : (wr.alloc (.cells #[.string F.name, .string F.text, .int .i64 F.kept] 74)).cell? ⟨w.heap.size, 0, none⟩ = some (.slice (some ⟨b, off, none⟩) fs.length cap) := (b2.cell (p := ⟨w.heap.size, 0, none⟩) (by show w.heap.size < _; omega)).trans hbox
        have hfile := heap_alloc_new wr (.cells #[.string F.name, .string F.text, .int .i64 F.kept] 74)
        obtain ⟨W, hW⟩ : ∃ W, W = wr.alloc (.cells #[.string F.name, .string F.text, .int .i64 F.kept] 74) := ⟨_, rfl⟩
        rw [← hW] at HB1 HB2 hbox1 hfile ⊢
        have hg0 : W.cell? ⟨wr.heap.size, 0, none⟩ = some (.string F.name) := (cell_of_row W wr.heap.size 0 _ _ (0, 0) hfile).trans rfl
        have hg1 : W.cell? ⟨wr.heap.size, 1, none⟩ = some (.string F.text) := (cell_of_row W wr.heap.size 1 _ _ (0, 0) hfile).trans rfl
        have hg2 : W.cell? ⟨wr.heap.size, 2, none⟩ = some (.int .i64 F.kept) := (cell_of_row W wr.heap.size 2 _ _ (0, 0) hfile).trans rfl
        clear hW hfile b2 hbox hc0 hc1 hc2
        cases h1 : nameOkD F.name
        · have hR : Hid (R = false) := by show _ = _; rw [← HK.out, okFrom_bad hlt (by rw [HFk.out, fileOkD]; simp [h1])]
          go_quiet ((go_at_call 144; exact Calls.quiet_of_same (l03Name_val _ _ _ hs1 h1)))
          go_wp2
          go_ret
          rw [hR.out]
          exact ⟨rfl, below_drewN HB2.out _⟩
        · by_cases h2 : 20000 < F.text.size
          · have h2a : decide (20000 < F.text.size) = true := by simp; omega
            have h2b : decide ((20000 : Int) < (F.text.size : Int)) = true := by simp; omega
            have hR : Hid (R = false) := by show _ = _; rw [← HK.out, okFrom_bad hlt (by rw [HFk.out, fileOkD]; rw [show decide (F.text.size ≤ 20000) = false from by simp; omega]; simp)]
            go_quiet ((go_at_call 144; exact Calls.quiet_of_same (l03Name_val _ _ _ hs1 h1)))
            go_wp2
            go_ret
            rw [hR.out]
            exact ⟨rfl, below_drewN HB2.out _⟩
          · have h2a : decide (20000 < F.text.size) = false := by simp; omega
            have h2b : decide ((20000 : Int) < (F.text.size : Int)) = false := by simp; omega
            cases h3 : (decide ((0 : Int) ≤ F.kept) && decide (F.kept ≤ (F.text.size : Int)))
            · have hR : Hid (R = false) := by show _ = _; rw [← HK.out, okFrom_bad hlt (by rw [HFk.out, fileOkD]; rw [h3]; simp)]
              go_quiet ((first | (go_at_call 144; exact Calls.quiet_of_same (l03Name_val _ _ _ hs1 h1)) | (go_at_call 43; exact Calls.quiet_of_same (l01In_val _ _ _ _ _ h3))))
              go_wp2
              go_ret
              rw [hR.out]
              exact ⟨rfl, below_drewN HB2.out _⟩
            · have hok : fileOkD F = true := by rw [fileOkD, h3, h1, show decide (F.text.size ≤ 20000) = true from by simp; omega]; rfl
              cases hk0 : decide (0 < k)
              · have hkz : k = 0 := by simpa using hk0
                have HK1 : Hid (okFrom (prevOf fs (k + 1)) (fs.drop (k + 1)) = R) := by show _ = _; rw [← HK.out]; subst hkz; exact (okFrom_first hlt (by rw [HFk.out]; exact hok)).symm
                clear hkz
                go_quiet ((first | (go_at_call 144; exact Calls.quiet_of_same (l03Name_val _ _ _ hs1 h1)) | (go_at_call 43; exact Calls.quiet_of_same (l01In_val _ _ _ _ _ h3))))
                go_wp2
                go_roundw
                case rel => exact ⟨k + 1, by go_num, by omega, HK1, below_drewN HB1.out _⟩
                case measure => simp [intOf]; omega
              · have hkp : 0 < k := by simpa using hk0
                obtain ⟨b', off', hbe, hbw', hd0, hd1, hd2⟩ := filesAt_keep HF.out HB2.out (k - 1) (by omega)
                obtain ⟨rfl, rfl⟩ : b = b' ∧ off = off' := by simpa using hbe
                obtain ⟨F', HFk'⟩ : ∃ F', Hid (fs[k - 1] = F') := ⟨fs[k - 1], hide rfl⟩
                rw [HFk'.out] at hd0
                clear hd1 hd2 hbe
                have HD := hide (okFrom_more hlt hkp (by rw [HFk.out]; exact hok))
                have hw : IntKind.i64.wrap ((k : Int) - 1) = ((k - 1 : Nat) : Int) := by rw [IntKind.wrap_i64]; omega
                have hj0 : (0 : Int) ≤ ((k - 1 : Nat) : Int) := by omega
                have hj1 : ((k - 1 : Nat) : Int) < (fs.length : Int) := by omega
                go_quiet ((first | (go_at_call 144; exact Calls.quiet_of_same (l03Name_val _ _ _ hs1 h1)) | (go_at_call 43; exact Calls.quiet_of_same (l01In_val _ _ _ _ _ h3))))
                cases hless : Op.bytesLess F'.name.toList F.name.toList
                · have hR : Hid (R = false) := by show _ = _; rw [← HK.out, HD.out, HFk.out, HFk'.out, hless]; rfl
                  go_wp2
                  go_ret
                  rw [hR.out]
                  exact ⟨rfl, below_drewN HB2.out _⟩
                · have HK1 : Hid (okFrom (prevOf fs (k + 1)) (fs.drop (k + 1)) = R) := by show _ = _; rw [← HK.out, HD.out, HFk.out, HFk'.out, hless, Bool.true_and]
                  go_wp2
                  go_roundw
                  case rel => exact ⟨k + 1, by go_num, by omega, HK1, below_drewN HB1.out _⟩
                  case measure => simp [intOf]; omega
      · have hlt' : decide ((k : Int) < (fs.length : Int)) = false := by simp; omega
        have hR : Hid (R = true) := by show _ = _; rw [← HK.out, okFrom_end (by omega)]
        go_wp2
        go_ret
        rw [hR.out]
        exact ⟨rfl, HB0.out⟩
end Go.Proofs.YtmmchemgegmhhaaGreatDoor
