/- The specification's BatchOk (written by tools/gen_batch.py). -/
import Derived.Test.YtmmchemgegmhhaaGreatDoorBatchP
namespace Go.Proofs.YtmmchemgegmhhaaGreatDoor
open Go.RowKit

theorem list_nil_of_size {s : ByteArray} (h : s.size = 0) : s.toList = [] := List.eq_nil_of_length_eq_zero (by rw [ByteArray.toList_eq, Array.length_toList]; exact h)
theorem list_ne_of_size {s : ByteArray} (h : ¬ s.size = 0) : ¬ s.toList = [] := fun e => h (by have h0 := congrArg List.length e; rw [ByteArray.toList_eq, Array.length_toList] at h0; exact h0)
set_option maxRecDepth 100000 in
set_option maxHeartbeats 1600000 in
theorem specBatchOk_any (q : Int) (fs : List ChangeD) (ao : Option Addr) (cap : Nat) (w : World) (hl : fs.length ≤ 1048576) (hfs : ChangesAt w ao fs) (hsz : ∀ A ∈ fs, A.key.size ≤ maxLen ∧ A.value.size ≤ maxLen) :
    Calls Tryz.prog 108 #[.agg #[.int .i64 q, .slice ao fs.length cap]] w fun e w' => e = .returned (.bool (batchOkD q fs)) ∧ Below w.heap.size w w' := by
  have HF := hide hfs
  have HS := hide hsz
  clear hfs hsz
  obtain ⟨R, HR⟩ : ∃ R, Hid (batchOkD q fs = R) := ⟨_, hide rfl⟩
  rw [HR.out]
  have eN : (decide ((1 : Int) ≤ (fs.length : Int)) && decide ((fs.length : Int) ≤ 40)) = (decide (1 ≤ fs.length) && decide (fs.length ≤ 40)) := by
    congr 1
    · rw [decide_eq_decide]; omega
    · rw [decide_eq_decide]; omega
  cases hq : (decide ((0 : Int) ≤ q) && decide (q ≤ 1000000000))
  · have hR : R = false := by rw [← HR.out, batchOkD, hq]; rfl
    subst hR
    go_enter Tryz.func108, Tryz.ntmps108
    go_wp2_with fail
    refine (l01In_val _ _ _ _ _ hq).mono ?_
    rintro e w1 ⟨rfl, rfl⟩
    go_wp2
    go_ret
    exact ⟨rfl, (Below.refl _ w).alloc (Nat.le_refl _) _⟩
  cases hn : (decide (1 ≤ fs.length) && decide (fs.length ≤ 40))
  · have hR : R = false := by rw [← HR.out, batchOkD, hq, hn]; rfl
    subst hR
    go_enter Tryz.func108, Tryz.ntmps108
    go_wp2_with fail
    refine (l01In_val _ _ _ _ _ hq).mono ?_
    rintro e w1 ⟨rfl, rfl⟩
    go_wp2_with fail
    refine (l01In_val _ _ _ _ _ (eN.trans hn)).mono ?_
    rintro e w1 ⟨rfl, rfl⟩
    go_wp2
    go_ret
    exact ⟨rfl, (Below.refl _ w).alloc (Nat.le_refl _) _⟩
  have HR0 : Hid (okChg (prevChg fs 0) (fs.drop 0) = R) := by show _ = _; rw [← HR.out, batchOkD, hq, hn]; rfl
  go_enter Tryz.func108, Tryz.ntmps108
  go_wp2_with fail
  refine (l01In_val _ _ _ _ _ hq).mono ?_
  rintro e w1 ⟨rfl, rfl⟩
  go_wp2_with fail
  refine (l01In_val _ _ _ _ _ (eN.trans hn)).mono ?_
  rintro e w1 ⟨rfl, rfl⟩
  go_wp2
  go_loopw [3] (fun ii wr => ∃ (k : Nat), ii = .int .i64 k ∧ k ≤ fs.length ∧ Hid (okChg (prevChg fs k) (fs.drop k) = R) ∧ Hid (Below (w.heap.size + 1) (w.alloc (.cells #[.int .i64 q, .slice ao fs.length cap] 96)) wr)) (fun ii _ => fs.length - (intOf ii).toNat)
  case atStart => exact ⟨0, rfl, Nat.zero_le _, HR0, Below.refl _ _⟩
  case round =>
    obtain ⟨k, rfl, hk, HK, HB⟩ := hrel
    have HB0 : Hid (Below w.heap.size w wr) := ((Below.refl _ w).alloc (Nat.le_refl _) _).trans (HB.out.mono (by omega))
    have hbox : wr.cell? ⟨w.heap.size, 1, none⟩ = some (.slice ao fs.length cap) := (HB.out.cell (p := ⟨w.heap.size, 1, none⟩) (by simp)).trans (by rw [cell_of_row _ _ _ _ _ (0, 0) (heap_alloc_new w _)]; rfl)
    by_cases hlt : k < fs.length
    · have hlt' : decide ((k : Int) < (fs.length : Int)) = true := by simp; omega
      have hsw : w.heap.size + 1 ≤ wr.heap.size := by have := HB.out.size; simpa using this
      obtain ⟨b, off, rfl, hbw, hc0, hc1, hc2⟩ := changesAt_keep HF.out HB0.out k hlt
      obtain ⟨hs1, hs2⟩ := HS.out fs[k] (List.getElem_mem hlt)
      obtain ⟨F, HFk⟩ : ∃ F, Hid (fs[k] = F) := ⟨fs[k], hide rfl⟩
      rw [HFk.out] at hc0 hc1 hc2 hs1 hs2
      have hi0 : (0 : Int) ≤ (k : Int) := by omega
      have hi1 : (k : Int) < (fs.length : Int) := by omega
      have b2 : Below wr.heap.size wr (wr.alloc (.cells #[.string F.key, .string F.value, .bool F.gone] 144)) := (Below.refl _ wr).alloc (Nat.le_refl _) _
      have HB1 : Hid (Below (w.heap.size + 1) (w.alloc (.cells #[.int .i64 q, .slice (some ⟨b, off, none⟩) fs.length cap] 96)) (wr.alloc (.cells #[.string F.key, .string F.value, .bool F.gone] 144))) := HB.out.trans (b2.mono hsw)
      have HB2 : Hid (Below w.heap.size w (wr.alloc (.cells #[.string F.key, .string F.value, .bool F.gone] 144))) := HB0.out.trans (b2.mono (by omega))
      unfold maxLen at hs1 hs2
      go_wp2_with fail
      have hbox1 : (wr.alloc (.cells #[.string F.key, .string F.value, .bool F.gone] 144)).cell? ⟨w.heap.size, 1, none⟩ = some (.slice (some ⟨b, off, none⟩) fs.length cap) := (b2.cell (p := ⟨w.heap.size, 1, none⟩) (by show w.heap.size < _; omega)).trans hbox
      have hfile := heap_alloc_new wr (.cells #[.string F.key, .string F.value, .bool F.gone] 144)
      obtain ⟨W, hW⟩ : ∃ W, W = wr.alloc (.cells #[.string F.key, .string F.value, .bool F.gone] 144) := ⟨_, rfl⟩
      rw [← hW] at HB1 HB2 hbox1 hfile ⊢
      have hg0 : W.cell? ⟨wr.heap.size, 0, none⟩ = some (.string F.key) := (cell_of_row W wr.heap.size 0 _ _ (0, 0) hfile).trans rfl
      have hg1 : W.cell? ⟨wr.heap.size, 1, none⟩ = some (.string F.value) := (cell_of_row W wr.heap.size 1 _ _ (0, 0) hfile).trans rfl
      have hg2 : W.cell? ⟨wr.heap.size, 2, none⟩ = some (.bool F.gone) := (cell_of_row W wr.heap.size 2 _ _ (0, 0) hfile).trans rfl
      clear hW hfile b2 hbox hc0 hc1 hc2
      have e1 : (decide ((1 : Int) ≤ (F.key.size : Int)) && decide ((F.key.size : Int) ≤ 20)) = (decide (1 ≤ F.key.size) && decide (F.key.size ≤ 20)) := by congr 1 <;> rw [decide_eq_decide] <;> omega
      cases h1k : (decide (1 ≤ F.key.size) && decide (F.key.size ≤ 20))
      · have h1 := e1.trans h1k
        have hR : Hid (R = false) := by show _ = _; rw [← HK.out]; exact okChg_bad hlt (by rw [HFk.out, changeOkD]; rw [h1k]; rfl)
        go_quiet ((go_at_call 43; exact Calls.quiet_of_same (l01In_val _ _ _ _ _ h1)))
        go_wp2
        go_ret
        rw [hR.out]
        exact ⟨rfl, below_drewN HB2.out _⟩
      · have h1 := e1.trans h1k
        cases hk0 : decide (0 < k)
        · have hkz : k = 0 := by simpa using hk0
          by_cases h2 : 2000 < F.value.size
          · have h2a : decide (2000 < F.value.size) = true := by simp; omega
            have h2b : decide ((2000 : Int) < (F.value.size : Int)) = true := by simp; omega
            have hR : Hid (R = false) := by show _ = _; rw [← HK.out]; exact okChg_bad hlt (by rw [HFk.out, changeOkD]; rw [show decide (F.value.size ≤ 2000) = false from by simp; omega]; simp)
            go_quiet ((go_at_call 43; exact Calls.quiet_of_same (l01In_val _ _ _ _ _ h1)))
            go_wp2
            go_ret
            rw [hR.out]
            exact ⟨rfl, below_drewN HB2.out _⟩
          · have h2a : decide (2000 < F.value.size) = false := by simp; omega
            have h2b : decide ((2000 : Int) < (F.value.size : Int)) = false := by simp; omega
            have h2c : decide (F.value.size ≤ 2000) = true := by simp; omega
            cases h3 : F.gone
            · have hok : changeOkD F = true := by rw [changeOkD, h1k, h2c, h3]; rfl
              have h3' := h3
              have HK1 : Hid (okChg (prevChg fs (k + 1)) (fs.drop (k + 1)) = R) := by show _ = _; rw [← HK.out]; subst hkz; exact (okChg_first hlt (by rw [HFk.out]; exact hok)).symm
              go_quiet ((go_at_call 43; exact Calls.quiet_of_same (l01In_val _ _ _ _ _ h1)))
              go_wp2
              go_roundw
              case rel => exact ⟨k + 1, by go_num, by omega, HK1, below_drewN HB1.out _⟩
              case measure => simp [intOf]; omega
            · by_cases h4 : F.value.size = 0
              · have h4a : (F.value.toList == []) = true := by simpa using list_nil_of_size h4
                have hok : changeOkD F = true := by rw [changeOkD, h1k, h2c, h3, show decide (F.value.size = 0) = true from by simp [h4]]; rfl
                have HK1 : Hid (okChg (prevChg fs (k + 1)) (fs.drop (k + 1)) = R) := by show _ = _; rw [← HK.out]; subst hkz; exact (okChg_first hlt (by rw [HFk.out]; exact hok)).symm
                go_quiet ((go_at_call 43; exact Calls.quiet_of_same (l01In_val _ _ _ _ _ h1)))
                go_wp2
                go_roundw
                case rel => exact ⟨k + 1, by go_num, by omega, HK1, below_drewN HB1.out _⟩
                case measure => simp [intOf]; omega
              · have h4a : (F.value.toList == []) = false := by simpa using list_ne_of_size h4
                have hR : Hid (R = false) := by show _ = _; rw [← HK.out]; exact okChg_bad hlt (by rw [HFk.out, changeOkD]; rw [h3, show decide (F.value.size = 0) = false from by simp [h4]]; simp)
                go_quiet ((go_at_call 43; exact Calls.quiet_of_same (l01In_val _ _ _ _ _ h1)))
                go_wp2
                go_ret
                rw [hR.out]
                exact ⟨rfl, below_drewN HB2.out _⟩
        · have hkp : 0 < k := by simpa using hk0
          obtain ⟨b', off', hbe, hbw', hd0, hd1, hd2⟩ := changesAt_keep HF.out HB2.out (k - 1) (by omega)
          obtain ⟨rfl, rfl⟩ : b = b' ∧ off = off' := by simpa using hbe
          obtain ⟨F', HFk'⟩ : ∃ F', Hid (fs[k - 1] = F') := ⟨fs[k - 1], hide rfl⟩
          rw [HFk'.out] at hd0
          clear hd1 hd2 hbe
          have hw : IntKind.i64.wrap ((k : Int) - 1) = ((k - 1 : Nat) : Int) := by rw [IntKind.wrap_i64]; omega
          have hj0 : (0 : Int) ≤ ((k - 1 : Nat) : Int) := by omega
          have hj1 : ((k - 1 : Nat) : Int) < (fs.length : Int) := by omega
          cases hless : Op.bytesLess F'.key.toList F.key.toList
          · have hno := hless
            have hR : Hid (R = false) := by show _ = _; rw [← HK.out]; exact okChg_less hlt hkp (by rw [HFk.out, HFk'.out]; exact hless)
            go_quiet ((go_at_call 43; exact Calls.quiet_of_same (l01In_val _ _ _ _ _ h1)))
            go_wp2
            go_ret
            rw [hR.out]
            exact ⟨rfl, below_drewN HB2.out _⟩
          · have hyes := hless
            by_cases h2 : 2000 < F.value.size
            · have h2a : decide (2000 < F.value.size) = true := by simp; omega
              have h2b : decide ((2000 : Int) < (F.value.size : Int)) = true := by simp; omega
              have hR : Hid (R = false) := by show _ = _; rw [← HK.out]; exact okChg_bad hlt (by rw [HFk.out, changeOkD]; rw [show decide (F.value.size ≤ 2000) = false from by simp; omega]; simp)
              go_quiet ((go_at_call 43; exact Calls.quiet_of_same (l01In_val _ _ _ _ _ h1)))
              go_wp2
              go_ret
              rw [hR.out]
              exact ⟨rfl, below_drewN HB2.out _⟩
            · have h2a : decide (2000 < F.value.size) = false := by simp; omega
              have h2b : decide ((2000 : Int) < (F.value.size : Int)) = false := by simp; omega
              have h2c : decide (F.value.size ≤ 2000) = true := by simp; omega
              cases h3 : F.gone
              · have hok : changeOkD F = true := by rw [changeOkD, h1k, h2c, h3]; rfl
                have h3' := h3
                have HK1 : Hid (okChg (prevChg fs (k + 1)) (fs.drop (k + 1)) = R) := by show _ = _; rw [← HK.out]; exact (okChg_more hlt hkp (by rw [HFk.out]; exact hok) (by rw [HFk.out, HFk'.out]; exact hless)).symm
                go_quiet ((go_at_call 43; exact Calls.quiet_of_same (l01In_val _ _ _ _ _ h1)))
                go_wp2
                go_roundw
                case rel => exact ⟨k + 1, by go_num, by omega, HK1, below_drewN HB1.out _⟩
                case measure => simp [intOf]; omega
              · by_cases h4 : F.value.size = 0
                · have h4a : (F.value.toList == []) = true := by simpa using list_nil_of_size h4
                  have hok : changeOkD F = true := by rw [changeOkD, h1k, h2c, h3, show decide (F.value.size = 0) = true from by simp [h4]]; rfl
                  have HK1 : Hid (okChg (prevChg fs (k + 1)) (fs.drop (k + 1)) = R) := by show _ = _; rw [← HK.out]; exact (okChg_more hlt hkp (by rw [HFk.out]; exact hok) (by rw [HFk.out, HFk'.out]; exact hless)).symm
                  go_quiet ((go_at_call 43; exact Calls.quiet_of_same (l01In_val _ _ _ _ _ h1)))
                  go_wp2
                  go_roundw
                  case rel => exact ⟨k + 1, by go_num, by omega, HK1, below_drewN HB1.out _⟩
                  case measure => simp [intOf]; omega
                · have h4a : (F.value.toList == []) = false := by simpa using list_ne_of_size h4
                  have hR : Hid (R = false) := by show _ = _; rw [← HK.out]; exact okChg_bad hlt (by rw [HFk.out, changeOkD]; rw [h3, show decide (F.value.size = 0) = false from by simp [h4]]; simp)
                  go_quiet ((go_at_call 43; exact Calls.quiet_of_same (l01In_val _ _ _ _ _ h1)))
                  go_wp2
                  go_ret
                  rw [hR.out]
                  exact ⟨rfl, below_drewN HB2.out _⟩
    · have hlt' : decide ((k : Int) < (fs.length : Int)) = false := by simp; omega
      have hR : Hid (R = true) := by show _ = _; rw [← HK.out, okChg_end (by omega)]
      go_wp2
      go_ret
      rw [hR.out]
      exact ⟨rfl, HB0.out⟩
end Go.Proofs.YtmmchemgegmhhaaGreatDoor
