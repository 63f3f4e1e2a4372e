import Derived.BigQuiet
import Derived.Test.YtlcfblodflgleaaGreatDoorBe10
set_option maxRecDepth 100000
set_option maxHeartbeats 1600000
namespace Go.Proofs.YtlcfblodflgleaaGreatDoor
open Go.RowKit
def keyOkD (s : ByteArray) : Bool := decide (1 ≤ s.size) && decide (s.size ≤ 20)
theorem changeOkD_parts (A : ChangeD) : changeOkD A = (keyOkD A.key && (decide (A.value.size ≤ 2000) && !(A.gone && !decide (A.value.size = 0)))) := rfl
theorem keyOk_any (s : ByteArray) (w : World) (hs : s.size ≤ maxLen) : Calls Tryz.prog 208 #[.string s] w fun e w' => e = .returned (.bool (keyOkD s)) ∧ w' = w := by
  unfold maxLen at hs
  unfold keyOkD
  by_cases h : 1 ≤ s.size
  · have h' : decide ((1 : Int) ≤ (s.size : Int)) = true := by simp; omega
    have h2 : decide (1 ≤ s.size) = true := by simp; omega
    have h3 : decide ((s.size : Int) ≤ 20) = decide (s.size ≤ 20) := by rw [decide_eq_decide]; omega
    rw [h2, ← h3, Bool.true_and]
    clear h2 h3
    go_enter Tryz.func208, Tryz.ntmps208
    go_wp2
    go_ret
    exact ⟨rfl, rfl⟩
  · have h' : decide ((1 : Int) ≤ (s.size : Int)) = false := by simp; omega
    have h2 : decide (1 ≤ s.size) = false := by rw [decide_eq_false_iff_not]; omega
    rw [h2, Bool.false_and]
    clear h2
    go_enter Tryz.func208, Tryz.ntmps208
    go_wp2
    go_ret
    exact ⟨rfl, rfl⟩
theorem changeOk_any (A : ChangeD) (w : World) (h1 : A.key.size ≤ maxLen) (h2 : A.value.size ≤ maxLen) :
    Calls Tryz.prog 189 #[.agg #[.string A.key, .string A.value, .bool A.gone]] w fun e w' => e = .returned (.bool (changeOkD A)) ∧ Below w.heap.size w w' := by
  have K := hide (fun W => keyOk_any A.key W h1)
  obtain ⟨R, HR⟩ : ∃ R, Hid (changeOkD A = R) := ⟨_, hide rfl⟩
  rw [HR.out]
  obtain ⟨s, v, g⟩ := A
  simp only at K h1 h2 ⊢
  unfold maxLen at h1 h2
  by_cases hz : v.size = 0
  · have hz' : (v.toList == []) = true := by simpa using list_nil_of_size hz
    have hv : decide ((v.size : Int) ≤ 2000) = true := by simp; omega
    cases hk : keyOkD s
    · have hR : Hid (R = false) := by show _ = _; rw [← HR.out, changeOkD_parts]; simp only; rw [hk]; rfl
      rw [hk] at K
      cases g
      all_goals
        go_enter Tryz.func189, Tryz.ntmps189
        go_wp2_with (first | (go_at_call 208; refine (K.out _).mono ?_; rintro e w1 ⟨rfl, rfl⟩))
        go_ret
        rw [hR.out]
        exact ⟨rfl, (Below.refl _ w).alloc (Nat.le_refl _) _⟩
    · have hR : Hid (R = true) := by
        show _ = _
        rw [← HR.out, changeOkD_parts]
        simp only
        rw [hk, show decide (v.size ≤ 2000) = true from by simp; omega, show decide (v.size = 0) = true from by simp [hz]]
        cases g <;> rfl
      rw [hk] at K
      cases g
      all_goals
        go_enter Tryz.func189, Tryz.ntmps189
        go_wp2_with (first | (go_at_call 208; refine (K.out _).mono ?_; rintro e w1 ⟨rfl, rfl⟩))
        go_ret
        rw [hR.out]
        exact ⟨rfl, (Below.refl _ w).alloc (Nat.le_refl _) _⟩
  · have hz' : (v.toList == []) = false := by simpa using list_ne_of_size hz
    cases g
    · cases hk : keyOkD s
      · have hR : Hid (R = false) := by show _ = _; rw [← HR.out, changeOkD_parts]; simp only; rw [hk]; rfl
        rw [hk] at K
        go_enter Tryz.func189, Tryz.ntmps189
        go_wp2_with (first | (go_at_call 208; refine (K.out _).mono ?_; rintro e w1 ⟨rfl, rfl⟩))
        go_ret
        rw [hR.out]
        exact ⟨rfl, (Below.refl _ w).alloc (Nat.le_refl _) _⟩
      · have hR : Hid (R = decide ((v.size : Int) ≤ 2000)) := by
          show _ = _
          rw [← HR.out, changeOkD_parts]
          simp only
          rw [hk, Bool.true_and, Bool.false_and, Bool.not_false, Bool.and_true, decide_eq_decide]
          omega
        rw [hk] at K
        go_enter Tryz.func189, Tryz.ntmps189
        go_wp2_with (first | (go_at_call 208; refine (K.out _).mono ?_; rintro e w1 ⟨rfl, rfl⟩))
        go_ret
        rw [hR.out]
        exact ⟨rfl, (Below.refl _ w).alloc (Nat.le_refl _) _⟩
    · have hR : Hid (R = false) := by
        show _ = _
        rw [← HR.out, changeOkD_parts]
        simp only
        rw [show decide (v.size = 0) = false from by simp [hz]]
        simp
      go_enter Tryz.func189, Tryz.ntmps189
      go_wp2
      go_ret
      rw [hR.out]
      exact ⟨rfl, (Below.refl _ w).alloc (Nat.le_refl _) _⟩
theorem implBatchOk_any (q : Int) (fs : List ChangeD) (ao : Option Addr) (cap : Nat) (w : World) (hl : fs.length ≤ 1048576) (hfs : ChangesAt w ao fs) (hsz : ∀ A ∈ fs, A.key.size ≤ 1048576 ∧ A.value.size ≤ 1048576) :
    Calls Tryz.prog 176 #[.agg #[.int .i64 q, .slice ao fs.length cap]] w fun e w' => e = .returned (.bool (batchOkD q fs)) ∧ Below w.heap.size w w' := by
  have HF := hide hfs
  have HS := hide hsz
  clear hfs hsz
  obtain ⟨R, HR⟩ : ∃ R, Hid (batchOkD q fs = R) := ⟨_, hide rfl⟩
  rw [HR.out]
  by_cases hq0 : q < 0
  · have hq0' : decide (q < 0) = true := by simp; omega
    have hR : R = false := by rw [← HR.out, batchOkD, show decide (0 ≤ q) = false from by simp; omega]; rfl
    subst hR
    go_enter Tryz.func176, Tryz.ntmps176
    go_wp2
    go_ret
    exact ⟨rfl, (Below.refl _ w).alloc (Nat.le_refl _) _⟩
  have hq0' : decide (q < 0) = false := by simp; omega
  by_cases hq1 : 1000000000 < q
  · have hq1' : decide (1000000000 < q) = true := by simp; omega
    have hR : R = false := by rw [← HR.out, batchOkD, show decide (q ≤ 1000000000) = false from by simp; omega]; simp
    subst hR
    go_enter Tryz.func176, Tryz.ntmps176
    go_wp2
    go_ret
    exact ⟨rfl, (Below.refl _ w).alloc (Nat.le_refl _) _⟩
  have hq1' : decide (1000000000 < q) = false := by simp; omega
  by_cases hn0 : fs.length < 1
  · have hn0' : decide ((fs.length : Int) < 1) = true := by simp; omega
    have hR : R = false := by rw [← HR.out, batchOkD, show decide (1 ≤ fs.length) = false from by rw [decide_eq_false_iff_not]; omega]; simp
    subst hR
    go_enter Tryz.func176, Tryz.ntmps176
    go_wp2
    go_ret
    exact ⟨rfl, (Below.refl _ w).alloc (Nat.le_refl _) _⟩
  have hn0' : decide ((fs.length : Int) < 1) = false := by simp; omega
  by_cases hn1 : 40 < fs.length
  · have hn1' : decide ((40 : Int) < (fs.length : Int)) = true := by simp; omega
    have hR : R = false := by rw [← HR.out, batchOkD, show decide (fs.length ≤ 40) = false from by simp; omega]; simp
    subst hR
    go_enter Tryz.func176, Tryz.ntmps176
    go_wp2
    go_ret
    exact ⟨rfl, (Below.refl _ w).alloc (Nat.le_refl _) _⟩
  have hn1' : decide ((40 : Int) < (fs.length : Int)) = false := by simp; omega
  have HR0 : Hid (okChg (prevChg fs 0) (fs.drop 0) = R) := by
    show _ = _
    rw [← HR.out, batchOkD, show decide (0 ≤ q) = true from by simp; omega, show decide (q ≤ 1000000000) = true from by simp; omega, show decide (1 ≤ fs.length) = true from by simp; omega, show decide (fs.length ≤ 40) = true from by simp; omega]
    rfl
  go_enter Tryz.func176, Tryz.ntmps176
  go_wp2
  go_loopw [28] (fun ii wr => ∃ (k : Nat), ii = .int .i64 k ∧ k ≤ fs.length ∧ Hid (okChg (prevChg fs k) (fs.drop k) = R) ∧ Hid (Below (w.heap.size + 1) (w.alloc (.cells #[.int .i64 q, .slice ao fs.length cap] 101)) wr)) (fun ii _ => fs.length - (intOf ii).toNat)
  case atStart => exact ⟨0, rfl, Nat.zero_le _, HR0, Below.refl _ _⟩
  case round =>
    obtain ⟨k, rfl, hk, HK, HB⟩ := hrel
    have HB0 : Hid (Below w.heap.size w wr) := ((Below.refl _ w).alloc (Nat.le_refl _) _).trans (HB.out.mono (by omega))
    by_cases hlt : k < fs.length
    · have hlt' : decide ((k : Int) < (fs.length : Int)) = true := by simp; omega
      have hsw : w.heap.size + 1 ≤ wr.heap.size := by have := HB.out.size; simpa using this
      obtain ⟨b, off, rfl, hbw, hc0, hc1, hc2⟩ := changesAt_keep HF.out HB0.out k hlt
      have hbox : wr.cell? ⟨w.heap.size, 1, none⟩ = some (.slice (some ⟨b, off, none⟩) fs.length cap) := (HB.out.cell (p := ⟨w.heap.size, 1, none⟩) (by simp)).trans (by rw [cell_of_row _ _ _ _ _ (0, 0) (heap_alloc_new w _)]; rfl)
      obtain ⟨hs1, hs2⟩ := HS.out fs[k] (List.getElem_mem hlt)
      obtain ⟨F, HFk⟩ : ∃ F, Hid (fs[k] = F) := ⟨fs[k], hide rfl⟩
      rw [HFk.out] at hc0 hc1 hc2 hs1 hs2
      have hi0 : (0 : Int) ≤ (k : Int) := by omega
      have hi1 : (k : Int) < (fs.length : Int) := by omega
      go_wp2_with fail
      refine (changeOk_any F _ (by unfold maxLen; omega) (by unfold maxLen; omega)).mono ?_
      rintro e w1 ⟨rfl, b1⟩
      have b2 : Below wr.heap.size wr w1 := ((Below.refl _ wr).alloc (Nat.le_refl _) _).trans (b1.mono (by simp))
      have hbox1 : w1.cell? ⟨w.heap.size, 1, none⟩ = some (.slice (some ⟨b, off, none⟩) fs.length cap) := (b2.cell (p := ⟨w.heap.size, 1, none⟩) (by show w.heap.size < _; omega)).trans hbox
      have hfile1 : w1.heap[wr.heap.size]? = some (.cells #[.string F.key, .string F.value, .bool F.gone] 160 (0, 0)) := (b1.block _ (by simp)).trans (heap_alloc_new wr _)
      have hg0 : w1.cell? ⟨wr.heap.size, 0, none⟩ = some (.string F.key) := (cell_of_row w1 wr.heap.size 0 _ _ (0, 0) hfile1).trans rfl
      have HB1 : Hid (Below (w.heap.size + 1) (w.alloc (.cells #[.int .i64 q, .slice (some ⟨b, off, none⟩) fs.length cap] 101)) w1) := HB.out.trans (b2.mono hsw)
      have HB2 : Hid (Below w.heap.size w w1) := HB0.out.trans (b2.mono (by omega))
      clear b1 hfile1 hbox hc0 hc1 hc2
      cases hok : changeOkD F
      · have hR : Hid (R = false) := by show _ = _; rw [← HK.out, okChg_bad hlt (by rw [HFk.out]; exact hok)]
        go_wp2
        go_ret
        rw [hR.out]
        exact ⟨rfl, HB2.out⟩
      · cases hk0 : decide (0 < k)
        · have hkz : k = 0 := by simpa using hk0
          have HK1 : Hid (okChg (prevChg fs (k + 1)) (fs.drop (k + 1)) = R) := by show _ = _; rw [← HK.out]; subst hkz; exact (okChg_first hlt (by rw [HFk.out]; exact hok)).symm
          clear hkz
          go_wp2_with fail
          go_quiet (fail)
          go_wp2
          go_roundw
          case rel => exact ⟨k + 1, by go_num, by omega, HK1, below_drewN HB1.out _⟩
          case measure => simp [intOf]; omega
        · have hkp : 0 < k := by simpa using hk0
          obtain ⟨b', off', hbe, hbw', hd0, hd1, hd2⟩ := changesAt_keep HF.out HB2.out (k - 1) (by omega)
          obtain ⟨rfl, rfl⟩ : b = b' ∧ off = off' := by simpa using hbe
          obtain ⟨F', HFk'⟩ : ∃ F', Hid (fs[k - 1] = F') := ⟨fs[k - 1], hide rfl⟩
          rw [HFk'.out] at hd0
          clear hd1 hd2 hbe
          have hw : IntKind.i64.wrap ((k : Int) - 1) = ((k - 1 : Nat) : Int) := by rw [IntKind.wrap_i64]; omega
          have hj0 : (0 : Int) ≤ ((k - 1 : Nat) : Int) := by omega
          have hj1 : ((k - 1 : Nat) : Int) < (fs.length : Int) := by omega
          go_wp2_with fail
          go_quiet (fail)
          cases hless : Op.bytesLess F'.key.toList F.key.toList
          · have hR : Hid (R = false) := by show _ = _; rw [← HK.out]; exact okChg_less hlt hkp (by rw [HFk.out, HFk'.out]; exact hless)
            go_wp2
            go_ret
            rw [hR.out]
            exact ⟨rfl, below_drewN HB2.out _⟩
          · have HK1 : Hid (okChg (prevChg fs (k + 1)) (fs.drop (k + 1)) = R) := by show _ = _; rw [← HK.out]; exact (okChg_more hlt hkp (by rw [HFk.out]; exact hok) (by rw [HFk.out, HFk'.out]; exact hless)).symm
            go_wp2
            go_roundw
            case rel => exact ⟨k + 1, by go_num, by omega, HK1, below_drewN HB1.out _⟩
            case measure => simp [intOf]; omega
    · have hlt' : decide ((k : Int) < (fs.length : Int)) = false := by simp; omega
      have hR : Hid (R = true) := by show _ = _; rw [← HK.out, okChg_end (by omega)]
      go_wp2
      go_ret
      rw [hR.out]
      exact ⟨rfl, HB0.out⟩
end Go.Proofs.YtlcfblodflgleaaGreatDoor
