/- The specification's DirOk (written by tools/gen_dirok.py). -/
import Derived.Test.YtijmlgdeeodehabDoorDirs
import Derived.Deep.RegionHeld3
import Derived.BigQuiet
namespace Go.Proofs.YtijmlgdeeodehabDoor
open Go.RowKit

set_option maxRecDepth 100000 in
set_option maxHeartbeats 6400000 in
theorem specDirOk_any (fs : List SpotD) (ao : Option Addr) (cap : Nat) (w : World) (hl : fs.length ≤ 1048576) (hfs : SpotsAt w ao fs) (hsz : ∀ A ∈ fs, A.key.size ≤ maxLen) :
    Calls Tryd.prog 33 #[.slice ao fs.length cap] w fun e w' => e = .returned (.bool (dirOkD fs)) ∧ Below w.heap.size w w' := by
  have HF := hide hfs
  have HS := hide hsz
  clear hfs hsz
  by_cases hbig : 200 < fs.length
  · have hbig' : decide ((200 : Int) < (fs.length : Int)) = true := by simp; omega
    have hR : Hid (dirOkD fs = false) := by show _ = _; unfold dirOkD; rw [decide_eq_false (by omega)]; rfl
    go_enter Tryd.func33, Tryd.ntmps33
    go_wp2
    go_ret
    rw [hR.out]
    exact ⟨rfl, Below.refl _ _⟩
  have hbig' : decide ((200 : Int) < (fs.length : Int)) = false := by simp; omega
  obtain ⟨R, HR⟩ : ∃ R, Hid (okSpt (prevSpt fs 0) (fs.drop 0) = R) := ⟨_, rfl⟩
  have HE : Hid (dirOkD fs = R) := by show _ = _; unfold dirOkD; rw [decide_eq_true (by omega), ← HR.out]; rfl
  obtain ⟨inB, HIN⟩ : ∃ inB : Int → Int → Int → Bool, Hid (∀ x a b, inB x a b = (decide (a ≤ x) && decide (x ≤ b))) := ⟨_, fun _ _ _ => rfl⟩
  have CIN : Hid (∀ (x a b : Int) (W : World), Calls Tryd.prog 65 #[.int .i64 x, .int .i64 a, .int .i64 b] W fun e w' => e = .returned (.bool (inB x a b)) ∧ w' = W) := fun x a b W => by rw [HIN.out]; exact l01In_any x a b W
  rw [HE.out]
  go_enter Tryd.func33, Tryd.ntmps33
  go_wp2
  go_loopw [3] (fun ii wr => ∃ (k : Nat), ii = .int .i64 k ∧ k ≤ fs.length ∧ Hid (okSpt (prevSpt fs k) (fs.drop k) = R) ∧ Hid (Below w.heap.size w wr)) (fun ii _ => fs.length - (intOf ii).toNat)
  case atStart => exact ⟨0, rfl, Nat.zero_le _, HR, Below.refl _ _⟩
  case round =>
    obtain ⟨k, rfl, hk, HK, HB⟩ := hrel
    by_cases hlt : k < fs.length
    · have hlt' : decide ((k : Int) < (fs.length : Int)) = true := by simp; omega
      obtain ⟨b, off, rfl, hbw, hc0, hc1, hc2, hc3⟩ := spotsAt_keep HF.out HB.out k hlt
      have hs1 := HS.out fs[k] (List.getElem_mem hlt)
      obtain ⟨F, HFk⟩ : ∃ F, Hid (fs[k] = F) := ⟨fs[k], hide rfl⟩
      rw [HFk.out] at hc0 hc1 hc2 hc3 hs1
      unfold maxLen at hs1
      have HNO : Hid ((inB (F.key.size : Int) 1 20 && (inB F.seg 0 99 && (inB F.pos 0 20000 && inB F.seq 0 1000000000))) = false → spotOkD F = false) := by
        intro h
        rw [HIN.out, HIN.out, HIN.out, HIN.out] at h
        unfold spotOkD
        apply decide_eq_false
        rintro ⟨⟨a1, a2⟩, ⟨a3, a4⟩, ⟨a5, a6⟩, a7, a8⟩
        rw [decide_eq_true (by omega), decide_eq_true (by omega), decide_eq_true a3, decide_eq_true a4, decide_eq_true a5, decide_eq_true a6, decide_eq_true a7, decide_eq_true a8] at h
        cases h
      have HYES : Hid (inB (F.key.size : Int) 1 20 = true → inB F.seg 0 99 = true → inB F.pos 0 20000 = true → inB F.seq 0 1000000000 = true → spotOkD F = true) := by
        intro h1 h2 h3 h4
        rw [HIN.out] at h1 h2 h3 h4
        simp only [Bool.and_eq_true, decide_eq_true_eq] at h1 h2 h3 h4
        unfold spotOkD
        exact decide_eq_true ⟨⟨by omega, by omega⟩, h2, h3, h4⟩
      have hi0 : (0 : Int) ≤ (k : Int) := by omega
      have hi1 : (k : Int) < (fs.length : Int) := by omega
      obtain ⟨W, hW⟩ : ∃ W, W = wr.alloc (.cells #[.string F.key, .int .i64 F.seg, .int .i64 F.pos, .int .i64 F.seq] 44) := ⟨_, rfl⟩
      have b2 : Below wr.heap.size wr W := by rw [hW]; exact (Below.refl _ wr).alloc (Nat.le_refl _) _
      have HB2 : Hid (Below w.heap.size w W) := HB.out.trans (b2.mono HB.out.size)
      have hfile : W.heap[wr.heap.size]? = some (.cells #[.string F.key, .int .i64 F.seg, .int .i64 F.pos, .int .i64 F.seq] 44 (0, 0)) := by rw [hW]; exact heap_alloc_new wr _
      have hg0 : W.cell? ⟨wr.heap.size, 0, none⟩ = some (.string F.key) := (cell_of_row W wr.heap.size 0 _ _ (0, 0) hfile).trans rfl
      have hg1 : W.cell? ⟨wr.heap.size, 1, none⟩ = some (.int .i64 F.seg) := (cell_of_row W wr.heap.size 1 _ _ (0, 0) hfile).trans rfl
      have hg2 : W.cell? ⟨wr.heap.size, 2, none⟩ = some (.int .i64 F.pos) := (cell_of_row W wr.heap.size 2 _ _ (0, 0) hfile).trans rfl
      have hg3 : W.cell? ⟨wr.heap.size, 3, none⟩ = some (.int .i64 F.seq) := (cell_of_row W wr.heap.size 3 _ _ (0, 0) hfile).trans rfl
      go_wp2_with fail
      rw [← hW]
      clear hW hfile b2 hc0 hc1 hc2 hc3
      cases q1 : inB (F.key.size : Int) 1 20 with
      | false =>
        have hR : Hid (R = false) := by show _ = _; rw [← HK.out]; exact okSpt_bad hlt (by rw [HFk.out]; exact HNO.out (by simp [q1]))
        go_quiet ((go_at_call 65; exact Calls.quiet_of_same (CIN.out _ _ _ _)))
        go_wp2
        go_ret
        rw [hR.out]
        exact ⟨rfl, below_drewN HB2.out _⟩
      | true =>
        cases hk0 : decide (0 < k) with
        | false =>
          have hkz : k = 0 := by simpa using hk0
          have hk1 : decide ((0 : Int) < (k : Int)) = false := by simp; omega
          cases q2 : inB F.seg 0 99 with
          | false =>
            have hR : Hid (R = false) := by show _ = _; rw [← HK.out]; exact okSpt_bad hlt (by rw [HFk.out]; exact HNO.out (by simp [q2]))
            go_quiet ((go_at_call 65; exact Calls.quiet_of_same (CIN.out _ _ _ _)))
            go_wp2
            go_ret
            rw [hR.out]
            exact ⟨rfl, below_drewN HB2.out _⟩
          | true =>
            cases q3 : inB F.pos 0 20000 with
            | false =>
              have hR : Hid (R = false) := by show _ = _; rw [← HK.out]; exact okSpt_bad hlt (by rw [HFk.out]; exact HNO.out (by simp [q3]))
              go_quiet ((go_at_call 65; exact Calls.quiet_of_same (CIN.out _ _ _ _)))
              go_wp2
              go_ret
              rw [hR.out]
              exact ⟨rfl, below_drewN HB2.out _⟩
            | true =>
              cases q4 : inB F.seq 0 1000000000 with
              | false =>
                have hR : Hid (R = false) := by show _ = _; rw [← HK.out]; exact okSpt_bad hlt (by rw [HFk.out]; exact HNO.out (by simp [q4]))
                go_quiet ((go_at_call 65; exact Calls.quiet_of_same (CIN.out _ _ _ _)))
                go_wp2
                go_ret
                rw [hR.out]
                exact ⟨rfl, below_drewN HB2.out _⟩
              | true =>
                have HK1 : Hid (okSpt (prevSpt fs (k + 1)) (fs.drop (k + 1)) = R) := by show _ = _; rw [← HK.out]; subst hkz; exact (okSpt_first hlt (by rw [HFk.out]; exact HYES.out q1 q2 q3 q4)).symm
                go_quiet ((go_at_call 65; exact Calls.quiet_of_same (CIN.out _ _ _ _)))
                go_wp2
                go_roundw
                case rel => exact ⟨k + 1, by go_num, by omega, HK1, below_drewN HB2.out _⟩
                case measure => simp [intOf]; omega
        | true =>
          have hkp : 0 < k := by simpa using hk0
          have hk1 : decide ((0 : Int) < (k : Int)) = true := by simp; omega
          obtain ⟨b', off', hbe, hbw', hd0, hd1, hd2, hd3⟩ := spotsAt_keep HF.out HB2.out (k - 1) (by omega)
          obtain ⟨rfl, rfl⟩ : b = b' ∧ off = off' := by simpa using hbe
          obtain ⟨F', HFk'⟩ : ∃ F', Hid (fs[k - 1] = F') := ⟨fs[k - 1], hide rfl⟩
          rw [HFk'.out] at hd0
          clear hd1 hd2 hd3 hbe
          have hw : IntKind.i64.wrap ((k : Int) - 1) = ((k - 1 : Nat) : Int) := by rw [IntKind.wrap_i64]; omega
          have hj0 : (0 : Int) ≤ ((k - 1 : Nat) : Int) := by omega
          have hj1 : ((k - 1 : Nat) : Int) < (fs.length : Int) := by omega
          cases hless : Op.bytesLess F'.key.toList F.key.toList with
          | false =>
            have hR : Hid (R = false) := by show _ = _; rw [← HK.out]; exact okSpt_less hlt hkp (by rw [HFk.out, HFk'.out]; exact hless)
            go_quiet ((go_at_call 65; exact Calls.quiet_of_same (CIN.out _ _ _ _)))
            go_wp2
            go_ret
            rw [hR.out]
            exact ⟨rfl, below_drewN HB2.out _⟩
          | true =>
            cases q2 : inB F.seg 0 99 with
            | false =>
              have hR : Hid (R = false) := by show _ = _; rw [← HK.out]; exact okSpt_bad hlt (by rw [HFk.out]; exact HNO.out (by simp [q2]))
              go_quiet ((go_at_call 65; exact Calls.quiet_of_same (CIN.out _ _ _ _)))
              go_wp2
              go_ret
              rw [hR.out]
              exact ⟨rfl, below_drewN HB2.out _⟩
            | true =>
              cases q3 : inB F.pos 0 20000 with
              | false =>
                have hR : Hid (R = false) := by show _ = _; rw [← HK.out]; exact okSpt_bad hlt (by rw [HFk.out]; exact HNO.out (by simp [q3]))
                go_quiet ((go_at_call 65; exact Calls.quiet_of_same (CIN.out _ _ _ _)))
                go_wp2
                go_ret
                rw [hR.out]
                exact ⟨rfl, below_drewN HB2.out _⟩
              | true =>
                cases q4 : inB F.seq 0 1000000000 with
                | false =>
                  have hR : Hid (R = false) := by show _ = _; rw [← HK.out]; exact okSpt_bad hlt (by rw [HFk.out]; exact HNO.out (by simp [q4]))
                  go_quiet ((go_at_call 65; exact Calls.quiet_of_same (CIN.out _ _ _ _)))
                  go_wp2
                  go_ret
                  rw [hR.out]
                  exact ⟨rfl, below_drewN HB2.out _⟩
                | true =>
                  have HK1 : Hid (okSpt (prevSpt fs (k + 1)) (fs.drop (k + 1)) = R) := by show _ = _; rw [← HK.out]; exact (okSpt_more hlt hkp (by rw [HFk.out]; exact HYES.out q1 q2 q3 q4) (by rw [HFk.out, HFk'.out]; exact hless)).symm
                  go_quiet ((go_at_call 65; exact Calls.quiet_of_same (CIN.out _ _ _ _)))
                  go_wp2
                  go_roundw
                  case rel => exact ⟨k + 1, by go_num, by omega, HK1, below_drewN HB2.out _⟩
                  case measure => simp [intOf]; omega
    · have hlt' : decide ((k : Int) < (fs.length : Int)) = false := by simp; omega
      have hR : Hid (R = true) := by show _ = _; rw [← HK.out, okSpt_end (by omega)]
      go_wp2
      go_ret
      rw [hR.out]
      exact ⟨rfl, HB.out⟩
end Go.Proofs.YtijmlgdeeodehabDoor
