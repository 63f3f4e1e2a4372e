/- The program's DirOk. -/
import Derived.Test.YtijmlgdeeodehabDoorDirs
import Derived.Test.YtijmlgdeeodehabDoorBatchI1
import Derived.Test.YtijmlgdeeodehabDoorSegs
namespace Go.Proofs.YtijmlgdeeodehabDoor
open Go.RowKit

theorem spotOkD_parts (A : SpotD) : spotOkD A = (decide (0 ≤ A.pos) && (decide (A.pos ≤ 20000) && (decide (0 ≤ A.seq) && (decide (A.seq ≤ 1000000000) && (keyOkD A.key && (decide (0 ≤ A.seg) && decide (A.seg ≤ 99))))))) := by
  unfold spotOkD keyOkD
  rw [← Bool.decide_and, ← Bool.decide_and, ← Bool.decide_and, ← Bool.decide_and, ← Bool.decide_and, ← Bool.decide_and, ← Bool.decide_and, decide_eq_decide]
  constructor
  · rintro ⟨h1, h2, h3, h4⟩
    exact ⟨h3.1, h3.2, h4.1, h4.2, h1, h2⟩
  · rintro ⟨h1, h2, h3, h4, h5, h6⟩
    exact ⟨h5, h6, ⟨h1, h2⟩, ⟨h3, h4⟩⟩

set_option maxRecDepth 100000 in
set_option maxHeartbeats 1600000 in
theorem spotOk_any (A : SpotD) (w : World) (h1 : A.key.size ≤ maxLen) :
    Calls Tryd.prog 60 #[.agg #[.string A.key, .int .i64 A.seg, .int .i64 A.pos, .int .i64 A.seq]] w fun e w' => e = .returned (.bool (spotOkD A)) ∧ Below w.heap.size w w' := by
  have K := hide (fun W => keyOk_any A.key W h1)
  obtain ⟨R, HR⟩ : ∃ R, Hid (spotOkD A = R) := ⟨_, hide rfl⟩
  rw [HR.out]
  rw [spotOkD_parts] at HR
  obtain ⟨key, seg, pos, seq⟩ := A
  simp only at K h1 HR ⊢
  by_cases a1 : pos < 0
  · have a1' : decide (pos < 0) = true := by simp; omega
    have hR : Hid (R = false) := by show _ = _; rw [← HR.out, show decide (0 ≤ pos) = false from by simp; omega]; rfl
    go_enter Tryd.func60, Tryd.ntmps60
    go_wp2
    go_ret
    rw [hR.out]
    exact ⟨rfl, (Below.refl _ w).alloc (Nat.le_refl _) _⟩
  have a1' : decide (pos < 0) = false := by simp; omega
  rw [show decide (0 ≤ pos) = true from by simp; omega, Bool.true_and] at HR
  by_cases a2 : 20000 < pos
  · have a2' : decide (20000 < pos) = true := by simp; omega
    have hR : Hid (R = false) := by show _ = _; rw [← HR.out, show decide (pos ≤ 20000) = false from by simp; omega]; rfl
    go_enter Tryd.func60, Tryd.ntmps60
    go_wp2
    go_ret
    rw [hR.out]
    exact ⟨rfl, (Below.refl _ w).alloc (Nat.le_refl _) _⟩
  have a2' : decide (20000 < pos) = false := by simp; omega
  rw [show decide (pos ≤ 20000) = true from by simp; omega, Bool.true_and] at HR
  by_cases a3 : seq < 0
  · have a3' : decide (seq < 0) = true := by simp; omega
    have hR : Hid (R = false) := by show _ = _; rw [← HR.out, show decide (0 ≤ seq) = false from by simp; omega]; rfl
    go_enter Tryd.func60, Tryd.ntmps60
    go_wp2
    go_ret
    rw [hR.out]
    exact ⟨rfl, (Below.refl _ w).alloc (Nat.le_refl _) _⟩
  have a3' : decide (seq < 0) = false := by simp; omega
  rw [show decide (0 ≤ seq) = true from by simp; omega, Bool.true_and] at HR
  by_cases a4 : 1000000000 < seq
  · have a4' : decide (1000000000 < seq) = true := by simp; omega
    have hR : Hid (R = false) := by show _ = _; rw [← HR.out, show decide (seq ≤ 1000000000) = false from by simp; omega]; rfl
    go_enter Tryd.func60, Tryd.ntmps60
    go_wp2
    go_ret
    rw [hR.out]
    exact ⟨rfl, (Below.refl _ w).alloc (Nat.le_refl _) _⟩
  have a4' : decide (1000000000 < seq) = false := by simp; omega
  rw [show decide (seq ≤ 1000000000) = true from by simp; omega, Bool.true_and] at HR
  obtain ⟨kb, HKB⟩ : ∃ kb, Hid (keyOkD key = kb) := ⟨_, hide rfl⟩
  rw [HKB.out] at K HR
  cases kb with
  | false =>
    have hR : Hid (R = false) := by show _ = _; rw [← HR.out]; rfl
    go_enter Tryd.func60, Tryd.ntmps60
    go_wp2_with (first | (go_at_call 88; refine (K.out _).mono ?_; rintro e w1 ⟨rfl, rfl⟩))
    go_ret
    rw [hR.out]
    exact ⟨rfl, (Below.refl _ w).alloc (Nat.le_refl _) _⟩
  | true =>
    rw [Bool.true_and] at HR
    go_enter Tryd.func60, Tryd.ntmps60
    go_wp2_with (first | (go_at_call 88; refine (K.out _).mono ?_; rintro e w1 ⟨rfl, rfl⟩) | (go_at_call 49; refine (right_any seg R _ HR.out).mono ?_; rintro e w1 ⟨rfl, rfl⟩))
    go_ret
    exact ⟨rfl, (Below.refl _ w).alloc (Nat.le_refl _) _⟩

set_option maxRecDepth 100000 in
set_option maxHeartbeats 1600000 in
theorem implDirOk_any (fs : List SpotD) (ao : Option Addr) (cap : Nat) (w : World) (hl : fs.length ≤ 1048576) (hfs : SpotsAt w ao fs) (hsz : ∀ A ∈ fs, A.key.size ≤ maxLen) :
    Calls Tryd.prog 28 #[.slice ao fs.length cap] w fun e w' => e = .returned (.bool (dirOkD fs)) ∧ Below w.heap.size w w' := by
  have HF := hide hfs
  have HS := hide hsz
  clear hfs hsz
  by_cases hbig : 200 < fs.length
  · have hbig' : decide ((200 : Int) < (fs.length : Int)) = true := by simp; omega
    have hR : Hid (dirOkD fs = false) := by show _ = _; unfold dirOkD; rw [decide_eq_false (by omega)]; rfl
    go_enter Tryd.func28, Tryd.ntmps28
    go_wp2
    go_ret
    rw [hR.out]
    exact ⟨rfl, Below.refl _ _⟩
  have hbig' : decide ((200 : Int) < (fs.length : Int)) = false := by simp; omega
  obtain ⟨R, HR⟩ : ∃ R, Hid (okSpt (prevSpt fs 0) (fs.drop 0) = R) := ⟨_, rfl⟩
  have HE : Hid (dirOkD fs = R) := by show _ = _; unfold dirOkD; rw [decide_eq_true (by omega), ← HR.out]; rfl
  rw [HE.out]
  go_enter Tryd.func28, Tryd.ntmps28
  go_wp2_with fail
  go_loopw [10] (fun ii wr => ∃ (k : Nat), ii = .int .i64 k ∧ k ≤ fs.length ∧ Hid (okSpt (prevSpt fs k) (fs.drop k) = R) ∧ Hid (Below w.heap.size w wr)) (fun ii _ => fs.length - (intOf ii).toNat)
  case atStart => exact ⟨0, rfl, Nat.zero_le _, HR, Below.refl _ _⟩
  case round =>
    obtain ⟨k, rfl, hk, HK, HB⟩ := hrel
    by_cases hlt : k < fs.length
    · have hlt' : decide ((k : Int) < (fs.length : Int)) = true := by simp; omega
      obtain ⟨b, off, rfl, hbw, hc0, hc1, hc2, hc3⟩ := spotsAt_keep HF.out HB.out k hlt
      have hs1 := HS.out fs[k] (List.getElem_mem hlt)
      obtain ⟨F, HFk⟩ : ∃ F, Hid (fs[k] = F) := ⟨fs[k], hide rfl⟩
      rw [HFk.out] at hc0 hc1 hc2 hc3 hs1
      have HSO := hide (fun W => spotOk_any F W hs1)
      obtain ⟨ob, HOB⟩ : ∃ b, Hid (spotOkD F = b) := ⟨_, hide rfl⟩
      rw [HOB.out] at HSO
      have hi0 : (0 : Int) ≤ (k : Int) := by omega
      have hi1 : (k : Int) < (fs.length : Int) := by omega
      obtain ⟨W, hW⟩ : ∃ W, W = wr.alloc (.cells #[.string F.key, .int .i64 F.seg, .int .i64 F.pos, .int .i64 F.seq] 44) := ⟨_, rfl⟩
      have b2 : Below wr.heap.size wr W := by rw [hW]; exact (Below.refl _ wr).alloc (Nat.le_refl _) _
      have HB2 : Hid (Below w.heap.size w W) := HB.out.trans (b2.mono HB.out.size)
      have HFI : Hid (W.heap[wr.heap.size]? = some (.cells #[.string F.key, .int .i64 F.seg, .int .i64 F.pos, .int .i64 F.seq] 44 (0, 0))) := by rw [hW]; exact heap_alloc_new wr _
      go_wp2_with fail
      rw [← hW]
      clear hW b2 hc0 hc1 hc2 hc3
      refine (HSO.out _).mono ?_
      rintro e w1 ⟨rfl, b1⟩
      have HB3 : Hid (Below w.heap.size w w1) := HB2.out.trans (b1.mono HB2.out.size)
      have hg0 : w1.cell? ⟨wr.heap.size, 0, none⟩ = some (.string F.key) := (cell_of_row w1 wr.heap.size 0 _ _ (0, 0) ((b1.block _ (Array.getElem?_eq_some_iff.1 HFI.out).1).trans HFI.out)).trans rfl
      clear b1
      cases ob with
      | false =>
        have hR : Hid (R = false) := by show _ = _; rw [← HK.out]; exact okSpt_bad hlt (by rw [HFk.out]; exact HOB.out)
        go_wp2
        go_ret
        rw [hR.out]
        exact ⟨rfl, HB3.out⟩
      | true =>
        cases hk0 : decide (0 < k) with
        | false =>
          have hkz : k = 0 := by simpa using hk0
          have hk1 : decide ((0 : Int) < (k : Int)) = false := by simp; omega
          have HK1 : Hid (okSpt (prevSpt fs (k + 1)) (fs.drop (k + 1)) = R) := by show _ = _; rw [← HK.out]; subst hkz; exact (okSpt_first hlt (by rw [HFk.out]; exact HOB.out)).symm
          go_wp2_with fail
          go_quiet (fail)
          go_wp2
          go_roundw
          case rel => exact ⟨k + 1, by go_num, by omega, HK1, below_drewN HB3.out _⟩
          case measure => simp [intOf]; omega
        | true =>
          have hkp : 0 < k := by simpa using hk0
          have hk1 : decide ((0 : Int) < (k : Int)) = true := by simp; omega
          obtain ⟨b', off', hbe, hbw', hd0, hd1, hd2, hd3⟩ := spotsAt_keep HF.out HB3.out (k - 1) (by omega)
          obtain ⟨rfl, rfl⟩ : b = b' ∧ off = off' := by simpa using hbe
          obtain ⟨F', HFk'⟩ : ∃ F', Hid (fs[k - 1] = F') := ⟨fs[k - 1], hide rfl⟩
          rw [HFk'.out] at hd0
          clear hd1 hd2 hd3 hbe
          have hw : IntKind.i64.wrap ((k : Int) - 1) = ((k - 1 : Nat) : Int) := by rw [IntKind.wrap_i64]; omega
          have hj0 : (0 : Int) ≤ ((k - 1 : Nat) : Int) := by omega
          have hj1 : ((k - 1 : Nat) : Int) < (fs.length : Int) := by omega
          cases hless : Op.bytesLess F'.key.toList F.key.toList with
          | false =>
            have hR : Hid (R = false) := by show _ = _; rw [← HK.out]; exact okSpt_less hlt hkp (by rw [HFk.out, HFk'.out]; exact hless)
            go_wp2_with fail
            go_quiet (fail)
            go_wp2
            go_ret
            rw [hR.out]
            exact ⟨rfl, below_drewN HB3.out _⟩
          | true =>
            have HK1 : Hid (okSpt (prevSpt fs (k + 1)) (fs.drop (k + 1)) = R) := by show _ = _; rw [← HK.out]; exact (okSpt_more hlt hkp (by rw [HFk.out]; exact HOB.out) (by rw [HFk.out, HFk'.out]; exact hless)).symm
            go_wp2_with fail
            go_quiet (fail)
            go_wp2
            go_roundw
            case rel => exact ⟨k + 1, by go_num, by omega, HK1, below_drewN HB3.out _⟩
            case measure => simp [intOf]; omega
    · have hlt' : decide ((k : Int) < (fs.length : Int)) = false := by simp; omega
      have hR : Hid (R = true) := by show _ = _; rw [← HK.out, okSpt_end (by omega)]
      go_wp2
      go_ret
      rw [hR.out]
      exact ⟨rfl, HB.out⟩
end Go.Proofs.YtijmlgdeeodehabDoor
