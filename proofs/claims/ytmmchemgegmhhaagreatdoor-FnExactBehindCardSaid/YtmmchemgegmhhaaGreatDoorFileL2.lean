/- Files as the laws hold them: measured, turned into the program's, held against each other. -/
import Derived.Test.YtmmchemgegmhhaaGreatDoorFileL
namespace Go.Proofs.YtmmchemgegmhhaaGreatDoor
open Go.RowKit

set_option maxRecDepth 100000 in
set_option maxHeartbeats 400000 in
theorem eqFile_same (F : FileD) (w : World) :
    Calls Tryz.prog 146 #[.agg #[.string F.name, .string F.text, .int .i64 F.kept], .agg #[.string F.name, .string F.text, .int .i64 F.kept]] w fun e w' => e = .returned (.bool true) ∧ Below w.heap.size w w' := by
  obtain ⟨a, b, k⟩ := F
  have h1 : (a.toList == a.toList) = true := beq_self_eq_true _
  have h2 : (b.toList == b.toList) = true := beq_self_eq_true _
  have h3 : (k == k) = true := beq_self_eq_true _
  go_enter Tryz.func146, Tryz.ntmps146
  go_wp2
  go_ret
  exact ⟨rfl, ((Below.refl _ w).alloc (Nat.le_refl _) _).alloc (by simp) _⟩

set_option maxRecDepth 100000 in
set_option maxHeartbeats 400000 in
theorem toFile_any (F : FileD) (w : World) :
    Calls Tryz.prog 145 #[.agg #[.string F.name, .string F.text, .int .i64 F.kept]] w fun e w' => e = .returned (.agg #[.string F.name, .string F.text, .int .i64 F.kept]) ∧ Below w.heap.size w w' := by
  obtain ⟨a, b, k⟩ := F
  go_enter Tryz.func145, Tryz.ntmps145
  go_wp2
  refine bodyPost_ret (v := .agg #[.string a, .string b, .int .i64 k]) (by simp [results, Tryz.results145, go_sem]) rfl ⟨rfl, ?_⟩
  exact (((Below.refl _ w).alloc (Nat.le_refl _) _).alloc (by simp) _).alloc (by simp; omega) _

/-- What files leave of a measure. -/
def szFs : List FileD → Int → Int
  | [], n => n
  | F :: r, n => if szF F n < 0 then -1 else szFs r (szF F n)

theorem szF_le (F : FileD) (n : Int) (h : 0 ≤ n) : szF F n ≤ n := by
  unfold szF; split
  · omega
  · split <;> omega

set_option maxRecDepth 100000 in
set_option maxHeartbeats 400000 in
theorem szFileS_any (fs : List FileD) (ao : Option Addr) (cap : Nat) (n : Int) (w : World) (h0 : 0 ≤ n) (h1 : n ≤ 1048576) (hl : fs.length ≤ maxLen) (hfs : FilesAt w ao fs) (hsz : ∀ F ∈ fs, F.name.size ≤ maxLen ∧ F.text.size ≤ maxLen) :
    Calls Tryz.prog 95 #[.slice ao fs.length cap, .int .i64 n] w fun e w' => e = .returned (.int .i64 (if n < fs.length then -1 else szFs fs (n - fs.length))) ∧ Below w.heap.size w w' := by
  have HF := hide hfs
  have HS := hide hsz
  clear hfs hsz
  unfold maxLen at hl
  by_cases hn : n < fs.length
  · have hn' : decide (n - (fs.length : Int) < 0) = true := by simp; omega
    rw [if_pos hn]
    go_enter Tryz.func95, Tryz.ntmps95
    go_wp2
    go_ret
    exact ⟨rfl, Below.refl _ _⟩
  · have hn' : decide (n - (fs.length : Int) < 0) = false := by simp; omega
    rw [if_neg hn]
    obtain ⟨R, HR⟩ : ∃ R, Hid (szFs fs (n - fs.length) = R) := ⟨_, rfl⟩
    rw [HR.out]
    go_enter Tryz.func95, Tryz.ntmps95
    go_wp2
    go_loopw [1, 5] (fun m ii wr => ∃ (k : Nat) (x : Int), ii = .int .i64 k ∧ m = .int .i64 x ∧ k ≤ fs.length ∧ 0 ≤ x ∧ x ≤ 1048576 ∧ Hid (szFs (fs.drop k) x = R) ∧ Hid (Below w.heap.size w wr)) (fun _ ii _ => fs.length - (intOf ii).toNat)
    case atStart => exact ⟨0, n - fs.length, rfl, rfl, Nat.zero_le _, by omega, by omega, HR.out, Below.refl _ _⟩
    case round =>
      obtain ⟨k, x, rfl, rfl, hk, hx0, hx1, HX, HB⟩ := hrel
      by_cases hlt : k < fs.length
      · have hlt' : decide ((k : Int) < (fs.length : Int)) = true := by simp; omega
        obtain ⟨b, off, rfl, hbw, hc0, hc1, hc2⟩ := filesAt_keep HF.out HB.out k hlt
        obtain ⟨hs1, hs2⟩ := HS.out fs[k] (List.getElem_mem hlt)
        have HD : Hid (szFs (fs.drop k) x = if szF fs[k] x < 0 then -1 else szFs (fs.drop (k + 1)) (szF fs[k] x)) := by show _ = _; rw [List.drop_eq_getElem_cons hlt]; rfl
        have hle := szF_le fs[k] x hx0
        generalize fs[k] = F at hc0 hc1 hc2 hs1 hs2 HD hle
        have hi0 : (0 : Int) ≤ (k : Int) := by omega
        have hi1 : (k : Int) < (fs.length : Int) := by omega
        go_wp2_with fail
        refine (szFile_any F x _ hx0 hx1 hs1 hs2).mono ?_
        rintro e w1 ⟨rfl, b1⟩
        have HB1 := hide (HB.out.trans (b1.mono HB.out.size))
        clear b1 hc0 hc1 hc2
        generalize szF F x = y at HD hle
        by_cases hneg : y < 0
        · have hneg' : decide (y < 0) = true := by simp; omega
          have hR : Hid (R = -1) := by show _ = _; rw [← HX.out, HD.out, if_pos hneg]
          go_wp2
          go_ret
          rw [hR.out]
          exact ⟨rfl, HB1.out⟩
        · have hneg' : decide (y < 0) = false := by simp; omega
          have hR : Hid (szFs (fs.drop (k + 1)) y = R) := by show _ = _; rw [← HX.out, HD.out, if_neg hneg]
          go_wp2
          go_roundw
          case rel => exact ⟨k + 1, y, by go_num, rfl, by omega, by omega, by omega, hR, HB1⟩
          case measure => simp [intOf]; omega
      · have hlt' : decide ((k : Int) < (fs.length : Int)) = false := by simp; omega
        have hR : Hid (x = R) := by show _ = _; rw [← HX.out, List.drop_eq_nil_of_le (by omega)]; rfl
        go_wp2
        go_ret
        rw [← hR.out]
        exact ⟨rfl, HB.out⟩

theorem szDisk_any (fs : List FileD) (ao : Option Addr) (cap : Nat) (n : Int) (w : World) (h0 : 0 ≤ n) (h1 : n ≤ 1048576) (hl : fs.length ≤ maxLen) (hfs : FilesAt w ao fs) (hsz : ∀ F ∈ fs, F.name.size ≤ maxLen ∧ F.text.size ≤ maxLen) :
    Calls Tryz.prog 50 #[.agg #[.slice ao fs.length cap], .int .i64 n] w fun e w' => (∃ r : Int, e = .returned (.int .i64 r) ∧ (0 ≤ r → r = szFs fs (n - fs.length) ∧ (fs.length : Int) ≤ n)) ∧ Below w.heap.size w w' := by
  have HF := hide hfs
  have HS := hide hsz
  clear hfs hsz
  go_enter Tryz.func50, Tryz.ntmps50
  go_wp2_with fail
  refine (szFileS_any fs ao cap n _ h0 h1 hl (filesAt_keep HF.out ((Below.refl _ w).alloc (Nat.le_refl _) _)) HS.out).mono ?_
  rintro e w1 ⟨rfl, b1⟩
  obtain ⟨R, HR⟩ : ∃ R : Int, Hid ((if n < fs.length then -1 else szFs fs (n - fs.length)) = R) := ⟨_, rfl⟩
  rw [HR.out]
  have B1 : Hid (Below w.heap.size w w1) := ((Below.refl _ w).alloc (Nat.le_refl _) _).trans (b1.mono (by simp))
  clear b1
  by_cases hneg : R < 0
  · have hneg' : decide (R < 0) = true := by simp; omega
    go_wp2
    go_ret
    exact ⟨⟨-1, rfl, fun h => absurd h (by decide)⟩, B1.out⟩
  · have hneg' : decide (R < 0) = false := by simp; omega
    go_wp2
    go_ret
    refine ⟨⟨R, rfl, fun _ => ?_⟩, B1.out⟩
    have := HR.out
    split at this
    · omega
    · exact ⟨this.symm, by omega⟩
end Go.Proofs.YtmmchemgegmhhaaGreatDoor
