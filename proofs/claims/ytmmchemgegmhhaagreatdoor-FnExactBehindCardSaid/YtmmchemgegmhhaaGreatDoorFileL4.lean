/- Disks as the laws hold them: turned into the program's, held against each other. -/
import Derived.Test.YtmmchemgegmhhaaGreatDoorFileL3
namespace Go.Proofs.YtmmchemgegmhhaaGreatDoor
open Go.RowKit

set_option maxRecDepth 100000 in
set_option maxHeartbeats 800000 in
theorem toDisk_any (fs : List FileD) (ao : Option Addr) (cap : Nat) (w : World) (hl : fs.length ≤ 1048576) (hfs : FilesAt w ao fs) :
    Calls Tryz.prog 54 #[.agg #[.slice ao fs.length cap]] w fun e w' => (∃ (g : Nat) (C : Array Value), e = .returned (.agg #[.slice (some ⟨g, 0, none⟩) fs.length fs.length]) ∧ w.heap.size ≤ g ∧ w'.heap[g]? = some (.cells C 74 (0, 0)) ∧ C.size = fs.length * 3 ∧ FilesIn C fs fs.length) ∧ Below w.heap.size w w' := by
  have HF := hide hfs
  clear hfs
  go_enter Tryz.func54, Tryz.ntmps54
  go_wp2_with fail
  refine (toFileS_any fs ao cap _ hl (filesAt_keep HF.out ((((Below.refl _ w).alloc (Nat.le_refl _) _).alloc (by simp) _).alloc (by simp; omega) _))).mono ?_
  rintro e w1 ⟨⟨C, rfl, hC, hCs, hI⟩, b1⟩
  have hs1 : w.heap.size + 1 + 1 + 1 ≤ w1.heap.size := by have := b1.size; simpa using this
  have hq : w1.heap[w.heap.size + 1 + 1]? = some (.cells #[.slice none 0 0] 27 (0, 0)) := (b1.block _ (by simp)).trans (by rw [show w.heap.size + 1 + 1 = ((w.alloc (.cells #[.slice ao fs.length cap] 42)).alloc (.cells #[.slice none 0 0] 27)).heap.size from by simp]; exact heap_alloc_new _ _)
  have hr : w1.heap[w.heap.size + 1]? = some (.cells #[.slice none 0 0] 27 (0, 0)) := (b1.block _ (by simp)).trans (by rw [World.alloc, Array.getElem?_push_lt (by simp), ← Array.getElem?_eq_getElem, show w.heap.size + 1 = (w.alloc (.cells #[.slice ao fs.length cap] 42)).heap.size from by simp]; exact heap_alloc_new _ _)
  obtain ⟨G, hG⟩ : ∃ G, G = (((w.alloc (.cells #[.slice ao fs.length cap] 42)).alloc (.cells #[.slice none 0 0] 27)).alloc (.cells #[.slice none 0 0] 27)).heap.size := ⟨_, rfl⟩
  have hGn : G = w.heap.size + 1 + 1 + 1 := by rw [hG]; simp
  rw [← hG] at hC b1 ⊢
  have HBB : Hid (Below w.heap.size w w1) := (((((Below.refl _ w).alloc (Nat.le_refl _) _).alloc (by simp) _).alloc (by simp; omega) _)).trans (b1.mono (by omega))
  clear b1 hG
  have hq0 := cell_of_row w1 (w.heap.size + 1 + 1) 0 _ _ (0, 0) hq
  have hf0 := frozen_of_row w1 (w.heap.size + 1 + 1) 0 _ _ hq
  have hr0 := cell_of_row w1 (w.heap.size + 1) 0 _ _ (0, 0) hr
  have hg0 := frozen_of_row w1 (w.heap.size + 1) 0 _ _ hr
  have HC := hide hC
  have HI := hide hI
  have HGn := hide hGn
  clear hC hI hGn hq hr
  go_wp2_with fail
  have hne : (w.heap.size + 1 + 1) ≠ (w.heap.size + 1) := by omega
  refine bodyPost_ret (v := .agg #[.slice (some ⟨G, 0, none⟩) fs.length fs.length]) (by simp [results, Tryz.results54, go_sem, hr0]) rfl ⟨⟨G, C, rfl, by have := HGn.out; omega, ?_, hCs, HI.out⟩, ?_⟩
  · rw [Below.heap_setCell _ _ _ _ (by have := HGn.out; simp; omega), Below.heap_setCell _ _ _ _ (by have := HGn.out; simp; omega)]; exact HC.out
  · exact (HBB.out.setCell (p := ⟨w.heap.size + 1 + 1, 0, none⟩) (by simp; omega) _).setCell (p := ⟨w.heap.size + 1, 0, none⟩) (by simp) _

set_option maxRecDepth 100000 in
set_option maxHeartbeats 800000 in
theorem eqFileS_same (fs : List FileD) (ao ao2 : Option Addr) (cap cap2 : Nat) (w : World) (hl : fs.length ≤ maxLen) (h1 : FilesAt w ao fs) (h2 : FilesAt w ao2 fs) :
    Calls Tryz.prog 100 #[.slice ao fs.length cap, .slice ao2 fs.length cap2] w fun e w' => e = .returned (.bool true) ∧ Below w.heap.size w w' := by
  have H1 := hide h1
  have H2 := hide h2
  clear h1 h2
  unfold maxLen at hl
  have hne : (!((fs.length : Int) == (fs.length : Int))) = false := by simp
  go_enter Tryz.func100, Tryz.ntmps100
  go_wp2
  go_loopw [5] (fun ii wr => ∃ (k : Nat), ii = .int .i64 k ∧ k ≤ fs.length ∧ Hid (Below w.heap.size w wr)) (fun ii _ => fs.length - (intOf ii).toNat)
  case atStart => exact ⟨0, rfl, Nat.zero_le _, Below.refl _ _⟩
  case round =>
    obtain ⟨k, rfl, hk, HB⟩ := hrel
    by_cases hlt : k < fs.length
    · have hlt' : decide ((k : Int) < (fs.length : Int)) = true := by simp; omega
      obtain ⟨b, off, rfl, hbw, hc0, hc1, hc2⟩ := filesAt_keep H1.out HB.out k hlt
      obtain ⟨b', off', rfl, hbw', hd0, hd1, hd2⟩ := filesAt_keep H2.out HB.out k hlt
      generalize fs[k] = F at hc0 hc1 hc2 hd0 hd1 hd2
      have hi0 : (0 : Int) ≤ (k : Int) := by omega
      have hi1 : (k : Int) < (fs.length : Int) := by omega
      have hi2 : decide ((k : Int) < (fs.length : Int)) = true := by simp; omega
      have HBw := hide hbw
      have HBw' := hide hbw'
      clear hbw hbw'
      go_wp2_with fail
      go_region_held3 (fun w' => w'.cell? ⟨b, off + k * 3, none⟩ = some (.string F.name) ∧ w'.cell? ⟨b, off + k * 3 + 1, none⟩ = some (.string F.text) ∧ w'.cell? ⟨b, off + k * 3 + 2, none⟩ = some (.int .i64 F.kept) ∧ w'.cell? ⟨b', off' + k * 3, none⟩ = some (.string F.name) ∧ w'.cell? ⟨b', off' + k * 3 + 1, none⟩ = some (.string F.text) ∧ w'.cell? ⟨b', off' + k * 3 + 2, none⟩ = some (.int .i64 F.kept)) (first | go_keep | (exact ⟨(b1.cell (p := ⟨b, off + k * 3, none⟩) HBw.out).trans hc0, (b1.cell (p := ⟨b, off + k * 3 + 1, none⟩) HBw.out).trans hc1, (b1.cell (p := ⟨b, off + k * 3 + 2, none⟩) HBw.out).trans hc2, (b1.cell (p := ⟨b', off' + k * 3, none⟩) HBw'.out).trans hd0, (b1.cell (p := ⟨b', off' + k * 3 + 1, none⟩) HBw'.out).trans hd1, (b1.cell (p := ⟨b', off' + k * 3 + 2, none⟩) HBw'.out).trans hd2⟩)) ((go_at_call 146; refine (eqFile_same F _).mono ?_; rintro e w1 ⟨rfl, b1⟩))
      go_wp2
      go_roundw
      case rel => exact ⟨k + 1, by go_num, by omega, HB.out.trans (((Below.refl _ _).drew.trans b1).mono HB.out.size)⟩
      case measure => simp [intOf]; omega
    · have hlt' : decide ((k : Int) < (fs.length : Int)) = false := by simp; omega
      go_wp2
      go_ret
      exact ⟨rfl, HB.out⟩

theorem eqDisk_same (fs : List FileD) (ao ao2 : Option Addr) (cap cap2 : Nat) (w : World) (hl : fs.length ≤ maxLen) (h1 : FilesAt w ao fs) (h2 : FilesAt w ao2 fs) :
    Calls Tryz.prog 56 #[.agg #[.slice ao fs.length cap], .agg #[.slice ao2 fs.length cap2]] w fun e w' => e = .returned (.bool true) ∧ Below w.heap.size w w' := by
  have H1 := hide h1
  have H2 := hide h2
  clear h1 h2
  go_enter Tryz.func56, Tryz.ntmps56
  go_wp2_with fail
  have b0 := ((Below.refl _ w).alloc (Nat.le_refl _) (.cells #[.slice ao fs.length cap] 27)).alloc (by simp) (.cells #[.slice ao2 fs.length cap2] 27)
  refine (eqFileS_same fs ao ao2 cap cap2 _ hl (filesAt_keep H1.out b0) (filesAt_keep H2.out b0)).mono ?_
  rintro e w1 ⟨rfl, b1⟩
  have HB := hide (b0.trans (b1.mono b0.size))
  clear b0 b1
  go_wp2
  go_ret
  exact ⟨rfl, HB.out⟩
end Go.Proofs.YtmmchemgegmhhaaGreatDoor
