/- The law of ValueOf, but for the program's own function. -/
import Derived.Test.YtjfagmjajpnacalDoorDirS4
import Derived.Test.YtjfagmjajpnacalDoorFiles
import Derived.Test.YtjfagmjajpnacalDoorOne
namespace Go.Proofs.YtjfagmjajpnacalDoor
open Go.RowKit

theorem szFs_le2 : ∀ (fs : List FileD) (n : Int), 0 ≤ n → szFs fs n ≤ n
  | [], _, _ => Int.le_refl _
  | F :: r, n, h => by
    unfold szFs
    split
    · omega
    · have := szF_le F n h
      have := szFs_le2 r (szF F n) (by omega)
      omega
/-- What a box of four has in a later world. -/
theorem box4_cells {w0 W : World} {g : Nat} {a b c d : Value} {t : Nat} (h : w0.heap[g]? = some (.cells #[a, b, c, d] t (0, 0))) (hb : Below w0.heap.size w0 W) :
    W.cell? ⟨g, 0, none⟩ = some a ∧ W.cell? ⟨g, 1, none⟩ = some b ∧ W.cell? ⟨g, 2, none⟩ = some c ∧ W.cell? ⟨g, 3, none⟩ = some d := by
  have h1 := (hb.block g (heap_lt h)).trans h
  exact ⟨(cell_of_row W _ 0 _ _ (0, 0) h1).trans rfl, (cell_of_row W _ 1 _ _ (0, 0) h1).trans rfl, (cell_of_row W _ 2 _ _ (0, 0) h1).trans rfl, (cell_of_row W _ 3 _ _ (0, 0) h1).trans rfl⟩

/-- A box of one and a box of four, in a later world. -/
theorem five_keep {W W' : World} {h g : Nat} {x a b c d : Value} (hb : Below W.heap.size W W') (h1 : h < W.heap.size) (h2 : g < W.heap.size) (hs : W.cell? ⟨h, 0, none⟩ = some x ∧ W.cell? ⟨g, 0, none⟩ = some a ∧ W.cell? ⟨g, 1, none⟩ = some b ∧ W.cell? ⟨g, 2, none⟩ = some c ∧ W.cell? ⟨g, 3, none⟩ = some d) :
    W'.cell? ⟨h, 0, none⟩ = some x ∧ W'.cell? ⟨g, 0, none⟩ = some a ∧ W'.cell? ⟨g, 1, none⟩ = some b ∧ W'.cell? ⟨g, 2, none⟩ = some c ∧ W'.cell? ⟨g, 3, none⟩ = some d :=
  ⟨(hb.cell (p := ⟨h, 0, none⟩) h1).trans hs.1, (hb.cell (p := ⟨g, 0, none⟩) h2).trans hs.2.1, (hb.cell (p := ⟨g, 1, none⟩) h2).trans hs.2.2.1, (hb.cell (p := ⟨g, 2, none⟩) h2).trans hs.2.2.2.1, (hb.cell (p := ⟨g, 3, none⟩) h2).trans hs.2.2.2.2⟩

set_option maxRecDepth 100000 in
set_option maxHeartbeats 3200000 in
theorem lawValueOf_of (HI0 : ∀ (fs : List FileD) (ao : Option Addr) (cap : Nat) (s : SpotD) (w : World), fs.length ≤ 1048576 → FilesAt w ao fs → (∀ F ∈ fs, F.name.size ≤ 1048576 ∧ F.text.size ≤ 1048576) → s.key.size ≤ 1048576 → SumTab w → Calls Tryd.prog 21 #[.agg #[.slice ao fs.length cap], .agg #[.string s.key, .int .i64 s.seg, .int .i64 s.pos, .int .i64 s.seq]] w fun e w' => e = .returned (.tuple #[.string (outTx (valD fs s)), .bool (valD fs s).isSome]) ∧ Below w.heap.size w w')
    (fs : List FileD) (ao : Option Addr) (cap : Nat) (s : SpotD) (w : World) (hl0 : fs.length ≤ maxLen) (hfs : FilesAt w ao fs) (hsz0 : ∀ F ∈ fs, F.name.size ≤ maxLen ∧ F.text.size ≤ maxLen) (hks : s.key.size ≤ maxLen) (hT : SumTab w) :
    Calls Tryd.prog 5 #[.agg #[.slice ao fs.length cap], .agg #[.string s.key, .int .i64 s.seg, .int .i64 s.pos, .int .i64 s.seq]] w fun e w' => e = .returned (.bool true) ∧ Below w.heap.size w w' := by
  have HF := hide hfs
  have HS := hide hsz0
  have HT := hide hT
  have HI := hide HI0
  clear hfs hsz0 hT HI0
  obtain ⟨wA, hwA⟩ : ∃ wA, wA = (w.alloc (.cells #[.slice ao fs.length cap] 24)).alloc (.cells #[.string s.key, .int .i64 s.seg, .int .i64 s.pos, .int .i64 s.seq] 40) := ⟨_, rfl⟩
  have HA : Hid (Below w.heap.size w wA) := by rw [hwA]; exact ((Below.refl _ w).alloc (Nat.le_refl _) _).alloc (by simp) _
  have hAs : wA.heap.size = w.heap.size + 2 := by rw [hwA]; simp
  have HAc : Hid (wA.cell? ⟨w.heap.size, 0, none⟩ = some (.slice ao fs.length cap)) := by
    have h1 : (w.alloc (.cells #[.slice ao fs.length cap] 24)).cell? ⟨w.heap.size, 0, none⟩ = some (.slice ao fs.length cap) := (cell_of_row _ _ 0 _ _ (0, 0) (heap_alloc_new w _)).trans rfl
    show _ = _
    rw [hwA]
    exact ((((Below.refl _ (w.alloc (.cells #[.slice ao fs.length cap] 24))).alloc (Nat.le_refl _) (.cells #[.string s.key, .int .i64 s.seg, .int .i64 s.pos, .int .i64 s.seq] 40)).cell (p := ⟨w.heap.size, 0, none⟩) (by simp))).trans h1
  have HAs : Hid (wA.heap[w.heap.size + 1]? = some (.cells #[.string s.key, .int .i64 s.seg, .int .i64 s.pos, .int .i64 s.seq] 40 (0, 0))) := by
    show _ = _
    rw [hwA, show w.heap.size + 1 = (w.alloc (.cells #[.slice ao fs.length cap] 24)).heap.size from by simp]
    exact heap_alloc_new _ _
  go_enter Tryd.func5, Tryd.ntmps5
  go_wp2_with fail
  rw [← hwA]
  clear hwA
  refine (szDisk_any fs ao cap 1048576 _ (by decide) (by decide) hl0 (filesAt_keep HF.out HA.out) HS.out).mono ?_
  rintro e w1 ⟨⟨r, rfl, hr⟩, b1⟩
  have HB1 := hide b1
  have HR := hide hr
  clear b1 hr
  by_cases hneg : r < 0
  · have hneg' : decide (r < 0) = true := by simp; omega
    go_wp2
    go_ret
    exact ⟨rfl, HA.out.trans (HB1.out.mono (by omega))⟩
  have hneg' : decide (r < 0) = false := by simp; omega
  obtain ⟨hr1, hr2⟩ := HR.out (by omega)
  have HZ : Hid (∀ F ∈ fs, F.name.size ≤ 1048576 ∧ F.text.size ≤ 1048576) := szFs_small fs (1048576 - fs.length) (by omega) (by omega) (by omega)
  have hl : fs.length ≤ 1048576 := by omega
  have hrl : r ≤ 1048576 := by have := szFs_le2 fs (1048576 - fs.length) (by omega); omega
  clear hr1 hr2
  obtain ⟨hc0, hc1, hc2, hc3⟩ := box4_cells HAs.out HB1.out
  have HSZ := hide (fun W => szSpot_any s r W (by omega) hrl hks)
  obtain ⟨z, HZ2⟩ : ∃ z, Hid (szSpotD s r = z) := ⟨_, hide rfl⟩
  rw [HZ2.out] at HSZ
  go_wp2_with fail
  refine (HSZ.out _).mono ?_
  rintro e w2 ⟨rfl, b2⟩
  have HB2 := hide (HB1.out.trans (b2.mono HB1.out.size))
  clear b2 hc0 hc1 hc2 hc3
  by_cases hz : z < 0
  · have hz' : decide (z < 0) = true := by simp; omega
    go_wp2
    go_ret
    exact ⟨rfl, HA.out.trans (HB2.out.mono (by omega))⟩
  have hz' : decide (z < 0) = false := by simp; omega
  have hkz : s.key.size ≤ 1048576 := by
    have h := HZ2.out
    unfold szSpotD at h
    split at h <;> omega
  obtain ⟨hc0, hc1, hc2, hc3⟩ := box4_cells HAs.out HB2.out
  have hbx : w2.cell? ⟨w.heap.size, 0, none⟩ = some (.slice ao fs.length cap) := (HB2.out.cell (p := ⟨w.heap.size, 0, none⟩) (by show w.heap.size < _; omega)).trans HAc.out
  have hq1 : w.heap.size < w2.heap.size := by have := HB2.out.size; omega
  have hq2 : w.heap.size + 1 < w2.heap.size := by have := HB2.out.size; omega
  obtain ⟨tx, HTX⟩ : ∃ tx, Hid (outTx (valD fs s) = tx) := ⟨_, hide rfl⟩
  obtain ⟨okb, HOKB⟩ : ∃ ok, Hid ((valD fs s).isSome = ok) := ⟨_, hide rfl⟩
  have HV := hide (fun ao' cap' W (hW : FilesAt W ao' fs) => specValueOf_any fs ao' cap' s W hl hW HZ.out)
  have HW := hide (fun ao' cap' W (hW : FilesAt W ao' fs) hTW => HI.out fs ao' cap' s W hl hW HZ.out hkz hTW)
  rw [HTX.out, HOKB.out] at HV HW
  clear HI HTX HOKB HSZ HR
  have HF2 : Hid (FilesAt w2.drew ao fs) := filesAt_keep HF.out ((HA.out.trans (HB2.out.mono (by omega))).drew)
  go_wp2_with fail
  go_region_held3 (fun w' => w'.cell? ⟨w.heap.size, 0, none⟩ = some (.slice ao fs.length cap) ∧ w'.cell? ⟨w.heap.size + 1, 0, none⟩ = some (.string s.key) ∧ w'.cell? ⟨w.heap.size + 1, 1, none⟩ = some (.int .i64 s.seg) ∧ w'.cell? ⟨w.heap.size + 1, 2, none⟩ = some (.int .i64 s.pos) ∧ w'.cell? ⟨w.heap.size + 1, 3, none⟩ = some (.int .i64 s.seq)) (first | go_keep | (exact five_keep b3 hq1 hq2 ⟨hbx, hc0, hc1, hc2, hc3⟩) | (exact five_keep (b3.trans (b4.mono b3.size)) hq1 hq2 ⟨hbx, hc0, hc1, hc2, hc3⟩) | (exact five_keep (b3.trans ((b4.trans (b5.mono b4.size)).mono b3.size)) hq1 hq2 ⟨hbx, hc0, hc1, hc2, hc3⟩)) ((first | (go_at_call 9; refine (toDisk_any fs ao cap _ hl HF2.out).mono ?_; rintro e w3 ⟨⟨g3, C3, rfl, hg3, hC3, hCs3, hI3⟩, b3⟩) | (go_at_call 20; refine (toSpot_any s _).mono ?_; rintro e w4 ⟨rfl, b4⟩) | (go_at_call 19; refine (HV.out _ _ _ (filesAt_keep (filesAt_own hC3 hI3) b4)).mono ?_; rintro e w5 ⟨rfl, b5⟩)))
  have HB5 : Hid (Below wA.heap.size wA w5) := HB2.out.trans (((Below.refl _ w2).drew.trans (b3.trans ((b4.trans (b5.mono b4.size)).mono b3.size))).mono HB2.out.size)
  clear b3 b4 b5 hC3 hI3 hCs3 hg3 hbx hc0 hc1 hc2 hc3
  have hbx : w5.cell? ⟨w.heap.size, 0, none⟩ = some (.slice ao fs.length cap) := (HB5.out.cell (p := ⟨w.heap.size, 0, none⟩) (by show w.heap.size < _; omega)).trans HAc.out
  go_wp2_with fail
  refine (toDisk_any fs ao cap _ hl (filesAt_keep HF.out (HA.out.trans (HB5.out.mono (by omega))))).mono ?_
  rintro e w6 ⟨⟨g6, C6, rfl, hg6, hC6, hCs6, hI6⟩, b6⟩
  have HB6 := hide (HB5.out.trans (b6.mono HB5.out.size))
  have HF6 := hide (filesAt_own hC6 hI6)
  clear b6 hC6 hI6 hCs6 hg6 hbx
  obtain ⟨wX, hwX⟩ : ∃ wX, wX = w6.alloc (.cells #[.slice (some ⟨g6, 0, none⟩) fs.length fs.length] 31) := ⟨_, rfl⟩
  have HX : Hid (Below w6.heap.size w6 wX) := by rw [hwX]; exact (Below.refl _ w6).alloc (Nat.le_refl _) _
  have hXs : wX.heap.size = w6.heap.size + 1 := by rw [hwX]; simp
  have hxx : wX.cell? ⟨w6.heap.size, 0, none⟩ = some (.slice (some ⟨g6, 0, none⟩) fs.length fs.length) := by rw [hwX]; exact box_cell _ _ _
  have HXc := hide hxx
  go_wp2_with fail
  rw [← hwX]
  clear hwX
  have HBX := hide (HB6.out.trans (HX.out.mono HB6.out.size))
  obtain ⟨hc0, hc1, hc2, hc3⟩ := box4_cells HAs.out HBX.out
  have hq3 : w6.heap.size < wX.heap.size := by omega
  have hq4 : w.heap.size + 1 < wX.heap.size := by have := HB6.out.size; omega
  have HFX : Hid (FilesAt wX (some ⟨g6, 0, none⟩) fs) := filesAt_keep HF6.out HX.out
  have HTX : Hid (SumTab wX) := sumTab_later (HA.out.trans (HBX.out.mono (by omega))) HT.out
  go_region_held3 (fun w' => w'.cell? ⟨w6.heap.size, 0, none⟩ = some (.slice (some ⟨g6, 0, none⟩) fs.length fs.length) ∧ w'.cell? ⟨w.heap.size + 1, 0, none⟩ = some (.string s.key) ∧ w'.cell? ⟨w.heap.size + 1, 1, none⟩ = some (.int .i64 s.seg) ∧ w'.cell? ⟨w.heap.size + 1, 2, none⟩ = some (.int .i64 s.pos) ∧ w'.cell? ⟨w.heap.size + 1, 3, none⟩ = some (.int .i64 s.seq)) (first | go_keep | (exact five_keep b7 hq3 hq4 ⟨hxx, hc0, hc1, hc2, hc3⟩) | (exact five_keep (b7.trans (b8.mono b7.size)) hq3 hq4 ⟨hxx, hc0, hc1, hc2, hc3⟩)) ((first | (go_at_call 20; refine (toSpot_any s _).mono ?_; rintro e w7 ⟨rfl, b7⟩) | (go_at_call 21; refine (HW.out _ _ _ (filesAt_keep (filesAt_keep HFX.out (Below.refl _ _).drew) b7) (sumTab_later b7 HTX.out)).mono ?_; rintro e w8 ⟨rfl, b8⟩)))
  have HB8 : Hid (Below wX.heap.size wX w8) := (Below.refl _ wX).drew.trans (b7.trans (b8.mono b7.size))
  clear b7 b8 hc0 hc1 hc2 hc3 hxx
  have HBA := hide (HBX.out.trans (HB8.out.mono HBX.out.size))
  have hbx8 : w8.cell? ⟨w.heap.size, 0, none⟩ = some (.slice ao fs.length cap) := (HBA.out.cell (p := ⟨w.heap.size, 0, none⟩) (by show w.heap.size < _; omega)).trans HAc.out
  have hx8 : w8.cell? ⟨w6.heap.size, 0, none⟩ = some (.slice (some ⟨g6, 0, none⟩) fs.length fs.length) := (HB8.out.cell (p := ⟨w6.heap.size, 0, none⟩) (by show w6.heap.size < _; omega)).trans HXc.out
  have HF8 : Hid (FilesAt w8.drew ao fs) := filesAt_keep HF.out ((HA.out.trans (HBA.out.mono (by omega))).drew)
  have HG8 : Hid (FilesAt w8.drew (some ⟨g6, 0, none⟩) fs) := filesAt_keep HFX.out HB8.out.drew
  have hz1 : w.heap.size < w8.heap.size := by have := HBA.out.size; omega
  have hz2 : w6.heap.size < w8.heap.size := by have := HB8.out.size; omega
  have htt : (tx.toList == tx.toList) = true := beq_self_eq_true _
  cases okb
  all_goals
    go_wp2_with fail
    go_region_held3 (fun w' => w'.cell? ⟨w.heap.size, 0, none⟩ = some (.slice ao fs.length cap) ∧ w'.cell? ⟨w6.heap.size, 0, none⟩ = some (.slice (some ⟨g6, 0, none⟩) fs.length fs.length)) (first | go_keep | (exact ⟨(b9.cell (p := ⟨w.heap.size, 0, none⟩) hz1).trans hbx8, (b9.cell (p := ⟨w6.heap.size, 0, none⟩) hz2).trans hx8⟩) | (exact ⟨((b9.trans (b10.mono b9.size)).cell (p := ⟨w.heap.size, 0, none⟩) hz1).trans hbx8, ((b9.trans (b10.mono b9.size)).cell (p := ⟨w6.heap.size, 0, none⟩) hz2).trans hx8⟩)) ((first | (go_at_call 9; refine (toDisk_any fs ao cap _ hl HF8.out).mono ?_; rintro e w9 ⟨⟨g9, C9, rfl, hg9, hC9, hCs9, hI9⟩, b9⟩) | (go_at_call 12; refine (eqDisk_same fs _ _ _ _ _ hl0 (filesAt_keep HG8.out b9) (filesAt_own hC9 hI9)).mono ?_; rintro e w10 ⟨rfl, b10⟩)))
    have HB10 : Hid (Below w8.heap.size w8 w10) := (Below.refl _ _).drew.trans (b9.trans (b10.mono b9.size))
    clear b9 b10 hC9
    go_wp2
    go_ret
    exact ⟨rfl, HA.out.trans ((HBA.out.trans (HB10.out.mono HBA.out.size)).mono (by omega))⟩
end Go.Proofs.YtjfagmjajpnacalDoor
