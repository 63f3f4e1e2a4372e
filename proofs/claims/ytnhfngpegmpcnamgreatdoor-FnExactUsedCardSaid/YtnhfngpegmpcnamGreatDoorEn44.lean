import Derived.Test.YtnhfngpegmpcnamGreatDoorEn2
import Derived.Test.YtnhfngpegmpcnamGreatDoorEn1
import Derived.Test.YtnhfngpegmpcnamGreatDoorEn3
import Derived.Test.YtnhfngpegmpcnamGreatDoorEn43
set_option maxRecDepth 100000
set_option maxHeartbeats 3200000
namespace Go.Proofs.YtnhfngpegmpcnamGreatDoor
open Go.RowKit
theorem szFs_le3 : ∀ (fs : List FileD) (n : Int), 0 ≤ n → szFs fs n ≤ n
  | [], _, _ => Int.le_refl _
  | F :: r, n, h => by
    unfold szFs
    split
    · omega
    · have := szF_le F n h
      have := szFs_le3 r (szF F n) (by omega)
      omega
theorem szEngine_any (fs : List FileD) (ao ad : Option Addr) (cap cd : Nat) (room act seq : Int) (dir : List SpotD) (w : World) (hl : fs.length ≤ maxLen) (hfs : FilesAt w ao fs) (hsz : ∀ F ∈ fs, F.name.size ≤ maxLen ∧ F.text.size ≤ maxLen) (hld : dir.length ≤ maxLen) (hds : SpotsAt w ad dir) (hszd : ∀ A ∈ dir, A.key.size ≤ maxLen) :
    Calls Tryz.prog 22 #[.agg #[.slice ao fs.length cap, .int .i64 room, .int .i64 act, .int .i64 seq, .slice ad dir.length cd], .int .i64 1048576] w fun e w' => (∃ r : Int, e = .returned (.int .i64 r) ∧ (0 ≤ r → fs.length ≤ 1048576 ∧ dir.length ≤ 1048576 ∧ (∀ F ∈ fs, F.name.size ≤ 1048576 ∧ F.text.size ≤ 1048576))) ∧ Below w.heap.size w w' := by
  have HF := hide hfs
  have HD := hide hds
  have HSD := hide (fun W hW => szDisk_any fs ao cap 1048576 W (by decide) (by decide) hl hW hsz)
  clear hfs hds hsz
  obtain ⟨wb, hwb⟩ : ∃ wb, wb = w.alloc (.cells #[.slice ao fs.length cap, .int .i64 room, .int .i64 act, .int .i64 seq, .slice ad dir.length cd] 48) := ⟨_, rfl⟩
  have HB0 : Hid (Below w.heap.size w wb) := by rw [hwb]; exact (Below.refl _ w).alloc (Nat.le_refl _) _
  have HBK : Hid (wb.heap[w.heap.size]? = some (.cells #[.slice ao fs.length cap, .int .i64 room, .int .i64 act, .int .i64 seq, .slice ad dir.length cd] 48 (0, 0))) := by rw [hwb]; exact heap_alloc_new w _
  obtain ⟨hz0, hz1, hz2, hz3, hz4, -⟩ := five_cells HBK.out
  go_enter Tryz.func22, Tryz.ntmps22
  go_wp2_with fail
  rw [← hwb]
  clear hwb
  go_wp2_with fail
  refine (HSD.out _ (filesAt_keep HF.out HB0.out)).mono ?_
  rintro e w1 ⟨⟨r, rfl, hr⟩, b1⟩
  have B1 := hide (HB0.out.trans (b1.mono HB0.out.size))
  obtain ⟨hy0, hy1, hy2, hy3, hy4, -⟩ := five_cells ((b1.block _ (heap_lt HBK.out)).trans HBK.out)
  have HR := hide hr
  clear b1 hr
  by_cases hneg : r < 0
  · have hneg' : decide (r < 0) = true := by simp; omega
    go_wp2
    go_ret
    exact ⟨⟨-1, rfl, fun h => absurd h (by omega)⟩, B1.out⟩
  · have hneg' : decide (r < 0) = false := by simp; omega
    obtain ⟨hr1, hr2⟩ := HR.out (by omega)
    have HZ := hide (szFs_small fs (1048576 - fs.length) (by omega) (by omega) (by omega))
    have hr3 : r ≤ 1048576 := by
      have := szFs_le3 fs (1048576 - fs.length) (by omega)
      omega
    clear hr1 HR
    have HSS := hide (fun W hW => szSpotS_any dir ad cd r W (by omega) hr3 hld hW hszd)
    go_wp2_with fail
    refine (HSS.out _ (spotsAt_keep HD.out B1.out)).mono ?_
    rintro e w2 ⟨rfl, b2⟩
    have B2 := hide (B1.out.trans (b2.mono B1.out.size))
    clear b2
    obtain ⟨q, HQ⟩ : ∃ q, Hid ((if r < dir.length then -1 else szSpotDs dir (r - dir.length)) = q) := ⟨_, hide rfl⟩
    rw [HQ.out]
    have HQ2 : Hid (0 ≤ q → dir.length ≤ 1048576) := fun h => by
      have h1 := HQ.out
      split at h1 <;> omega
    by_cases hq : q < 0
    · have hq' : decide (q < 0) = true := by simp; omega
      go_wp2
      go_ret
      exact ⟨⟨-1, rfl, fun h => absurd h (by omega)⟩, B2.out⟩
    · have hq' : decide (q < 0) = false := by simp; omega
      go_wp2
      go_ret
      exact ⟨⟨q, rfl, fun h => ⟨by omega, HQ2.out h, HZ.out⟩⟩, B2.out⟩
theorem toEngine_row (fs : List FileD) (ao ad : Option Addr) (cap cd : Nat) (room act seq : Int) (dir : List SpotD) (w : World) (hl : fs.length ≤ 1048576) (hfs : FilesAt w ao fs) (hld : dir.length ≤ 1048576) (hds : SpotsAt w ad dir) :
    Calls Tryz.prog 24 #[.agg #[.slice ao fs.length cap, .int .i64 room, .int .i64 act, .int .i64 seq, .slice ad dir.length cd]] w fun e w' => (∃ a1 a2 : Option Addr, e = .returned (.agg #[.slice a1 fs.length fs.length, .int .i64 room, .int .i64 act, .int .i64 seq, .slice a2 dir.length dir.length]) ∧ RowF w' w.heap.size (.slice a1 fs.length fs.length) fs ∧ RowSpot w' w.heap.size (.slice a2 dir.length dir.length) dir) ∧ Below w.heap.size w w' := by
  have HF := hide hfs
  have HD := hide hds
  clear hfs hds
  obtain ⟨wb, hwb⟩ : ∃ wb, wb = ((w.alloc (.cells #[.slice ao fs.length cap, .int .i64 room, .int .i64 act, .int .i64 seq, .slice ad dir.length cd] 48)).alloc (.cells #[.slice none 0 0, .int .i64 0, .int .i64 0, .int .i64 0, .slice none 0 0] 27)).alloc (.cells #[.slice none 0 0, .int .i64 0, .int .i64 0, .int .i64 0, .slice none 0 0] 27) := ⟨_, rfl⟩
  have HB0 : Hid (Below w.heap.size w wb) := by rw [hwb]; exact (((Below.refl _ w).alloc (Nat.le_refl _) _).alloc (by simp) _).alloc (by simp; omega) _
  have hbs : wb.heap.size = w.heap.size + 3 := by rw [hwb]; simp
  have HBA : Hid (wb.heap[w.heap.size]? = some (.cells #[.slice ao fs.length cap, .int .i64 room, .int .i64 act, .int .i64 seq, .slice ad dir.length cd] 48 (0, 0))) := by
    show _ = _
    rw [hwb]
    exact (Below.heap_alloc _ _ _ (by simp; omega)).trans ((Below.heap_alloc _ _ _ (by simp)).trans (heap_alloc_new w _))
  have HB1 : Hid (wb.heap[w.heap.size + 1]? = some (.cells #[.slice none 0 0, .int .i64 0, .int .i64 0, .int .i64 0, .slice none 0 0] 27 (0, 0))) := by
    show _ = _
    rw [hwb]
    refine (Below.heap_alloc _ _ _ (by simp)).trans ?_
    have := heap_alloc_new (w.alloc (.cells #[.slice ao fs.length cap, .int .i64 room, .int .i64 act, .int .i64 seq, .slice ad dir.length cd] 48)) (.cells #[.slice none 0 0, .int .i64 0, .int .i64 0, .int .i64 0, .slice none 0 0] 27)
    rwa [World.size_alloc] at this
  have HB2 : Hid (wb.heap[w.heap.size + 1 + 1]? = some (.cells #[.slice none 0 0, .int .i64 0, .int .i64 0, .int .i64 0, .slice none 0 0] 27 (0, 0))) := by
    show _ = _
    rw [hwb]
    have := heap_alloc_new ((w.alloc (.cells #[.slice ao fs.length cap, .int .i64 room, .int .i64 act, .int .i64 seq, .slice ad dir.length cd] 48)).alloc (.cells #[.slice none 0 0, .int .i64 0, .int .i64 0, .int .i64 0, .slice none 0 0] 27)) (.cells #[.slice none 0 0, .int .i64 0, .int .i64 0, .int .i64 0, .slice none 0 0] 27)
    rwa [World.size_alloc, World.size_alloc] at this
  obtain ⟨ha0, ha1, ha2, ha3, ha4, -⟩ := five_cells HBA.out
  go_enter Tryz.func24, Tryz.ntmps24
  go_wp2_with fail
  rw [← hwb]
  clear hwb
  go_wp2_with fail
  refine (toDisk_any fs ao cap _ hl (filesAt_keep HF.out HB0.out)).mono ?_
  rintro e w1 ⟨⟨g1, C1, rfl, hg1, hC1, hCs1, hI1⟩, b1⟩
  have BB1 := hide b1
  have HF1 := hide (filesAt_own hC1 hI1)
  have hw1 : wb.heap.size ≤ w1.heap.size := b1.size
  have HA1 := hide ((b1.block _ (heap_lt HBA.out)).trans HBA.out)
  have H11 := hide ((b1.block _ (heap_lt HB1.out)).trans HB1.out)
  have H12 := hide ((b1.block _ (heap_lt HB2.out)).trans HB2.out)
  obtain ⟨hy0, hy1, hy2, hy3, hy4, -⟩ := five_cells HA1.out
  obtain ⟨hx0, hx1, hx2, hx3, hx4, hf0, hf1, hf2, hf3, hf4⟩ := five_cells H12.out
  have HC1 := hide hC1
  have HI1 := hide hI1
  clear b1 hC1 hI1 ha0 ha1 ha2 ha3 ha4
  obtain ⟨W4, hW4⟩ : ∃ W, W = (((w1.setCell ⟨w.heap.size + 1 + 1, 0, none⟩ (.slice (some ⟨g1, 0, none⟩) fs.length fs.length)).setCell ⟨w.heap.size + 1 + 1, 1, none⟩ (.int .i64 room)).setCell ⟨w.heap.size + 1 + 1, 2, none⟩ (.int .i64 act)).setCell ⟨w.heap.size + 1 + 1, 3, none⟩ (.int .i64 seq) := ⟨_, rfl⟩
  have G4 : Hid (w1.grownBy W4 (some (w.heap.size + 1 + 1))) := by rw [hW4]; exact grownBy_store (grownBy_store (grownBy_store (grownBy_store (World.grownBy.refl w1 _) 0 _) 1 _) 2 _) 3 _
  have H42 : Hid (W4.heap[w.heap.size + 1 + 1]? = some (.cells #[.slice (some ⟨g1, 0, none⟩) fs.length fs.length, .int .i64 room, .int .i64 act, .int .i64 seq, .slice none 0 0] 27 (0, 0))) := by
    have c0 := (heap_setCell_same w1 (w.heap.size + 1 + 1) 0 _ _ (.slice (some ⟨g1, 0, none⟩) fs.length fs.length) H12.out).trans rfl
    have c1 := (heap_setCell_same _ (w.heap.size + 1 + 1) 1 _ _ (.int .i64 room) c0).trans rfl
    have c2 := (heap_setCell_same _ (w.heap.size + 1 + 1) 2 _ _ (.int .i64 act) c1).trans rfl
    have c3 := (heap_setCell_same _ (w.heap.size + 1 + 1) 3 _ _ (.int .i64 seq) c2).trans rfl
    rw [hW4]
    show _ = _
    rw [c3]
    rfl
  have H41 := hide ((G4.out.block _ (heap_lt H11.out) (by simp)).trans H11.out)
  have HC4 := hide ((G4.out.block _ (heap_lt HC1.out) (by simp; omega)).trans HC1.out)
  have B04 : Hid (Below w.heap.size w W4) := (HB0.out.trans (BB1.out.mono HB0.out.size)).grown G4.out (by have := HB0.out.size; omega) (fun k hk => by cases hk; omega)
  have hs4 : w1.heap.size ≤ W4.heap.size := G4.out.size
  go_wp2_with fail
  rw [← hW4]
  clear hW4 hy0 hy1 hy2 hy3 hy4 hx0 hx1 hx2 hx3 hx4 hf0 hf1 hf2 hf3 hf4
  refine (toSpotS_any dir ad cd _ hld (spotsAt_keep HD.out B04.out)).mono ?_
  rintro e w2 ⟨⟨C2, rfl, hC2, hCs2, hI2⟩, b2⟩
  have B02 := hide (B04.out.trans (b2.mono B04.out.size))
  have HS2 := hide hC2
  have HI2 := hide hI2
  have H22 := hide ((b2.block _ (heap_lt H42.out)).trans H42.out)
  have H21 := hide ((b2.block _ (heap_lt H41.out)).trans H41.out)
  have HC2' := hide ((b2.block _ (heap_lt HC4.out)).trans HC4.out)
  have hs2 := b2.size
  obtain ⟨hx0, hx1, hx2, hx3, hx4, hf0, hf1, hf2, hf3, hf4⟩ := five_cells H22.out
  clear b2 hC2 hI2
  obtain ⟨W5, hW5⟩ : ∃ W, W = w2.setCell ⟨w.heap.size + 1 + 1, 4, none⟩ (.slice (some ⟨W4.heap.size, 0, none⟩) dir.length dir.length) := ⟨_, rfl⟩
  have G5 : Hid (w2.grownBy W5 (some (w.heap.size + 1 + 1))) := by rw [hW5]; exact grownBy_store (World.grownBy.refl w2 _) 4 _
  have H52 : Hid (W5.heap[w.heap.size + 1 + 1]? = some (.cells #[.slice (some ⟨g1, 0, none⟩) fs.length fs.length, .int .i64 room, .int .i64 act, .int .i64 seq, .slice (some ⟨W4.heap.size, 0, none⟩) dir.length dir.length] 27 (0, 0))) := by
    have c0 := (heap_setCell_same w2 (w.heap.size + 1 + 1) 4 _ _ (.slice (some ⟨W4.heap.size, 0, none⟩) dir.length dir.length) H22.out).trans rfl
    rw [hW5]
    show _ = _
    rw [c0]
    rfl
  have H51 := hide ((G5.out.block _ (heap_lt H21.out) (by simp)).trans H21.out)
  have HC5 := hide ((G5.out.block _ (heap_lt HC2'.out) (by simp; omega)).trans HC2'.out)
  have HS5 := hide ((G5.out.block _ (heap_lt HS2.out) (by simp; omega)).trans HS2.out)
  have B05 : Hid (Below w.heap.size w W5) := B02.out.grown G5.out (by have := B02.out.size; omega) (fun k hk => by cases hk; omega)
  obtain ⟨hv0, hv1, hv2, hv3, hv4, -⟩ := five_cells H52.out
  obtain ⟨hu0, hu1, hu2, hu3, hu4, hk0, hk1, hk2, hk3, hk4⟩ := five_cells H51.out
  subst hW5
  go_wp2
  obtain ⟨y0, y1, y2⟩ := box5 (.slice (some ⟨g1, 0, none⟩) fs.length fs.length) (.int .i64 room) (.int .i64 act) (.int .i64 seq) (.slice (some ⟨W4.heap.size, 0, none⟩) dir.length dir.length) H51.out B05.out (Nat.le_succ _) _ rfl
  obtain ⟨x0, x1, x2, x3, x4, -⟩ := five_cells y0
  refine bodyPost_ret (v := .agg #[.slice (some ⟨g1, 0, none⟩) fs.length fs.length, .int .i64 room, .int .i64 act, .int .i64 seq, .slice (some ⟨W4.heap.size, 0, none⟩) dir.length dir.length]) ?_ rfl ?_
  · simp [results, Tryz.results24, go_sem, x0, x1, x2, x3, x4]
  · exact ⟨⟨_, _, rfl, .inr ⟨g1, fs.length, C1, rfl, by omega, (y2.block _ (heap_lt HC5.out) (by simp; omega)).trans HC5.out, by omega, HI1.out⟩, .inr ⟨W4.heap.size, dir.length, C2, rfl, by omega, (y2.block _ (heap_lt HS5.out) (by simp; omega)).trans HS5.out, by omega, HI2.out⟩⟩, y1⟩
theorem toEngine_any (fs : List FileD) (ao ad : Option Addr) (cap cd : Nat) (room act seq : Int) (dir : List SpotD) (w : World) (hl : fs.length ≤ 1048576) (hfs : FilesAt w ao fs) (hld : dir.length ≤ 1048576) (hds : SpotsAt w ad dir) :
    Calls Tryz.prog 24 #[.agg #[.slice ao fs.length cap, .int .i64 room, .int .i64 act, .int .i64 seq, .slice ad dir.length cd]] w fun e w' => (∃ a1 a2 : Option Addr, e = .returned (.agg #[.slice a1 fs.length fs.length, .int .i64 room, .int .i64 act, .int .i64 seq, .slice a2 dir.length dir.length]) ∧ FilesAt w' a1 fs ∧ SpotsAt w' a2 dir) ∧ Below w.heap.size w w' := by
  refine (toEngine_row fs ao ad cap cd room act seq dir w hl hfs hld hds).mono ?_
  rintro e w' ⟨⟨a1, a2, h1, h2, h3⟩, h4⟩
  refine ⟨⟨a1, a2, h1, ?_, rowSpot_rows h3⟩, h4⟩
  obtain ⟨ao', cap', e', hf⟩ := rowF_at h2
  cases e'
  exact hf
theorem eqEngine_same (fs : List FileD) (a1 a2 d1 d2 : Option Addr) (c1 c2 e1 e2 : Nat) (room act seq : Int) (dir : List SpotD) (w : World) (hl : fs.length ≤ maxLen) (h1 : FilesAt w a1 fs) (h2 : FilesAt w a2 fs) (hld : dir.length ≤ maxLen) (h3 : SpotsAt w d1 dir) (h4 : SpotsAt w d2 dir) :
    Calls Tryz.prog 10 #[.agg #[.slice a1 fs.length c1, .int .i64 room, .int .i64 act, .int .i64 seq, .slice d1 dir.length e1], .agg #[.slice a2 fs.length c2, .int .i64 room, .int .i64 act, .int .i64 seq, .slice d2 dir.length e2]] w fun e w' => e = .returned (.bool true) ∧ Below w.heap.size w w' := by
  have H1 := hide h1
  have H2 := hide h2
  have H3 := hide h3
  have H4 := hide h4
  clear h1 h2 h3 h4
  obtain ⟨wb, hwb⟩ : ∃ wb, wb = (w.alloc (.cells #[.slice a1 fs.length c1, .int .i64 room, .int .i64 act, .int .i64 seq, .slice d1 dir.length e1] 27)).alloc (.cells #[.slice a2 fs.length c2, .int .i64 room, .int .i64 act, .int .i64 seq, .slice d2 dir.length e2] 27) := ⟨_, rfl⟩
  have HB0 : Hid (Below w.heap.size w wb) := by rw [hwb]; exact ((Below.refl _ w).alloc (Nat.le_refl _) _).alloc (by simp) _
  have HBA : Hid (wb.heap[w.heap.size]? = some (.cells #[.slice a1 fs.length c1, .int .i64 room, .int .i64 act, .int .i64 seq, .slice d1 dir.length e1] 27 (0, 0))) := by
    show _ = _
    rw [hwb]
    exact (Below.heap_alloc _ _ _ (by simp)).trans (heap_alloc_new w _)
  have HBB : Hid (wb.heap[w.heap.size + 1]? = some (.cells #[.slice a2 fs.length c2, .int .i64 room, .int .i64 act, .int .i64 seq, .slice d2 dir.length e2] 27 (0, 0))) := by
    show _ = _
    rw [hwb]
    have := heap_alloc_new (w.alloc (.cells #[.slice a1 fs.length c1, .int .i64 room, .int .i64 act, .int .i64 seq, .slice d1 dir.length e1] 27)) (.cells #[.slice a2 fs.length c2, .int .i64 room, .int .i64 act, .int .i64 seq, .slice d2 dir.length e2] 27)
    rwa [World.size_alloc] at this
  go_enter Tryz.func10, Tryz.ntmps10
  go_wp2_with fail
  rw [← hwb]
  clear hwb
  refine (eqDisk_same fs a1 a2 c1 c2 _ hl (filesAt_keep H1.out HB0.out) (filesAt_keep H2.out HB0.out)).mono ?_
  rintro e w1 ⟨rfl, b1⟩
  have B1 := hide (HB0.out.trans (b1.mono HB0.out.size))
  obtain ⟨hy0, hy1, hy2, hy3, hy4, -⟩ := five_cells ((b1.block _ (heap_lt HBA.out)).trans HBA.out)
  obtain ⟨hx0, hx1, hx2, hx3, hx4, -⟩ := five_cells ((b1.block _ (heap_lt HBB.out)).trans HBB.out)
  have hn1 : (room != room) = false := by simp
  have hn2 : (act != act) = false := by simp
  have hn3 : (seq != seq) = false := by simp
  clear b1
  go_wp2_with fail
  refine (eqSpotS_same dir d1 d2 e1 e2 _ hld (spotsAt_keep H3.out B1.out) (spotsAt_keep H4.out B1.out)).mono ?_
  rintro e w2 ⟨rfl, b2⟩
  go_wp2
  go_ret
  exact ⟨rfl, B1.out.trans (b2.mono B1.out.size)⟩
theorem openS_calm {fs : List FileD} {room : Int} (h : calmB fs = true) : openSB fs room = (roomB room && soundB fs) := by
  unfold openSB
  rw [(actsS_empty fs).2 (calm_acts h)]
  simp [actsF]
theorem eng_not_openS {fs : List FileD} {room act seq : Int} {dir : List SpotD} (h : openSB fs room = false) : ¬ engB fs room act seq dir := fun he => by
  rw [openS_calm he.2.2.1, he.1, he.2.1] at h
  cases h
theorem openS_room {fs : List FileD} {room : Int} (h : openSB fs room = true) : roomB room = true ∧ soundB fs = true := by
  unfold openSB at h
  simp only [Bool.and_eq_true] at h
  exact ⟨h.1, h.2.1⟩
theorem calm_of_S {fs : List FileD} (h : (actsS fs).length = 0) : calmB fs = true := by
  unfold calmB
  rw [(actsS_empty fs).1 (List.eq_nil_of_length_eq_zero h)]
  rfl
theorem specEngineOk_any (fs : List FileD) (ao ad : Option Addr) (cap cd : Nat) (room act seq : Int) (dir : List SpotD) (w : World) (hl : fs.length ≤ 1048576) (hfs : FilesAt w ao fs) (hsz : ∀ F ∈ fs, F.name.size ≤ 1048576 ∧ F.text.size ≤ 1048576) (hld : dir.length ≤ 1048576) (hds : SpotsAt w ad dir) :
    Calls Tryz.prog 23 #[.agg #[.slice ao fs.length cap, .int .i64 room, .int .i64 act, .int .i64 seq, .slice ad dir.length cd]] w fun e w' => e = .returned (.bool (engOkB fs room act seq dir)) ∧ Below w.heap.size w w' := by
  have HF := hide hfs
  have HD := hide hds
  have HOS := hide (fun W hW => specOpenEngine_any fs ao cap room W hl hW hsz)
  clear hfs hds hsz
  obtain ⟨wb, hwb⟩ : ∃ wb, wb = w.alloc (.cells #[.slice ao fs.length cap, .int .i64 room, .int .i64 act, .int .i64 seq, .slice ad dir.length cd] 27) := ⟨_, rfl⟩
  have HB0 : Hid (Below w.heap.size w wb) := by rw [hwb]; exact (Below.refl _ w).alloc (Nat.le_refl _) _
  have HBK : Hid (wb.heap[w.heap.size]? = some (.cells #[.slice ao fs.length cap, .int .i64 room, .int .i64 act, .int .i64 seq, .slice ad dir.length cd] 27 (0, 0))) := by rw [hwb]; exact heap_alloc_new w _
  obtain ⟨hz0, hz1, hz2, hz3, hz4, -⟩ := five_cells HBK.out
  obtain ⟨R, HR⟩ : ∃ R, Hid (engOkB fs room act seq dir = R) := ⟨_, hide rfl⟩
  rw [HR.out]
  go_enter Tryz.func23, Tryz.ntmps23
  go_wp2_with fail
  rw [← hwb]
  clear hwb
  go_wp2_with fail
  refine (HOS.out _ (filesAt_keep HF.out HB0.out)).mono ?_
  rintro e w1 ⟨b1, ⟨ho, vd, vr, va, rfl, hrf, hrs, hac⟩ | ⟨ho, va, rfl, hac⟩⟩
  · obtain ⟨ad3, cd3, hvd, -⟩ := rowF_at hrf
    obtain ⟨ar3, cr3, hvr, hvr2⟩ := rowSpot_at hrs
    obtain ⟨aa, ca, hva⟩ := slice_form hac
    subst hvd hvr hva
    have B1 := hide (HB0.out.trans (b1.mono HB0.out.size))
    have HBK1 := hide ((b1.block _ (heap_lt HBK.out)).trans HBK.out)
    have HRM := openS_room ho
    have HVR := hide hvr2
    obtain ⟨DL, HDL⟩ : ∃ d, Hid (dirD fs = d) := ⟨_, hide rfl⟩
    obtain ⟨AL, HAL⟩ : ∃ n, Hid ((actsS fs).length = n) := ⟨_, hide rfl⟩
    obtain ⟨NU, HNU⟩ : ∃ n : Nat, Hid ((lastG fs).num = n) := ⟨_, hide rfl⟩
    obtain ⟨SQ, HSQ⟩ : ∃ n, Hid (seqD (segsL fs) = n) := ⟨_, hide rfl⟩
    generalize (actsF fs (actsS fs)).1.length = FL
    rw [HDL.out] at HVR
    rw [HDL.out, HAL.out, HNU.out, HSQ.out]
    have hDl : DL.length ≤ 666700 := by rw [← HDL.out]; exact dirD_len fs
    clear hrf hrs hac hvr2 b1 hz0 hz1 hz2 hz3 hz4
    obtain ⟨wX, hwX⟩ : ∃ x, x = w1.alloc (.cells #[.slice ad3 FL cd3, .int .i64 room, .int .i64 (NU : Int), .int .i64 SQ, .slice ar3 DL.length cr3] 27) := ⟨_, rfl⟩
    have BX : Hid (Below w1.heap.size w1 wX) := by rw [hwX]; exact (Below.refl _ w1).alloc (Nat.le_refl _) _
    have BwX : Hid (Below w.heap.size w wX) := B1.out.trans (BX.out.mono B1.out.size)
    have HBX := hide ((BX.out.block _ (heap_lt HBK1.out)).trans HBK1.out)
    have HXX : Hid (wX.heap[w1.heap.size]? = some (.cells #[.slice ad3 FL cd3, .int .i64 room, .int .i64 (NU : Int), .int .i64 SQ, .slice ar3 DL.length cr3] 27 (0, 0))) := by rw [hwX]; exact heap_alloc_new w1 _
    have HD1 := hide (spotsAt_keep HVR.out BX.out)
    have HD2 := hide (spotsAt_keep HD.out BwX.out)
    obtain ⟨hy0, hy1, hy2, hy3, hy4, -⟩ := five_cells HBX.out
    obtain ⟨hx0, hx1, hx2, hx3, hx4, -⟩ := five_cells HXX.out
    have HNO : Hid (¬ (AL = 0 ∧ (NU : Int) = act ∧ SQ = seq ∧ DL = dir) → R = false) := fun h => HR.out.symm.trans <| engOkB_no (fun he => h ⟨by rw [← HAL.out, (actsS_empty fs).2 (calm_acts he.2.2.1)]; rfl, by rw [← HNU.out]; exact he.2.2.2.1, by rw [← HSQ.out]; exact he.2.2.2.2.1, by rw [← HDL.out]; exact he.2.2.2.2.2⟩)
    have HYS : Hid (AL = 0 → (NU : Int) = act → SQ = seq → DL = dir → R = true) := fun h1 h2 h3 h4 => HR.out.symm.trans <| engOkB_yes ⟨HRM.1, HRM.2, calm_of_S (by rw [HAL.out]; exact h1), by rw [HNU.out]; exact h2, by rw [HSQ.out]; exact h3, by rw [HDL.out]; exact h4⟩
    clear HRM HOS
    subst hwX
    by_cases ha0 : AL = 0
    · subst ha0
      by_cases hna : (NU : Int) = act
      · subst hna
        have hna' : ((NU : Int) != (NU : Int)) = false := by simp
        by_cases hsq : SQ = seq
        · subst hsq
          have hsq' : (SQ != SQ) = false := by simp
          by_cases hln : DL.length = dir.length
          · have hln' : (((DL.length : Int)) != ((dir.length : Int))) = false := by rw [bne_eq_false_iff_eq]; omega
            have HLN := hide hln
            clear hln
            go_wp2_with fail
            go_loopw [6] (fun ii wr => ∃ (k : Nat), ii = .int .i64 k ∧ k ≤ DL.length ∧ Hid (∀ j (h1 : j < DL.length) (h2 : j < dir.length), j < k → spotEq DL[j] dir[j] = true) ∧ Hid (Below (w1.alloc (.cells #[.slice ad3 FL cd3, .int .i64 room, .int .i64 (NU : Int), .int .i64 SQ, .slice ar3 DL.length cr3] 27)).heap.size (w1.alloc (.cells #[.slice ad3 FL cd3, .int .i64 room, .int .i64 (NU : Int), .int .i64 SQ, .slice ar3 DL.length cr3] 27)) wr)) (fun ii _ => DL.length - (intOf ii).toNat)
            case atStart => exact ⟨0, rfl, Nat.zero_le _, fun j _ _ h => absurd h (by omega), Below.refl _ _⟩
            case round =>
              obtain ⟨k, rfl, hk, HK, HB⟩ := hrel
              obtain ⟨hy0, hy1, hy2, hy3, hy4, -⟩ := five_cells ((HB.out.block _ (heap_lt HBX.out)).trans HBX.out)
              obtain ⟨hx0, hx1, hx2, hx3, hx4, -⟩ := five_cells ((HB.out.block _ (heap_lt HXX.out)).trans HXX.out)
              have HBf := hide (BwX.out.trans (HB.out.mono BwX.out.size))
              by_cases hlt : k < DL.length
              · have hlt' : decide ((k : Int) < (DL.length : Int)) = true := by simp; omega
                have hi0 : (0 : Int) ≤ (k : Int) := by omega
                have hi1 : (k : Int) < (DL.length : Int) := by omega
                have hkb : k < dir.length := by have := HLN.out; omega
                have hi2 : (k : Int) < (dir.length : Int) := by omega
                obtain ⟨b1, o1, hab1, hw1, d0, d1, d2, d3⟩ := spotsAt_keep HD1.out HB.out k hlt
                obtain ⟨b2, o2, hab2, hw2, e0, e1, e2, e3⟩ := spotsAt_keep HD2.out HB.out k hkb
                have hnq := neq_spot DL[k] dir[k]
                have HNE : Hid (spotEq DL[k] dir[k] = false → R = false) := fun h => HNO.out (fun h9 => by
                  have e9 := h9.2.2.2
                  subst e9
                  rw [(spotEq_iff _ _).2 rfl] at h
                  cases h)
                have HYY : Hid (spotEq DL[k] dir[k] = true → ∀ j (h1 : j < DL.length) (h2 : j < dir.length), j < k + 1 → spotEq DL[j] dir[j] = true) := by
                  intro h j h1 h2 hj
                  by_cases hjk : j < k
                  · exact HK.out j h1 h2 hjk
                  · obtain rfl : j = k := by omega
                    exact h
                generalize DL[k] = A at d0 d1 d2 d3 hnq HNE HYY
                generalize dir[k] = D at e0 e1 e2 e3 hnq HNE HYY
                subst hab1 hab2
                cases hq : spotEq A D with
                | true =>
                  rw [hq] at hnq HYY
                  go_wp2_with fail
                  go_quiet (fail)
                  go_wp2_with fail
                  go_roundw
                  case rel => exact ⟨k + 1, by go_num, by omega, HYY.out (by first | rfl | trivial), below_drewN HB.out _⟩
                  case measure => simp [intOf]; omega
                | false =>
                  rw [hq] at hnq HNE
                  have hR := hide (HNE.out rfl)
                  go_wp2_with fail
                  go_quiet (fail)
                  go_wp2
                  go_ret
                  rw [hR.out]
                  exact ⟨rfl, below_drewN HBf.out _⟩
              · have hlt' : decide ((k : Int) < (DL.length : Int)) = false := by simp; omega
                have hR := hide (HYS.out (by first | rfl | trivial) (by first | rfl | trivial) (by first | rfl | trivial) ((spotsEq_iff _ _).1 (spotsEq_all HLN.out (fun j h1 h2 => HK.out j h1 h2 (by omega)))))
                go_wp2
                go_ret
                rw [hR.out]
                exact ⟨rfl, HBf.out⟩
          · have hln' : (((DL.length : Int)) != ((dir.length : Int))) = true := by rw [bne_iff_ne]; omega
            have hR := hide (HNO.out (fun h => hln (by rw [h.2.2.2])))
            clear hln
            go_wp2
            go_ret
            rw [hR.out]
            exact ⟨rfl, BwX.out⟩
        · have hsq' : (SQ != seq) = true := by rw [bne_iff_ne]; exact hsq
          have hR := hide (HNO.out (fun h => hsq h.2.2.1))
          clear hsq
          go_wp2
          go_ret
          rw [hR.out]
          exact ⟨rfl, BwX.out⟩
      · have hna' : ((NU : Int) != act) = true := by rw [bne_iff_ne]; exact hna
        have hR := hide (HNO.out (fun h => hna h.2.1))
        clear hna
        go_wp2
        go_ret
        rw [hR.out]
        exact ⟨rfl, BwX.out⟩
    · have ha0' : decide ((0 : Int) < (AL : Int)) = true := by rw [decide_eq_true_eq]; omega
      have ha0n : decide (0 < AL) = true := by rw [decide_eq_true_eq]; omega
      have hR := hide (HNO.out (fun h => ha0 h.1))
      clear ha0
      go_wp2
      go_ret
      rw [hR.out]
      exact ⟨rfl, BwX.out⟩
  · have HE := hide (engOkB_no (eng_not_openS (act := act) (seq := seq) (dir := dir) ho))
    obtain ⟨aa, ca, rfl⟩ := slice_form hac
    have hR : Hid (R = false) := HR.out.symm.trans HE.out
    go_wp2
    go_ret
    rw [hR.out]
    exact ⟨rfl, (HB0.out.trans (b1.mono HB0.out.size)).alloc (by have := HB0.out.size; have := b1.size; omega) _⟩
end Go.Proofs.YtnhfngpegmpcnamGreatDoor
