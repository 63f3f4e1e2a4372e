/- Engines as the laws hold them. -/
import Derived.Test.YtmmchemgegmhhaaGreatDoorLawD0
import Derived.Test.YtmmchemgegmhhaaGreatDoorFileL4
import Derived.Test.YtmmchemgegmhhaaGreatDoorSpotL
import Derived.Test.YtmmchemgegmhhaaGreatDoorEngS2
namespace Go.Proofs.YtmmchemgegmhhaaGreatDoor
open Go.RowKit

theorem rowF_rowsE {w : World} {B n c : Nat} {a : Option Addr} {fs : List FileD} (h : RowF w B (.slice a n c) fs) : FilesAt w a fs := by
  obtain ⟨ao, cap, e, hf⟩ := rowF_at h
  cases e
  exact hf
theorem szFs_le3 : ∀ (fs : List FileD) (n : Int), 0 ≤ n → szFs fs n ≤ n
  | [], _, _ => Int.le_refl _
  | F :: r, n, h => by
    unfold szFs
    split
    · omega
    · have := szF_le F n h
      have := szFs_le3 r (szF F n) (by omega)
      omega
set_option maxRecDepth 100000 in
set_option maxHeartbeats 1600000 in
theorem szEngine_any (fs : List FileD) (ao ad : Option Addr) (cap cd : Nat) (room act seq : Int) (dir : List SpotD) (w : World) (hl : fs.length ≤ maxLen) (hfs : FilesAt w ao fs) (hsz : ∀ F ∈ fs, F.name.size ≤ maxLen ∧ F.text.size ≤ maxLen) (hld : dir.length ≤ maxLen) (hds : SpotsAt w ad dir) (hszd : ∀ A ∈ dir, A.key.size ≤ maxLen) :
    Calls Tryz.prog 16 #[.agg #[.slice ao fs.length cap, .int .i64 room, .int .i64 act, .int .i64 seq, .slice ad dir.length cd], .int .i64 1048576] w fun e w' => (∃ r : Int, e = .returned (.int .i64 r) ∧ (0 ≤ r → fs.length ≤ 1048576 ∧ dir.length ≤ 1048576 ∧ (∀ F ∈ fs, F.name.size ≤ 1048576 ∧ F.text.size ≤ 1048576))) ∧ Below w.heap.size w w' := by
  have HF := hide hfs
  have HD := hide hds
  have HSD := hide (fun W hW => szDisk_any fs ao cap 1048576 W (by decide) (by decide) hl hW hsz)
  clear hfs hds hsz
  obtain ⟨wb, hwb⟩ : ∃ wb, wb = w.alloc (.cells #[.slice ao fs.length cap, .int .i64 room, .int .i64 act, .int .i64 seq, .slice ad dir.length cd] 45) := ⟨_, rfl⟩
  have HB0 : Hid (Below w.heap.size w wb) := by rw [hwb]; exact (Below.refl _ w).alloc (Nat.le_refl _) _
  have HBK : Hid (wb.heap[w.heap.size]? = some (.cells #[.slice ao fs.length cap, .int .i64 room, .int .i64 act, .int .i64 seq, .slice ad dir.length cd] 45 (0, 0))) := by rw [hwb]; exact heap_alloc_new w _
  obtain ⟨hz0, hz1, hz2, hz3, hz4, -⟩ := five_cells HBK.out
  go_enter Tryz.func16, Tryz.ntmps16
  go_wp2_with fail
  rw [← hwb]
  clear hwb
  go_wp2_with fail
  refine (HSD.out _ (filesAt_keep HF.out HB0.out)).mono ?_
  rintro e w1 ⟨⟨r, rfl, hr⟩, b1⟩
  have B1 := hide (HB0.out.trans (b1.mono HB0.out.size))
  obtain ⟨hy0, hy1, hy2, hy3, hy4, -⟩ := five_cells ((b1.block _ (heap_lt HBK.out)).trans HBK.out)
  have HR := hide hr
  clear b1 hr
  by_cases hneg : r < 0
  · have hneg' : decide (r < 0) = true := by simp; omega
    go_wp2
    go_ret
    exact ⟨⟨-1, rfl, fun h => absurd h (by omega)⟩, B1.out⟩
  · have hneg' : decide (r < 0) = false := by simp; omega
    obtain ⟨hr1, hr2⟩ := HR.out (by omega)
    have HZ := hide (szFs_small fs (1048576 - fs.length) (by omega) (by omega) (by omega))
    have hr3 : r ≤ 1048576 := by
      have := szFs_le3 fs (1048576 - fs.length) (by omega)
      omega
    clear hr1 HR
    have HSS := hide (fun W hW => szSpotS_any dir ad cd r W (by omega) hr3 hld hW hszd)
    go_wp2_with fail
    refine (HSS.out _ (spotsAt_keep HD.out B1.out)).mono ?_
    rintro e w2 ⟨rfl, b2⟩
    have B2 := hide (B1.out.trans (b2.mono B1.out.size))
    clear b2
    obtain ⟨q, HQ⟩ : ∃ q, Hid ((if r < dir.length then -1 else szSpotDs dir (r - dir.length)) = q) := ⟨_, hide rfl⟩
    rw [HQ.out]
    have HQ2 : Hid (0 ≤ q → dir.length ≤ 1048576) := fun h => by
      have h1 := HQ.out
      split at h1 <;> omega
    by_cases hq : q < 0
    · have hq' : decide (q < 0) = true := by simp; omega
      go_wp2
      go_ret
      exact ⟨⟨-1, rfl, fun h => absurd h (by omega)⟩, B2.out⟩
    · have hq' : decide (q < 0) = false := by simp; omega
      go_wp2
      go_ret
      exact ⟨⟨q, rfl, fun h => ⟨by omega, HQ2.out h, HZ.out⟩⟩, B2.out⟩

set_option maxRecDepth 100000 in
set_option maxHeartbeats 1600000 in
theorem toEngine_row (fs : List FileD) (ao ad : Option Addr) (cap cd : Nat) (room act seq : Int) (dir : List SpotD) (w : World) (hl : fs.length ≤ 1048576) (hfs : FilesAt w ao fs) (hld : dir.length ≤ 1048576) (hds : SpotsAt w ad dir) :
    Calls Tryz.prog 18 #[.agg #[.slice ao fs.length cap, .int .i64 room, .int .i64 act, .int .i64 seq, .slice ad dir.length cd]] w fun e w' => (∃ a1 a2 : Option Addr, e = .returned (.agg #[.slice a1 fs.length fs.length, .int .i64 room, .int .i64 act, .int .i64 seq, .slice a2 dir.length dir.length]) ∧ RowF w' w.heap.size (.slice a1 fs.length fs.length) fs ∧ RowSpot w' w.heap.size (.slice a2 dir.length dir.length) dir) ∧ Below w.heap.size w w' := by
  have HF := hide hfs
  have HD := hide hds
  clear hfs hds
  obtain ⟨wb, hwb⟩ : ∃ wb, wb = ((w.alloc (.cells #[.slice ao fs.length cap, .int .i64 room, .int .i64 act, .int .i64 seq, .slice ad dir.length cd] 45)).alloc (.cells #[.slice none 0 0, .int .i64 0, .int .i64 0, .int .i64 0, .slice none 0 0] 30)).alloc (.cells #[.slice none 0 0, .int .i64 0, .int .i64 0, .int .i64 0, .slice none 0 0] 30) := ⟨_, rfl⟩
  have HB0 : Hid (Below w.heap.size w wb) := by rw [hwb]; exact (((Below.refl _ w).alloc (Nat.le_refl _) _).alloc (by simp) _).alloc (by simp; omega) _
  have hbs : wb.heap.size = w.heap.size + 3 := by rw [hwb]; simp
  have HBA : Hid (wb.heap[w.heap.size]? = some (.cells #[.slice ao fs.length cap, .int .i64 room, .int .i64 act, .int .i64 seq, .slice ad dir.length cd] 45 (0, 0))) := by
    show _ = _
    rw [hwb]
    exact (Below.heap_alloc _ _ _ (by simp; omega)).trans ((Below.heap_alloc _ _ _ (by simp)).trans (heap_alloc_new w _))
  have HB1 : Hid (wb.heap[w.heap.size + 1]? = some (.cells #[.slice none 0 0, .int .i64 0, .int .i64 0, .int .i64 0, .slice none 0 0] 30 (0, 0))) := by
    show _ = _
    rw [hwb]
    refine (Below.heap_alloc _ _ _ (by simp)).trans ?_
    have := heap_alloc_new (w.alloc (.cells #[.slice ao fs.length cap, .int .i64 room, .int .i64 act, .int .i64 seq, .slice ad dir.length cd] 45)) (.cells #[.slice none 0 0, .int .i64 0, .int .i64 0, .int .i64 0, .slice none 0 0] 30)
    rwa [World.size_alloc] at this
  have HB2 : Hid (wb.heap[w.heap.size + 1 + 1]? = some (.cells #[.slice none 0 0, .int .i64 0, .int .i64 0, .int .i64 0, .slice none 0 0] 30 (0, 0))) := by
    show _ = _
    rw [hwb]
    have := heap_alloc_new ((w.alloc (.cells #[.slice ao fs.length cap, .int .i64 room, .int .i64 act, .int .i64 seq, .slice ad dir.length cd] 45)).alloc (.cells #[.slice none 0 0, .int .i64 0, .int .i64 0, .int .i64 0, .slice none 0 0] 30)) (.cells #[.slice none 0 0, .int .i64 0, .int .i64 0, .int .i64 0, .slice none 0 0] 30)
    rwa [World.size_alloc, World.size_alloc] at this
  obtain ⟨ha0, ha1, ha2, ha3, ha4, -⟩ := five_cells HBA.out
  go_enter Tryz.func18, Tryz.ntmps18
  go_wp2_with fail
  rw [← hwb]
  clear hwb
  go_wp2_with fail
  refine (toDisk_any fs ao cap _ hl (filesAt_keep HF.out HB0.out)).mono ?_
  rintro e w1 ⟨⟨g1, C1, rfl, hg1, hC1, hCs1, hI1⟩, b1⟩
  have BB1 := hide b1
  have HF1 := hide (filesAt_own hC1 hI1)
  have hw1 : wb.heap.size ≤ w1.heap.size := b1.size
  have HA1 := hide ((b1.block _ (heap_lt HBA.out)).trans HBA.out)
  have H11 := hide ((b1.block _ (heap_lt HB1.out)).trans HB1.out)
  have H12 := hide ((b1.block _ (heap_lt HB2.out)).trans HB2.out)
  obtain ⟨hy0, hy1, hy2, hy3, hy4, -⟩ := five_cells HA1.out
  obtain ⟨hx0, hx1, hx2, hx3, hx4, hf0, hf1, hf2, hf3, hf4⟩ := five_cells H12.out
  have HC1 := hide hC1
  have HI1 := hide hI1
  clear b1 hC1 hI1 ha0 ha1 ha2 ha3 ha4
  obtain ⟨W4, hW4⟩ : ∃ W, W = (((w1.setCell ⟨w.heap.size + 1 + 1, 0, none⟩ (.slice (some ⟨g1, 0, none⟩) fs.length fs.length)).setCell ⟨w.heap.size + 1 + 1, 1, none⟩ (.int .i64 room)).setCell ⟨w.heap.size + 1 + 1, 2, none⟩ (.int .i64 act)).setCell ⟨w.heap.size + 1 + 1, 3, none⟩ (.int .i64 seq) := ⟨_, rfl⟩
  have G4 : Hid (w1.grownBy W4 (some (w.heap.size + 1 + 1))) := by rw [hW4]; exact grownBy_store (grownBy_store (grownBy_store (grownBy_store (World.grownBy.refl w1 _) 0 _) 1 _) 2 _) 3 _
  have H42 : Hid (W4.heap[w.heap.size + 1 + 1]? = some (.cells #[.slice (some ⟨g1, 0, none⟩) fs.length fs.length, .int .i64 room, .int .i64 act, .int .i64 seq, .slice none 0 0] 30 (0, 0))) := by
    have c0 := (heap_setCell_same w1 (w.heap.size + 1 + 1) 0 _ _ (.slice (some ⟨g1, 0, none⟩) fs.length fs.length) H12.out).trans rfl
    have c1 := (heap_setCell_same _ (w.heap.size + 1 + 1) 1 _ _ (.int .i64 room) c0).trans rfl
    have c2 := (heap_setCell_same _ (w.heap.size + 1 + 1) 2 _ _ (.int .i64 act) c1).trans rfl
    have c3 := (heap_setCell_same _ (w.heap.size + 1 + 1) 3 _ _ (.int .i64 seq) c2).trans rfl
    rw [hW4]
    show _ = _
    rw [c3]
    rfl
  have H41 := hide ((G4.out.block _ (heap_lt H11.out) (by simp)).trans H11.out)
  have HC4 := hide ((G4.out.block _ (heap_lt HC1.out) (by simp; omega)).trans HC1.out)
  have B04 : Hid (Below w.heap.size w W4) := (HB0.out.trans (BB1.out.mono HB0.out.size)).grown G4.out (by have := HB0.out.size; omega) (fun k hk => by cases hk; omega)
  have hs4 : w1.heap.size ≤ W4.heap.size := G4.out.size
  go_wp2_with fail
  rw [← hW4]
  clear hW4 hy0 hy1 hy2 hy3 hy4 hx0 hx1 hx2 hx3 hx4 hf0 hf1 hf2 hf3 hf4
  refine (toSpotS_any dir ad cd _ hld (spotsAt_keep HD.out B04.out)).mono ?_
  rintro e w2 ⟨⟨C2, rfl, hC2, hCs2, hI2⟩, b2⟩
  have B02 := hide (B04.out.trans (b2.mono B04.out.size))
  have HS2 := hide hC2
  have HI2 := hide hI2
  have H22 := hide ((b2.block _ (heap_lt H42.out)).trans H42.out)
  have H21 := hide ((b2.block _ (heap_lt H41.out)).trans H41.out)
  have HC2' := hide ((b2.block _ (heap_lt HC4.out)).trans HC4.out)
  have hs2 := b2.size
  obtain ⟨hx0, hx1, hx2, hx3, hx4, hf0, hf1, hf2, hf3, hf4⟩ := five_cells H22.out
  clear b2 hC2 hI2
  obtain ⟨W5, hW5⟩ : ∃ W, W = w2.setCell ⟨w.heap.size + 1 + 1, 4, none⟩ (.slice (some ⟨W4.heap.size, 0, none⟩) dir.length dir.length) := ⟨_, rfl⟩
  have G5 : Hid (w2.grownBy W5 (some (w.heap.size + 1 + 1))) := by rw [hW5]; exact grownBy_store (World.grownBy.refl w2 _) 4 _
  have H52 : Hid (W5.heap[w.heap.size + 1 + 1]? = some (.cells #[.slice (some ⟨g1, 0, none⟩) fs.length fs.length, .int .i64 room, .int .i64 act, .int .i64 seq, .slice (some ⟨W4.heap.size, 0, none⟩) dir.length dir.length] 30 (0, 0))) := by
    have c0 := (heap_setCell_same w2 (w.heap.size + 1 + 1) 4 _ _ (.slice (some ⟨W4.heap.size, 0, none⟩) dir.length dir.length) H22.out).trans rfl
    rw [hW5]
    show _ = _
    rw [c0]
    rfl
  have H51 := hide ((G5.out.block _ (heap_lt H21.out) (by simp)).trans H21.out)
  have HC5 := hide ((G5.out.block _ (heap_lt HC2'.out) (by simp; omega)).trans HC2'.out)
  have HS5 := hide ((G5.out.block _ (heap_lt HS2.out) (by simp; omega)).trans HS2.out)
  have B05 : Hid (Below w.heap.size w W5) := B02.out.grown G5.out (by have := B02.out.size; omega) (fun k hk => by cases hk; omega)
  obtain ⟨hv0, hv1, hv2, hv3, hv4, -⟩ := five_cells H52.out
  obtain ⟨hu0, hu1, hu2, hu3, hu4, hk0, hk1, hk2, hk3, hk4⟩ := five_cells H51.out
  subst hW5
  go_wp2
  obtain ⟨y0, y1, y2⟩ := box5 (.slice (some ⟨g1, 0, none⟩) fs.length fs.length) (.int .i64 room) (.int .i64 act) (.int .i64 seq) (.slice (some ⟨W4.heap.size, 0, none⟩) dir.length dir.length) H51.out B05.out (Nat.le_succ _) _ rfl
  obtain ⟨x0, x1, x2, x3, x4, -⟩ := five_cells y0
  refine bodyPost_ret (v := .agg #[.slice (some ⟨g1, 0, none⟩) fs.length fs.length, .int .i64 room, .int .i64 act, .int .i64 seq, .slice (some ⟨W4.heap.size, 0, none⟩) dir.length dir.length]) ?_ rfl ?_
  · simp [results, Tryz.results18, go_sem, x0, x1, x2, x3, x4]
  · exact ⟨⟨_, _, rfl, .inr ⟨g1, fs.length, C1, rfl, by omega, (y2.block _ (heap_lt HC5.out) (by simp; omega)).trans HC5.out, by omega, HI1.out⟩, .inr ⟨W4.heap.size, dir.length, C2, rfl, by omega, (y2.block _ (heap_lt HS5.out) (by simp; omega)).trans HS5.out, by omega, HI2.out⟩⟩, y1⟩

theorem toEngine_any (fs : List FileD) (ao ad : Option Addr) (cap cd : Nat) (room act seq : Int) (dir : List SpotD) (w : World) (hl : fs.length ≤ 1048576) (hfs : FilesAt w ao fs) (hld : dir.length ≤ 1048576) (hds : SpotsAt w ad dir) :
    Calls Tryz.prog 18 #[.agg #[.slice ao fs.length cap, .int .i64 room, .int .i64 act, .int .i64 seq, .slice ad dir.length cd]] w fun e w' => (∃ a1 a2 : Option Addr, e = .returned (.agg #[.slice a1 fs.length fs.length, .int .i64 room, .int .i64 act, .int .i64 seq, .slice a2 dir.length dir.length]) ∧ FilesAt w' a1 fs ∧ SpotsAt w' a2 dir) ∧ Below w.heap.size w w' := by
  refine (toEngine_row fs ao ad cap cd room act seq dir w hl hfs hld hds).mono ?_
  rintro e w' ⟨⟨a1, a2, h1, h2, h3⟩, h4⟩
  refine ⟨⟨a1, a2, h1, ?_, rowSpot_rows h3⟩, h4⟩
  obtain ⟨ao', cap', e', hf⟩ := rowF_at h2
  cases e'
  exact hf

set_option maxRecDepth 100000 in
set_option maxHeartbeats 1600000 in
theorem eqEngine_same (fs : List FileD) (a1 a2 d1 d2 : Option Addr) (c1 c2 e1 e2 : Nat) (room act seq : Int) (dir : List SpotD) (w : World) (hl : fs.length ≤ maxLen) (h1 : FilesAt w a1 fs) (h2 : FilesAt w a2 fs) (hld : dir.length ≤ maxLen) (h3 : SpotsAt w d1 dir) (h4 : SpotsAt w d2 dir) :
    Calls Tryz.prog 19 #[.agg #[.slice a1 fs.length c1, .int .i64 room, .int .i64 act, .int .i64 seq, .slice d1 dir.length e1], .agg #[.slice a2 fs.length c2, .int .i64 room, .int .i64 act, .int .i64 seq, .slice d2 dir.length e2]] w fun e w' => e = .returned (.bool true) ∧ Below w.heap.size w w' := by
  have H1 := hide h1
  have H2 := hide h2
  have H3 := hide h3
  have H4 := hide h4
  clear h1 h2 h3 h4
  obtain ⟨wb, hwb⟩ : ∃ wb, wb = (w.alloc (.cells #[.slice a1 fs.length c1, .int .i64 room, .int .i64 act, .int .i64 seq, .slice d1 dir.length e1] 30)).alloc (.cells #[.slice a2 fs.length c2, .int .i64 room, .int .i64 act, .int .i64 seq, .slice d2 dir.length e2] 30) := ⟨_, rfl⟩
  have HB0 : Hid (Below w.heap.size w wb) := by rw [hwb]; exact ((Below.refl _ w).alloc (Nat.le_refl _) _).alloc (by simp) _
  have HBA : Hid (wb.heap[w.heap.size]? = some (.cells #[.slice a1 fs.length c1, .int .i64 room, .int .i64 act, .int .i64 seq, .slice d1 dir.length e1] 30 (0, 0))) := by
    show _ = _
    rw [hwb]
    exact (Below.heap_alloc _ _ _ (by simp)).trans (heap_alloc_new w _)
  have HBB : Hid (wb.heap[w.heap.size + 1]? = some (.cells #[.slice a2 fs.length c2, .int .i64 room, .int .i64 act, .int .i64 seq, .slice d2 dir.length e2] 30 (0, 0))) := by
    show _ = _
    rw [hwb]
    have := heap_alloc_new (w.alloc (.cells #[.slice a1 fs.length c1, .int .i64 room, .int .i64 act, .int .i64 seq, .slice d1 dir.length e1] 30)) (.cells #[.slice a2 fs.length c2, .int .i64 room, .int .i64 act, .int .i64 seq, .slice d2 dir.length e2] 30)
    rwa [World.size_alloc] at this
  go_enter Tryz.func19, Tryz.ntmps19
  go_wp2_with fail
  rw [← hwb]
  clear hwb
  refine (eqDisk_same fs a1 a2 c1 c2 _ hl (filesAt_keep H1.out HB0.out) (filesAt_keep H2.out HB0.out)).mono ?_
  rintro e w1 ⟨rfl, b1⟩
  have B1 := hide (HB0.out.trans (b1.mono HB0.out.size))
  obtain ⟨hy0, hy1, hy2, hy3, hy4, -⟩ := five_cells ((b1.block _ (heap_lt HBA.out)).trans HBA.out)
  obtain ⟨hx0, hx1, hx2, hx3, hx4, -⟩ := five_cells ((b1.block _ (heap_lt HBB.out)).trans HBB.out)
  have hn1 : (room != room) = false := by simp
  have hn2 : (act != act) = false := by simp
  have hn3 : (seq != seq) = false := by simp
  clear b1
  go_wp2_with fail
  refine (eqSpotS_same dir d1 d2 e1 e2 _ hld (spotsAt_keep H3.out B1.out) (spotsAt_keep H4.out B1.out)).mono ?_
  rintro e w2 ⟨rfl, b2⟩
  go_wp2
  go_ret
  exact ⟨rfl, B1.out.trans (b2.mono B1.out.size)⟩
end Go.Proofs.YtmmchemgegmhhaaGreatDoor
