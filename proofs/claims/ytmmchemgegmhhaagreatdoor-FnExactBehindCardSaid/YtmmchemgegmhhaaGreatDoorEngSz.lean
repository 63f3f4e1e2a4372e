/- The size of an engine, with its bound; the sizes of what Behind answers. -/
import Derived.Test.YtmmchemgegmhhaaGreatDoorEngL
import Derived.Test.YtmmchemgegmhhaaGreatDoorBehP
namespace Go.Proofs.YtmmchemgegmhhaaGreatDoor
open Go.RowKit

theorem behG_len (fs : List FileD) (qs : List ActD) (wh : Int) (ls : List Int) : (behG fs qs wh ls).length ≤ 30 := by
  unfold behG
  cases h : cutD fs qs wh ls with
  | none => simp
  | some g => exact (cut_small h).1
theorem behFs_len (fs : List FileD) (qs : List ActD) (wh : Int) (ls : List Int) (room : Int) : (behFs fs qs wh ls room).length ≤ 1048576 := by
  unfold behFs
  cases behOk fs qs wh ls room
  · simp
  · exact actsF_len _ _ (by have := behG_len fs qs wh ls; omega)
theorem behDir_len (fs : List FileD) (qs : List ActD) (wh : Int) (ls : List Int) (room : Int) : (behDir fs qs wh ls room).length ≤ 1048576 := by
  unfold behDir
  cases behOk fs qs wh ls room
  · simp
  · have := dirD_len (behG fs qs wh ls)
    show (dirD _).length ≤ _
    omega

set_option maxRecDepth 100000 in
set_option maxHeartbeats 1600000 in
theorem szEngine_le (fs : List FileD) (ao ad : Option Addr) (cap cd : Nat) (room act seq : Int) (dir : List SpotD) (w : World) (hl : fs.length ≤ maxLen) (hfs : FilesAt w ao fs) (hsz : ∀ F ∈ fs, F.name.size ≤ maxLen ∧ F.text.size ≤ maxLen) (hld : dir.length ≤ maxLen) (hds : SpotsAt w ad dir) (hszd : ∀ A ∈ dir, A.key.size ≤ maxLen) :
    Calls Tryz.prog 16 #[.agg #[.slice ao fs.length cap, .int .i64 room, .int .i64 act, .int .i64 seq, .slice ad dir.length cd], .int .i64 1048576] w fun e w' => (∃ r : Int, e = .returned (.int .i64 r) ∧ (0 ≤ r → fs.length ≤ 1048576 ∧ dir.length ≤ 1048576 ∧ (∀ F ∈ fs, F.name.size ≤ 1048576 ∧ F.text.size ≤ 1048576)) ∧ r ≤ 1048576 ∧ (0 ≤ r → r + fs.length + dir.length ≤ 1048576)) ∧ Below w.heap.size w w' := by
  have HF := hide hfs
  have HD := hide hds
  have HSD := hide (fun W hW => szDisk_any fs ao cap 1048576 W (by decide) (by decide) hl hW hsz)
  clear hfs hds hsz
  obtain ⟨wb, hwb⟩ : ∃ wb, wb = w.alloc (.cells #[.slice ao fs.length cap, .int .i64 room, .int .i64 act, .int .i64 seq, .slice ad dir.length cd] 45) := ⟨_, rfl⟩
  have HB0 : Hid (Below w.heap.size w wb) := by rw [hwb]; exact (Below.refl _ w).alloc (Nat.le_refl _) _
  have HBK : Hid (wb.heap[w.heap.size]? = some (.cells #[.slice ao fs.length cap, .int .i64 room, .int .i64 act, .int .i64 seq, .slice ad dir.length cd] 45 (0, 0))) := by rw [hwb]; exact heap_alloc_new w _
  obtain ⟨hz0, hz1, hz2, hz3, hz4, -⟩ := five_cells HBK.out
  go_enter Tryz.func16, Tryz.ntmps16
  go_wp2_with fail
  rw [← hwb]
  clear hwb
  go_wp2_with fail
  refine (HSD.out _ (filesAt_keep HF.out HB0.out)).mono ?_
  rintro e w1 ⟨⟨r, rfl, hr⟩, b1⟩
  have B1 := hide (HB0.out.trans (b1.mono HB0.out.size))
  obtain ⟨hy0, hy1, hy2, hy3, hy4, -⟩ := five_cells ((b1.block _ (heap_lt HBK.out)).trans HBK.out)
  have HR := hide hr
  clear b1 hr
  by_cases hneg : r < 0
  · have hneg' : decide (r < 0) = true := by simp; omega
    go_wp2
    go_ret
    exact ⟨⟨-1, rfl, fun h => absurd h (by omega), by omega, fun h => absurd h (by omega)⟩, B1.out⟩
  · have hneg' : decide (r < 0) = false := by simp; omega
    obtain ⟨hr1, hr2⟩ := HR.out (by omega)
    have HZ := hide (szFs_small fs (1048576 - fs.length) (by omega) (by omega) (by omega))
    have hr4 : r ≤ 1048576 - fs.length := by
      have := szFs_le3 fs (1048576 - fs.length) (by omega)
      omega
    have hr3 : r ≤ 1048576 := by omega
    clear hr1 HR
    have HSS := hide (fun W hW => szSpotS_any dir ad cd r W (by omega) hr3 hld hW hszd)
    go_wp2_with fail
    refine (HSS.out _ (spotsAt_keep HD.out B1.out)).mono ?_
    rintro e w2 ⟨rfl, b2⟩
    have B2 := hide (B1.out.trans (b2.mono B1.out.size))
    clear b2
    obtain ⟨q, HQ⟩ : ∃ q, Hid ((if r < dir.length then -1 else szSpotDs dir (r - dir.length)) = q) := ⟨_, hide rfl⟩
    rw [HQ.out]
    have HQ2 : Hid (0 ≤ q → dir.length ≤ 1048576) := fun h => by
      have h1 := HQ.out
      split at h1 <;> omega
    by_cases hq : q < 0
    · have hq' : decide (q < 0) = true := by simp; omega
      go_wp2
      go_ret
      exact ⟨⟨-1, rfl, fun h => absurd h (by omega), by omega, fun h => absurd h (by omega)⟩, B2.out⟩
    · have hq' : decide (q < 0) = false := by simp; omega
      go_wp2
      go_ret
      exact ⟨⟨q, rfl, fun h => ⟨by omega, HQ2.out h, HZ.out⟩, by
        have h1 := HQ.out
        split at h1
        · omega
        · have := szSpotDs_le dir (r - dir.length) (by omega)
          omega, fun h => by
        have h1 := HQ.out
        split at h1
        · omega
        · have := szSpotDs_le dir (r - dir.length) (by omega)
          omega⟩, B2.out⟩

end Go.Proofs.YtmmchemgegmhhaaGreatDoor
