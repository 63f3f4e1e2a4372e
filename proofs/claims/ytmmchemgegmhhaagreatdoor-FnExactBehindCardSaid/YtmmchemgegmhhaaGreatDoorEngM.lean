/- Marks of an engine's rows. -/
import Derived.Test.YtmmchemgegmhhaaGreatDoorEngL
import Derived.Test.YtmmchemgegmhhaaGreatDoorMarkD
import Derived.Test.YtmmchemgegmhhaaGreatDoorLawReadHint
import Derived.Test.YtmmchemgegmhhaaGreatDoorEngI4
namespace Go.Proofs.YtmmchemgegmhhaaGreatDoor
open Go.RowKit

theorem files_spots_ne {w : World} {B B' g : Nat} {vd vr : Value} {fs : List FileD} {dir : List SpotD} (h1 : RowF w B vd fs) (h2 : RowSpot w B' vr dir) (e1 : vd.ownBlock = some g) (e2 : vr.ownBlock = some g) : False := by
  rcases h1 with ⟨rfl, -⟩ | ⟨g1, c1, C1, rfl, -, hC1, -⟩
  · cases e1
  · rcases h2 with ⟨rfl, -⟩ | ⟨g2, c2, C2, rfl, -, hC2, -⟩
    · cases e2
    · obtain rfl : g1 = g := by simpa [Value.ownBlock] using e1
      obtain rfl : g2 = g1 := by simpa [Value.ownBlock] using e2
      rw [hC1] at hC2
      simp at hC2

set_option maxRecDepth 100000 in
set_option maxHeartbeats 1600000 in
theorem markEngine_own (vd vr : Value) (fs : List FileD) (dir : List SpotD) (room act seq : Int) (B k : Nat) (w : World) (hn : fs.length ≤ 1048576) (hm : dir.length ≤ 1048576) (hk0 : 0 < k) (hk : k ≤ 1000000) (hB : B ≤ w.heap.size) (h1 : RowF w B vd fs) (h2 : RowSpot w B vr dir) :
    Calls Tryz.prog 25 #[.agg #[vd, .int .i64 room, .int .i64 act, .int .i64 seq, vr], .int .i64 (k : Int)] w fun e w' => e = .returned (.int .i64 ((k + 3 * fs.length + 4 * dir.length : Nat) : Int)) ∧ RowF w' B vd (marksF k fs.length) ∧ RowSpot w' B vr (markSpotDs (k + 3 * fs.length) dir.length) ∧ Below B w w' ∧ (∀ x, x < w.heap.size → vd.ownBlock ≠ some x → vr.ownBlock ≠ some x → w'.heap[x]? = w.heap[x]?) := by
  obtain ⟨ad, cd, hvd, -⟩ := rowF_at h1
  obtain ⟨ar, cr, hvr, -⟩ := rowSpot_at h2
  subst hvd hvr
  have HRF := hide h1
  have HRS := hide h2
  clear h1 h2
  obtain ⟨wb, hwb⟩ : ∃ wb, wb = w.alloc (.cells #[.slice ad fs.length cd, .int .i64 room, .int .i64 act, .int .i64 seq, .slice ar dir.length cr] 30) := ⟨_, rfl⟩
  have HB0 : Hid (Below w.heap.size w wb) := by rw [hwb]; exact (Below.refl _ w).alloc (Nat.le_refl _) _
  have HBE : Hid (wb.heap[w.heap.size]? = some (.cells #[.slice ad fs.length cd, .int .i64 room, .int .i64 act, .int .i64 seq, .slice ar dir.length cr] 30 (0, 0))) := by rw [hwb]; exact heap_alloc_new _ _
  have HMD := hide (markDisk_row (.slice ad fs.length cd) fs B k wb hn hk0 (by omega) (rowF_below HRF.out HB0.out))
  obtain ⟨z0, z1, z2, z3, z4, -⟩ := five_cells HBE.out
  go_enter Tryz.func25, Tryz.ntmps25
  go_wp2_with fail
  rw [← hwb]
  clear hwb
  go_wp2_with fail
  refine HMD.out.mono ?_
  rintro e w1 ⟨rfl, rf1, g1⟩
  have RS1 := hide (rowSpot_grown (rowSpot_below HRS.out HB0.out) g1 (fun g hg e => files_spots_ne (rowF_below HRF.out HB0.out) (rowSpot_below HRS.out HB0.out) e.symm hg))
  have RF1 := hide rf1
  have B1 : Hid (Below B w w1) := (HB0.out.mono hB).grown g1 (Nat.le_trans hB HB0.out.size) (fun g hg => (rowF_lt HRF.out g hg).1)
  have HE1 : Hid (w1.heap[w.heap.size]? = some (.cells #[.slice ad fs.length cd, .int .i64 room, .int .i64 act, .int .i64 seq, .slice ar dir.length cr] 30 (0, 0))) := by
    show _ = _
    rw [g1.block _ (heap_lt HBE.out) (fun e => by have := (rowF_lt HRF.out _ e.symm).2; omega)]
    exact HBE.out
  have hw1 : w.heap.size < w1.heap.size := heap_lt HE1.out
  have X1 : Hid (∀ x, x < w.heap.size → (Value.slice ad fs.length cd).ownBlock ≠ some x → w1.heap[x]? = w.heap[x]?) := fun x hx h => (g1.block x (by have := HB0.out.size; omega) (fun e => h e.symm)).trans (HB0.out.block x hx)
  clear rf1 g1 HMD z0 z1 z2 z3 z4 HBE
  have HMS := hide (markSpotS_own (.slice ar dir.length cr) dir B (k + 3 * fs.length) w1 hm (by omega) (by omega) RS1.out)
  obtain ⟨z0, z1, z2, z3, z4, -⟩ := five_cells HE1.out
  go_wp2_with fail
  refine HMS.out.mono ?_
  rintro e w2 ⟨rfl, rs2, g2⟩
  have RF2 := hide (rowF_grown RF1.out g2 (fun g hg e => files_spots_ne RF1.out RS1.out hg e.symm))
  have RS2 := hide rs2
  have B2 : Hid (Below B w w2) := B1.out.grown g2 (by omega) (fun g hg => (rowSpot_lt RS1.out g hg).1)
  have X2 : Hid (∀ x, x < w.heap.size → (Value.slice ad fs.length cd).ownBlock ≠ some x → (Value.slice ar dir.length cr).ownBlock ≠ some x → w2.heap[x]? = w.heap[x]?) := fun x hx h h' => (g2.block x (by omega) (fun e => h' e.symm)).trans (X1.out x hx h)
  clear rs2 g2 HMS z0 z1 z2 z3 z4
  go_wp2
  go_ret
  exact ⟨rfl, RF2.out, RS2.out, B2.out, X2.out⟩

set_option maxRecDepth 100000 in
set_option maxHeartbeats 1600000 in
theorem heldEngine_own (vd vr : Value) (n m : Nat) (room act seq : Int) (B k : Nat) (w : World) (hn : n ≤ 1048576) (hm : m ≤ 1048576) (hk0 : 0 < k) (hk : k ≤ 1000000) (h1 : RowF w B vd (marksF k n)) (h2 : RowSpot w B vr (markSpotDs (k + 3 * n) m)) :
    Calls Tryz.prog 35 #[.agg #[vd, .int .i64 room, .int .i64 act, .int .i64 seq, vr], .int .i64 (k : Int)] w fun e w' => e = .returned (.int .i64 ((k + 3 * n + 4 * m : Nat) : Int)) ∧ Below w.heap.size w w' := by
  obtain ⟨ad, cd, hvd, -⟩ := rowF_at h1
  obtain ⟨ar, cr, hvr, h3⟩ := rowSpot_at h2
  rw [marksF_length] at hvd
  rw [markSpotDs_length] at hvr
  subst hvd hvr
  have HRF := hide h1
  have HRS := hide h3
  clear h1 h2 h3
  obtain ⟨wb, hwb⟩ : ∃ wb, wb = w.alloc (.cells #[.slice ad n cd, .int .i64 room, .int .i64 act, .int .i64 seq, .slice ar m cr] 30) := ⟨_, rfl⟩
  have HB0 : Hid (Below w.heap.size w wb) := by rw [hwb]; exact (Below.refl _ w).alloc (Nat.le_refl _) _
  have HBE : Hid (wb.heap[w.heap.size]? = some (.cells #[.slice ad n cd, .int .i64 room, .int .i64 act, .int .i64 seq, .slice ar m cr] 30 (0, 0))) := by rw [hwb]; exact heap_alloc_new _ _
  have HMD := hide (heldDisk_row (.slice ad n cd) n B k wb hn hk0 (by omega) (rowF_below HRF.out HB0.out))
  have hk1 : decide (((k + 3 * n : Nat) : Int) < 0) = false := by simp; omega
  have hk2 : decide (((k + 3 * n + 4 * m : Nat) : Int) < 0) = false := by simp; omega
  obtain ⟨z0, z1, z2, z3, z4, -⟩ := five_cells HBE.out
  obtain ⟨X, HX⟩ : ∃ X : Nat, Hid (k + 3 * n = X) := ⟨_, hide rfl⟩
  obtain ⟨Y, HY⟩ : ∃ Y : Nat, Hid (X + 4 * m = Y) := ⟨_, hide rfl⟩
  rw [HX.out] at HMD HRS hk1 hk2 ⊢
  rw [HY.out] at hk2 ⊢
  have hX0 : 0 < X ∧ X ≤ 10000000 := by have := HX.out; omega
  go_enter Tryz.func35, Tryz.ntmps35
  go_wp2_with fail
  rw [← hwb]
  clear hwb
  go_wp2_with fail
  refine HMD.out.mono ?_
  rintro e w1 ⟨rfl, b1⟩
  have B1 := hide (HB0.out.trans (b1.mono HB0.out.size))
  have HE1 := hide ((b1.block _ (heap_lt HBE.out)).trans HBE.out)
  clear b1 z0 z1 z2 z3 z4
  obtain ⟨z0, z1, z2, z3, z4, -⟩ := five_cells HE1.out
  have HMS := hide (heldSpotS_any ar cr m X w1 hm hX0.1 hX0.2 (spotsAt_keep HRS.out B1.out))
  rw [HY.out] at HMS
  go_wp2_with fail
  refine HMS.out.mono ?_
  rintro e w2 ⟨rfl, b2⟩
  have B2 := hide (B1.out.trans (b2.mono B1.out.size))
  clear b2 z0 z1 z2 z3 z4
  go_wp2
  go_ret
  exact ⟨rfl, B2.out⟩
end Go.Proofs.YtmmchemgegmhhaaGreatDoor
