/- The program's ReadSegment. -/
import Derived.Test.YtijmlgdeeodehabDoorSegI1
namespace Go.Proofs.YtijmlgdeeodehabDoor
open Go.RowKit Go.Shelf

set_option maxRecDepth 100000 in
set_option maxHeartbeats 800000 in
theorem implReadSegment_any (n : Int) (s : ByteArray) (w : World) (hs : s.size ≤ 1048576) (hT : SumTab w) : Calls Tryd.prog 7 #[.int .i64 n, .string s] w (SegLeft n s w) := by
  have HS := hide (fun W hW => segmentOf_any n s W hs hW)
  have HT := hide hT
  clear hT
  unfold SegAns at HS
  unfold SegLeft
  generalize segFrom n s = f0 at HS
  generalize segBatches n s = bs0 at HS
  generalize segEnd n s = en0 at HS
  generalize segOk n s = ok0 at HS
  generalize segPls n s = pl0 at HS
  generalize segTorn n s = tn0 at HS
  go_enter Tryd.func7, Tryd.ntmps7
  go_wp2_with fail
  refine (HS.out _ HT.out).mono ?_
  rintro e w1 ⟨⟨v, p, rfl, hv, hp⟩, b1⟩
  obtain ⟨a1, c1, rfl, -⟩ := rowBatch_at hv
  obtain ⟨a2, c2, rfl⟩ := rowNat_form hp
  have HV := hide hv
  have B1 := hide b1
  clear hv hp b1
  obtain ⟨wX, hwX⟩ : ∃ wX, wX = w1.alloc (.cells #[.int .i64 n, .int .i64 (f0 : Int), .slice a1 bs0.length c1, .slice a2 pl0.length c2, .int .i64 (en0 : Int), .bool ok0, .bool tn0] 52) := ⟨_, rfl⟩
  have BX : Hid (Below w1.heap.size w1 wX) := by rw [hwX]; exact (Below.refl _ w1).alloc (Nat.le_refl _) _
  obtain ⟨hx0, hx1, hx2, hx3, hx4, hx5, hx6, -⟩ := six_cells (W := wX) (g := w1.heap.size) (by rw [hwX]; exact heap_alloc_new w1 _)
  go_wp2_with fail
  rw [← hwX]
  clear hwX
  go_quiet (fail)
  go_wp2_with fail
  refine bodyPost_ret (v := .tuple #[.int .i64 (f0 : Int), .slice a1 bs0.length c1, .int .i64 (en0 : Int), .bool ok0]) ?_ rfl ?_
  · simp [results, Tryd.results7, go_sem]
  · exact ⟨⟨_, rfl, rowBatch_below HV.out (below_drewN BX.out _)⟩, below_drewN (B1.out.trans (BX.out.mono B1.out.size)) _⟩
end Go.Proofs.YtijmlgdeeodehabDoor
