/- The program's OpenEngine. -/
import Derived.Test.YtmmchemgegmhhaaGreatDoorEngI5
import Derived.Test.YtmmchemgegmhhaaGreatDoorEngS2
namespace Go.Proofs.YtmmchemgegmhhaaGreatDoor
open Go.RowKit

set_option maxRecDepth 100000 in
set_option maxHeartbeats 1600000 in
theorem implOpenEngine_any (fs : List FileD) (ao : Option Addr) (cap : Nat) (room : Int) (w : World) (hl : fs.length ≤ 1048576) (hfs : FilesAt w ao fs) (hsz : ∀ F ∈ fs, F.name.size ≤ 1048576 ∧ F.text.size ≤ 1048576) (hT : SumTab w) :
    Calls Tryz.prog 42 #[.agg #[.slice ao fs.length cap], .int .i64 room] w fun e w' => Below w.heap.size w w' ∧
      ((openIB fs room = true ∧ ∃ vd vr va, e = .returned (.tuple #[.agg #[vd, .int .i64 room, .int .i64 ((lastG fs).num : Int), .int .i64 (seqD (segsL fs)), vr], va, .bool true]) ∧ RowF w' w.heap.size vd (actsF fs (actsI fs)).1 ∧ RowSpot w' w.heap.size vr (dirD fs) ∧ w'.ownsRow w.heap.size 103 4 va (actsI fs).length (cellsAct (actsI fs))) ∨
       (openIB fs room = false ∧ e = .returned (.tuple #[.agg #[.slice none 0 0, .int .i64 0, .int .i64 0, .int .i64 0, .slice none 0 0], .slice none 0 0, .bool false]))) := by
  have HF := hide hfs
  have HT := hide hT
  have HOS := hide (fun W hW hT => openStore_any fs ao cap room W hl hW hsz hT)
  clear hfs hsz hT
  obtain ⟨wb, hwb⟩ : ∃ wb, wb = (w.alloc (.cells #[.slice ao fs.length cap] 27)).alloc (.cells #[.slice none 0 0, .int .i64 0, .int .i64 0, .int .i64 0, .slice none 0 0] 30) := ⟨_, rfl⟩
  have HB0 : Hid (Below w.heap.size w wb) := by rw [hwb]; exact ((Below.refl _ w).alloc (Nat.le_refl _) _).alloc (by simp) _
  have HBE : Hid (wb.heap[w.heap.size + 1]? = some (.cells #[.slice none 0 0, .int .i64 0, .int .i64 0, .int .i64 0, .slice none 0 0] 30 (0, 0))) := by
    show _ = _
    rw [hwb, show w.heap.size + 1 = (w.alloc (.cells #[.slice ao fs.length cap] 27)).heap.size from by simp]
    exact heap_alloc_new _ _
  go_enter Tryz.func42, Tryz.ntmps42
  go_wp2_with fail
  rw [← hwb]
  clear hwb
  refine (HOS.out _ (filesAt_keep HF.out HB0.out) (sumTab_later HB0.out HT.out)).mono ?_
  rintro e w1 ⟨b1, ⟨ho, g, vd, vr, vs, va, rfl, hst, hac⟩ | ⟨ho, s1, rfl⟩⟩
  · have B1 := hide (HB0.out.trans (b1.mono HB0.out.size))
    have HE1 := hide ((b1.block _ (heap_lt HBE.out)).trans HBE.out)
    obtain ⟨ad3, cd3, hvd, -⟩ := rowF_at hst.disk
    obtain ⟨ar3, cr3, hvr, -⟩ := rowSpot_at hst.dir
    subst hvd hvr
    obtain ⟨k0, k1, k2, k3, k4, k5, k6, k7, -⟩ := eight_cells hst.blk
    have HRF := hide (rowF_le hst.disk HB0.out.size)
    have HRS := hide (rowSpot_le hst.dir HB0.out.size)
    have HAC := hide hac
    have HO := hide ho
    clear hst hac ho b1
    obtain ⟨z0, z1, z2, z3, z4, f0, f1, f2, f3, f4⟩ := five_cells HE1.out
    go_wp2
    clear z0 z1 z2 z3 z4 f0 f1 f2 f3 f4
    obtain ⟨y0, y1, y2⟩ := box5 (.slice ad3 (actsF fs (actsI fs)).1.length cd3) (.int .i64 room) (.int .i64 ((lastG fs).num : Int)) (.int .i64 (seqD (segsL fs))) (.slice ar3 (dirD fs).length cr3) HE1.out B1.out (Nat.le_succ _) _ rfl
    obtain ⟨x0, x1, x2, x3, x4, -⟩ := five_cells y0
    refine bodyPost_ret (v := .tuple #[.agg #[.slice ad3 (actsF fs (actsI fs)).1.length cd3, .int .i64 room, .int .i64 ((lastG fs).num : Int), .int .i64 (seqD (segsL fs)), .slice ar3 (dirD fs).length cr3], va, .bool true]) ?_ rfl ?_
    · simp [results, Tryz.results42, go_sem, x0, x1, x2, x3, x4]
    · exact ⟨y1, .inl ⟨HO.out, _, _, _, rfl, files_box HRF.out HE1.out y2, spots_box HRS.out HE1.out y2, acts_box (ownsRow_mono HAC.out HB0.out.size) HE1.out y2⟩⟩
  · have B1 := hide (HB0.out.trans (b1.mono HB0.out.size))
    have HE1 := hide ((b1.block _ (heap_lt HBE.out)).trans HBE.out)
    have HO := hide ho
    clear ho b1
    obtain ⟨z0, z1, z2, z3, z4, f0, f1, f2, f3, f4⟩ := five_cells HE1.out
    go_wp2
    clear z0 z1 z2 z3 z4 f0 f1 f2 f3 f4
    obtain ⟨y0, y1, y2⟩ := box5 (.slice none 0 0) (.int .i64 0) (.int .i64 0) (.int .i64 0) (.slice none 0 0) HE1.out B1.out (Nat.le_succ _) _ rfl
    obtain ⟨x0, x1, x2, x3, x4, -⟩ := five_cells y0
    refine bodyPost_ret (v := .tuple #[.agg #[.slice none 0 0, .int .i64 0, .int .i64 0, .int .i64 0, .slice none 0 0], .slice none 0 0, .bool false]) ?_ rfl ?_
    · simp [results, Tryz.results42, go_sem, x0, x1, x2, x3, x4]
    · exact ⟨y1, .inr ⟨HO.out, rfl⟩⟩
end Go.Proofs.YtmmchemgegmhhaaGreatDoor
