/- The program's ownFile: a file of its own memory. -/
import Derived.Test.YtmmchemgegmhhaaGreatDoorRowF
import Derived.Test.YtmmchemgegmhhaaGreatDoorClone
namespace Go.Proofs.YtmmchemgegmhhaaGreatDoor
open Go.RowKit

set_option maxRecDepth 100000 in
set_option maxHeartbeats 1600000 in
theorem ownFile_any (F : FileD) (w : World) (hs1 : F.name.size ≤ 1048576) (hs2 : F.text.size ≤ 1048576) :
    Calls Tryz.prog 163 #[.agg #[.string F.name, .string F.text, .int .i64 F.kept]] w fun e w' => e = .returned (.agg #[.string F.name, .string F.text, .int .i64 F.kept]) ∧ Below w.heap.size w w' := by
  obtain ⟨wB, hwB⟩ : ∃ wB, wB = (w.alloc (.cells #[.string F.name, .string F.text, .int .i64 F.kept] 74)).alloc (.cells #[.string ⟨#[]⟩, .string ⟨#[]⟩, .int .i64 0] 74) := ⟨_, rfl⟩
  have HB : Hid (Below w.heap.size w wB) := by rw [hwB]; exact ((Below.refl _ w).alloc (Nat.le_refl _) _).alloc (by simp) _
  have hBs : wB.heap.size = w.heap.size + 1 + 1 := by rw [hwB]; simp
  have h0 : wB.heap[w.heap.size]? = some (.cells #[.string F.name, .string F.text, .int .i64 F.kept] 74 (0, 0)) := by rw [hwB, World.alloc, Array.getElem?_push_lt (by simp), ← Array.getElem?_eq_getElem]; exact heap_alloc_new w _
  have h1 : wB.heap[w.heap.size + 1]? = some (.cells #[.string ⟨#[]⟩, .string ⟨#[]⟩, .int .i64 0] 74 (0, 0)) := by rw [hwB, show w.heap.size + 1 = (w.alloc (.cells #[.string F.name, .string F.text, .int .i64 F.kept] 74)).heap.size from by simp]; exact heap_alloc_new _ _
  have hc0 : wB.cell? ⟨w.heap.size, 0, none⟩ = some (.string F.name) := (cell_of_row wB w.heap.size 0 _ _ (0, 0) h0).trans rfl
  have hc1 : wB.cell? ⟨w.heap.size, 1, none⟩ = some (.string F.text) := (cell_of_row wB w.heap.size 1 _ _ (0, 0) h0).trans rfl
  have hc2 : wB.cell? ⟨w.heap.size, 2, none⟩ = some (.int .i64 F.kept) := (cell_of_row wB w.heap.size 2 _ _ (0, 0) h0).trans rfl
  have H1 := hide h1
  clear h0 h1
  have HZ : Hid (w.heap.size + 1 < wB.heap.size) := by show _ < _; omega
  go_enter Tryz.func163, Tryz.ntmps163
  go_wp2_with fail
  rw [← hwB]
  clear hwB
  go_region_held3 (fun w' => w'.cell? ⟨w.heap.size, 0, none⟩ = some (.string F.name) ∧ w'.cell? ⟨w.heap.size, 1, none⟩ = some (.string F.text) ∧ w'.cell? ⟨w.heap.size, 2, none⟩ = some (.int .i64 F.kept)) (first | go_keep | (exact ⟨(b3.cell (p := ⟨w.heap.size, 0, none⟩) (by show w.heap.size < _; simp; omega)).trans hc0, (b3.cell (p := ⟨w.heap.size, 1, none⟩) (by show w.heap.size < _; simp; omega)).trans hc1, (b3.cell (p := ⟨w.heap.size, 2, none⟩) (by show w.heap.size < _; simp; omega)).trans hc2⟩) | (exact ⟨(b1.cell (p := ⟨w.heap.size, 0, none⟩) (by show w.heap.size < _; simp; omega)).trans hc0, (b1.cell (p := ⟨w.heap.size, 1, none⟩) (by show w.heap.size < _; simp; omega)).trans hc1, (b1.cell (p := ⟨w.heap.size, 2, none⟩) (by show w.heap.size < _; simp; omega)).trans hc2⟩))
    ((first
      | (go_at_call 170; refine (ownText_any _ _ (by assumption)).mono ?_; rintro e w2 ⟨rfl, b2⟩; have b3 := b1.trans (b2.mono b1.size); have hr := (b3.block _ HZ.out).trans H1.out; have hq0 := cell_of_row w2 (w.heap.size + 1) 0 _ _ (0, 0) hr; have hq1 := cell_of_row w2 (w.heap.size + 1) 1 _ _ (0, 0) hr; have hq2 := cell_of_row w2 (w.heap.size + 1) 2 _ _ (0, 0) hr; have hf0 := frozen_of_row w2 (w.heap.size + 1) 0 _ _ hr; have hf1 := frozen_of_row w2 (w.heap.size + 1) 1 _ _ hr; have hf2 := frozen_of_row w2 (w.heap.size + 1) 2 _ _ hr; clear hr)
      | (go_at_call 170; refine (ownText_any _ _ (by assumption)).mono ?_; rintro e w1 ⟨rfl, b1⟩)))
  have HB3 : Hid (Below w.heap.size w w2) := HB.out.trans (((Below.refl _ _).drew.trans b3).mono (by show w.heap.size ≤ wB.heap.size; omega))
  clear b1 b2 b3
  go_wp2_with fail
  refine bodyPost_ret (v := .agg #[.string F.name, .string F.text, .int .i64 F.kept]) (by simp [results, Tryz.results163, go_sem, hq0, hq1, hq2]) rfl ⟨rfl, ?_⟩
  exact ((HB3.out.setCell (p := ⟨w.heap.size + 1, 0, none⟩) (by simp) _).setCell (p := ⟨w.heap.size + 1, 1, none⟩) (by simp) _).setCell (p := ⟨w.heap.size + 1, 2, none⟩) (by simp) _
end Go.Proofs.YtmmchemgegmhhaaGreatDoor
