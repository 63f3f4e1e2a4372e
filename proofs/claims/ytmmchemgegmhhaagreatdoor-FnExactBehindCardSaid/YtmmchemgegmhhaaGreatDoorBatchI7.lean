/- The program's ReadBatch. -/
import Derived.Test.YtmmchemgegmhhaaGreatDoorBatchI6
namespace Go.Proofs.YtmmchemgegmhhaaGreatDoor
open Go.RowKit

set_option maxRecDepth 100000 in
set_option maxHeartbeats 1600000 in
theorem implReadBatch_any (t : ByteArray) (w : World) (ht : t.size ≤ 1048576) :
    Calls Tryz.prog 184 #[.string t] w fun e w' => (∃ v, e = .returned (.tuple #[.agg #[.int .i64 (rdSeq t), v], .bool (rdOk t)]) ∧ RowChange w' w.heap.size v (rdChanges t)) ∧ Below w.heap.size w w' := by
  by_cases hbig : 9000 < t.size
  · have hbig' : decide ((9000 : Int) < (t.size : Int)) = true := by simp; omega
    obtain ⟨h1, h2, h3⟩ := big_none hbig
    rw [h1, h2, h3]
    clear h1 h2 h3
    go_enter Tryz.func184, Tryz.ntmps184
    go_wp2_with fail
    exact bodyPost_ret (v := .tuple #[.agg #[.int .i64 0, .slice none 0 0], .bool false]) (by simp [results, Tryz.results184, go_sem]) rfl ⟨⟨_, rfl, .inl ⟨rfl, rfl⟩⟩, (Below.refl _ _).alloc (Nat.le_refl _) _⟩
  · have hbig' : decide ((9000 : Int) < (t.size : Int)) = false := by simp; omega
    obtain ⟨wA, hwA⟩ : ∃ wA, wA = (w.alloc (.cells #[.int .i64 0, .slice none 0 0] 96)).alloc (.cells #[.string t, .int .i64 0] 266) := ⟨_, rfl⟩
    have hb1 : Below w.heap.size w (w.alloc (.cells #[.int .i64 0, .slice none 0 0] 96)) := (Below.refl _ w).alloc (Nat.le_refl _) _
    have hs1 : (w.alloc (.cells #[.int .i64 0, .slice none 0 0] 96)).heap.size = w.heap.size + 1 := by simp
    have hb2 : Below (w.heap.size + 1) (w.alloc (.cells #[.int .i64 0, .slice none 0 0] 96)) wA := by rw [hwA]; exact (Below.refl _ _).alloc (by rw [hs1]; exact Nat.le_refl _) _
    have B0 : Hid (Below w.heap.size w wA) := hb1.trans (hb2.mono (by omega))
    have X0 : Hid (wA.heap[w.heap.size]? = some (.cells #[.int .i64 0, .slice none 0 0] 96 (0, 0))) := (hb2.block _ (by omega)).trans (heap_alloc_new w _)
    have Y0 : Hid (CurI wA (w.heap.size + 1) t 0) := by have e := heap_alloc_new (w.alloc (.cells #[.int .i64 0, .slice none 0 0] 96)) (.cells #[.string t, .int .i64 0] 266); rw [hs1] at e; rw [hwA]; exact e
    have hsA : w.heap.size + 1 < wA.heap.size := heap_lt Y0.out
    clear hb1 hs1 hb2
    go_enter Tryz.func184, Tryz.ntmps184
    go_wp2_with fail
    rw [← hwA]
    clear hwA
    refine (whole_any t (w.heap.size + 1) _ (by omega) Y0.out).mono ?_
    rintro e1 w1 ⟨r1, ⟨hn, rfl⟩ | ⟨q, cs, ao, cap, hs, rfl, hrow⟩⟩
    · have HE := hide (allI_none hn)
      have x1 := (r1.block _ (heap_lt X0.out) (by simp)).trans X0.out
      have hc0 : w1.cell? ⟨w.heap.size, 0, none⟩ = some (.int .i64 0) := (cell_of_row w1 _ 0 _ _ (0, 0) x1).trans rfl
      have hc1 : w1.cell? ⟨w.heap.size, 1, none⟩ = some (.slice none 0 0) := (cell_of_row w1 _ 1 _ _ (0, 0) x1).trans rfl
      have hf0 := frozen_of_row w1 w.heap.size 0 _ _ x1
      have hf1 := frozen_of_row w1 w.heap.size 1 _ _ x1
      have B1 : Hid (Below w.heap.size w w1) := B0.out.grown r1 (by omega) (fun k hk => by cases hk; omega)
      clear x1 r1 hn
      go_wp2_with fail
      rw [HE.out.1, HE.out.2.1, HE.out.2.2]
      exact bodyPost_ret (v := .tuple #[.agg #[.int .i64 0, .slice none 0 0], .bool false]) (by simp [results, Tryz.results184, go_sem, hc0, hc1]) rfl ⟨⟨_, rfl, .inl ⟨rfl, rfl⟩⟩, (B1.out.setCell (p := ⟨w.heap.size, 0, none⟩) (Nat.le_refl _) _).setCell (p := ⟨w.heap.size, 1, none⟩) (Nat.le_refl _) _⟩
    · have HE := hide (allI_rd (by omega) hs)
      have x1 := (r1.block _ (heap_lt X0.out) (by simp)).trans X0.out
      have hc0 : w1.cell? ⟨w.heap.size, 0, none⟩ = some (.int .i64 0) := (cell_of_row w1 _ 0 _ _ (0, 0) x1).trans rfl
      have hc1 : w1.cell? ⟨w.heap.size, 1, none⟩ = some (.slice none 0 0) := (cell_of_row w1 _ 1 _ _ (0, 0) x1).trans rfl
      have hf0 := frozen_of_row w1 w.heap.size 0 _ _ x1
      have hf1 := frozen_of_row w1 w.heap.size 1 _ _ x1
      have B1 : Hid (Below w.heap.size w w1) := B0.out.grown r1 (by omega) (fun k hk => by cases hk; omega)
      have HROW := hide hrow
      clear x1 r1 hs hrow
      go_wp2_with fail
      rw [HE.out.1, HE.out.2.1, HE.out.2.2]
      refine bodyPost_ret (v := .tuple #[.agg #[.int .i64 (q : Int), .slice ao cs.length cap], .bool true]) (by simp [results, Tryz.results184, go_sem, hc0, hc1]) rfl ⟨⟨_, rfl, ?_⟩, (B1.out.setCell (p := ⟨w.heap.size, 0, none⟩) (Nat.le_refl _) _).setCell (p := ⟨w.heap.size, 1, none⟩) (Nat.le_refl _) _⟩
      refine rowChange_le (rowChange_keep HROW.out (fun b hb => ?_)) (Nat.le_of_lt (by omega : w.heap.size < wA.heap.size))
      have := (rowChange_lt HROW.out b hb).1
      exact (Below.heap_setCell _ _ _ _ (by intro e; simp only at e; omega)).trans (Below.heap_setCell _ _ _ _ (by intro e; simp only at e; omega))
end Go.Proofs.YtmmchemgegmhhaaGreatDoor
