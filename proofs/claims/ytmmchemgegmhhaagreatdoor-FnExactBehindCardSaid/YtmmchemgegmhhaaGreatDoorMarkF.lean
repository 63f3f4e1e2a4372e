/- Files of a call's own are marked, and held against their marks. -/
import Derived.Test.YtmmchemgegmhhaaGreatDoorRowF
import Derived.Test.YtmmchemgegmhhaaGreatDoorMarkText
namespace Go.Proofs.YtmmchemgegmhhaaGreatDoor
open Go.RowKit

/-- The file that is marked from k on. -/
def markF (k : Nat) : FileD := ⟨⟨(mk k).toArray⟩, ⟨(mk (k + 1)).toArray⟩, ((k + 2 : Nat) : Int)⟩
/-- The first j files are marked, from k on. -/
def marksF (k n : Nat) : List FileD := (List.range n).map (fun j => markF (k + 3 * j))
theorem marksF_length (k n : Nat) : (marksF k n).length = n := by simp [marksF]
theorem marksF_get (k n j : Nat) (h : j < (marksF k n).length) : (marksF k n)[j] = markF (k + 3 * j) := by simp [marksF]

theorem filesIn_put' {C : Array Value} {fs : List FileD} {k : Nat} (h : FilesIn C fs k) (hk : k < fs.length) (hs : fs.length * 3 ≤ C.size) : FilesIn (putFile C k fs[k]) fs (k + 1) := by
  intro j hj hjk
  unfold putFile
  by_cases e : j = k
  · subst e
    refine ⟨?_, ?_, ?_⟩ <;> simp [Array.getElem?_setIfInBounds] <;> omega
  · obtain ⟨h1, h2, h3⟩ := h j hj (by omega)
    refine ⟨?_, ?_, ?_⟩
    · rw [Array.getElem?_setIfInBounds_ne (by omega), Array.getElem?_setIfInBounds_ne (by omega), Array.getElem?_setIfInBounds_ne (by omega)]; exact h1
    · rw [Array.getElem?_setIfInBounds_ne (by omega), Array.getElem?_setIfInBounds_ne (by omega), Array.getElem?_setIfInBounds_ne (by omega)]; exact h2
    · rw [Array.getElem?_setIfInBounds_ne (by omega), Array.getElem?_setIfInBounds_ne (by omega), Array.getElem?_setIfInBounds_ne (by omega)]; exact h3

theorem mark_next (K : Nat) (w : World) (h : K ≤ 20000000) : Calls Tryz.prog 72 #[.int .i64 ((K : Int) + 1)] w fun e w' => e = .returned (.string ⟨(mk (K + 1)).toArray⟩) ∧ Below w.heap.size w w' := by
  have h := mark_any (K + 1) w (by omega) (by omega)
  rw [show (((K + 1 : Nat)) : Int) = (K : Int) + 1 from by omega] at h
  exact h

set_option maxRecDepth 100000 in
set_option maxHeartbeats 1600000 in
theorem markFileS_row (g cap n : Nat) (C0 : Array Value) (k : Nat) (w : World) (hn : n ≤ 1048576) (hk0 : 0 < k) (hk : k ≤ 10000000) (hC : w.heap[g]? = some (.cells C0 74 (0, 0))) (hs : n * 3 ≤ C0.size) :
    Calls Tryz.prog 114 #[.slice (some ⟨g, 0, none⟩) n cap, .int .i64 (k : Int)] w fun e w' => e = .returned (.int .i64 ((k + 3 * n : Nat) : Int)) ∧ (∃ C : Array Value, w'.heap[g]? = some (.cells C 74 (0, 0)) ∧ C.size = C0.size ∧ FilesIn C (marksF k n) n) ∧ w.grownBy w' (some g) := by
  have HC0 := hide hC
  clear hC
  go_enter Tryz.func114, Tryz.ntmps114
  go_wp2
  go_loopw [1, 5] (fun kk ii wr => ∃ (j : Nat) (C : Array Value), kk = .int .i64 ((k + 3 * j : Nat) : Int) ∧ ii = .int .i64 j ∧ j ≤ n ∧ Hid (wr.heap[g]? = some (.cells C 74 (0, 0))) ∧ C.size = C0.size ∧ Hid (FilesIn C (marksF k n) j) ∧ Hid (w.grownBy wr (some g))) (fun _ ii _ => n - (intOf ii).toNat)
  case atStart => exact ⟨0, C0, rfl, rfl, Nat.zero_le _, HC0, rfl, fun j _ hj => absurd hj (by omega), World.grownBy.refl _ _⟩
  case round =>
    obtain ⟨j, C, rfl, rfl, hj, HC, hCs, HI, HG⟩ := hrel
    by_cases hlt : j < n
    · have hlt' : decide ((j : Int) < (n : Int)) = true := by simp; omega
      have hi0 : (0 : Int) ≤ (j : Int) := by omega
      have hi1 : (j : Int) < (n : Int) := by omega
      have hgw : g < wr.heap.size := (Array.getElem?_eq_some_iff.1 HC.out).1
      obtain ⟨K, HK⟩ : ∃ K : Nat, Hid (K = k + 3 * j) := ⟨_, hide rfl⟩
      have hKb : 0 < K ∧ K ≤ 14000000 := by have := HK.out; omega
      rw [← HK.out]
      go_wp2_with fail
      refine (mark_any K _ (by omega) (by omega)).mono ?_
      rintro e w1 ⟨rfl, b1⟩
      have hC1 : w1.heap[g]? = some (.cells C 74 (0, 0)) := (b1.block g hgw).trans HC.out
      have hq0 := cell_of_row w1 g (j * 3) C _ (0, 0) hC1
      have hf0 := frozen_of_row w1 g (j * 3) C _ hC1
      rw [Array.getElem?_eq_getElem (by omega)] at hq0
      have HB1 := hide b1
      have HC1 := hide hC1
      clear b1 hC1
      go_wp2_with fail
      refine (mark_next K _ (by omega)).mono ?_
      rintro e w2 ⟨rfl, b2⟩
      have hC2 : w2.heap[g]? = some (.cells (C.setIfInBounds (j * 3) (.string ⟨(mk K).toArray⟩)) 74 (0, 0)) := (b2.block g (by have := HB1.out.size; simpa [World.setCell] using Nat.lt_of_lt_of_le hgw this)).trans (heap_setCell_same w1 g (j * 3) C _ _ HC1.out)
      have hr1 := cell_of_row w2 g (j * 3 + 1) _ _ (0, 0) hC2
      have hr2 := cell_of_row w2 g (j * 3 + 2) _ _ (0, 0) hC2
      have he1 := frozen_of_row w2 g (j * 3 + 1) _ _ hC2
      have he2 := frozen_of_row w2 g (j * 3 + 2) _ _ hC2
      rw [Array.getElem?_eq_getElem (by simp; omega)] at hr1 hr2
      have HC2 := hide hC2
      have HB2 := hide b2
      clear hC2 b2 hq0 hf0
      go_wp2_with fail
      go_roundw
      case rel =>
        have hl := marksF_length k n
        have HP := filesIn_put' HI.out (by omega) (by omega)
        rw [marksF_get, ← HK.out] at HP
        have hg2 : w.grownBy w2 (some g) := grownBy_trans (grownBy_store (grownBy_trans HG.out (grownBy_below _ HB1.out)) (j * 3) (.string ⟨(mk K).toArray⟩)) (grownBy_below _ HB2.out)
        refine ⟨j + 1, putFile C j (markF K), ?_, by go_num, by omega, heap_setCell_same _ g _ _ _ _ (heap_setCell_same _ g _ _ _ _ HC2.out), by rw [putFile_size]; exact hCs, HP, grownBy_store (grownBy_store hg2 (j * 3 + 1) _) (j * 3 + 2) _⟩
        have := HK.out
        congr 1
        omega
      case measure => simp [intOf]; omega
    · have hlt' : decide ((j : Int) < (n : Int)) = false := by simp; omega
      have hje : j = n := by omega
      subst hje
      go_wp2
      go_ret
      exact ⟨rfl, ⟨C, HC.out, hCs, HI.out⟩, HG.out⟩
end Go.Proofs.YtmmchemgegmhhaaGreatDoor
