/- Files as the laws hold them, turned into the program's own: a row of the call's own. -/
import Derived.Test.YtmmchemgegmhhaaGreatDoorFileL2
import Derived.Laws.MakeOwn
namespace Go.Proofs.YtmmchemgegmhhaaGreatDoor
open Go.RowKit

/-- The first k files stand in these cells. -/
def FilesIn (C : Array Value) (fs : List FileD) (k : Nat) : Prop := ∀ j (h : j < fs.length), j < k → C[j * 3]? = some (.string fs[j].name) ∧ C[j * 3 + 1]? = some (.string fs[j].text) ∧ C[j * 3 + 2]? = some (.int .i64 fs[j].kept)

theorem Tryz.infoFile : (Tryz.prog.info? 74).map (fun i => (i.zero, i.size, i.bytes)) = some (some (.agg #[.string ⟨#[]⟩, .string ⟨#[]⟩, .int .i64 0]), 3, 40) := by kernel_rfl

/-- A file is put into its three cells. -/
def putFile (C : Array Value) (k : Nat) (F : FileD) : Array Value := ((C.setIfInBounds (k * 3) (.string F.name)).setIfInBounds (k * 3 + 1) (.string F.text)).setIfInBounds (k * 3 + 2) (.int .i64 F.kept)

theorem putFile_size (C : Array Value) (k : Nat) (F : FileD) : (putFile C k F).size = C.size := by simp [putFile]

theorem filesIn_put {C : Array Value} {fs : List FileD} {k : Nat} (h : FilesIn C fs k) (hk : k < fs.length) (hs : C.size = fs.length * 3) : FilesIn (putFile C k fs[k]) fs (k + 1) := by
  intro j hj hjk
  unfold putFile
  by_cases e : j = k
  · subst e
    refine ⟨?_, ?_, ?_⟩ <;> simp [Array.getElem?_setIfInBounds] <;> omega
  · obtain ⟨h1, h2, h3⟩ := h j hj (by omega)
    refine ⟨?_, ?_, ?_⟩
    · rw [Array.getElem?_setIfInBounds_ne (by omega), Array.getElem?_setIfInBounds_ne (by omega), Array.getElem?_setIfInBounds_ne (by omega)]; exact h1
    · rw [Array.getElem?_setIfInBounds_ne (by omega), Array.getElem?_setIfInBounds_ne (by omega), Array.getElem?_setIfInBounds_ne (by omega)]; exact h2
    · rw [Array.getElem?_setIfInBounds_ne (by omega), Array.getElem?_setIfInBounds_ne (by omega), Array.getElem?_setIfInBounds_ne (by omega)]; exact h3

theorem file_stored {w : World} {g k : Nat} {C : Array Value} {t : TypeId} (F : FileD) (h : w.heap[g]? = some (.cells C t (0, 0))) :
    (((w.setCell ⟨g, k * 3, none⟩ (.string F.name)).setCell ⟨g, k * 3 + 1, none⟩ (.string F.text)).setCell ⟨g, k * 3 + 2, none⟩ (.int .i64 F.kept)).heap[g]? = some (.cells (putFile C k F) t (0, 0)) :=
  heap_setCell_same _ g _ _ t _ (heap_setCell_same _ g _ _ t _ (heap_setCell_same w g _ C t _ h))

set_option maxRecDepth 100000 in
set_option maxHeartbeats 400000 in
theorem toFileS_any (fs : List FileD) (ao : Option Addr) (cap : Nat) (w : World) (hl : fs.length ≤ 1048576) (hfs : FilesAt w ao fs) :
    Calls Tryz.prog 98 #[.slice ao fs.length cap] w fun e w' => (∃ C : Array Value, e = .returned (.slice (some ⟨w.heap.size, 0, none⟩) fs.length fs.length) ∧ w'.heap[w.heap.size]? = some (.cells C 74 (0, 0)) ∧ C.size = fs.length * 3 ∧ FilesIn C fs fs.length) ∧ Below w.heap.size w w' := by
  have HF := hide hfs
  clear hfs
  obtain ⟨i0, hi, hz0, hz1, hz2⟩ := info_parts Tryz.infoFile
  obtain ⟨M, hM⟩ : ∃ M, M = madeCells (Value.agg #[.string ⟨#[]⟩, .string ⟨#[]⟩, .int .i64 0]).cells (((fs.length : Nat) : Int).toNat * i0.size) := ⟨_, rfl⟩
  have hmk : ∀ W : World, (Instr.makeSlice 25 (.int .i64 (fs.length : Int)) (.int .i64 (fs.length : Int))).run Tryz.prog W = .ok (.slice (some ⟨W.heap.size, 0, none⟩) fs.length fs.length) (W.alloc (.cells M 74)) := fun W => by
    have h := run_make (P := Tryz.prog) W 25 74 i0 (.agg #[.string ⟨#[]⟩, .string ⟨#[]⟩, .int .i64 0]) Tryz.underlying25 hi hz0 .i64 .i64 (fs.length : Int) (fs.length : Int) (by omega) (by omega) (by rw [hz2]; omega) (by omega)
    rw [← hM] at h
    simpa using h
  have hMs : M.size = fs.length * 3 := by rw [hM, size_madeCells, hz1]; simp
  clear hM
  go_enter Tryz.func98, Tryz.ntmps98
  go_wp2
  go_loopw [4] (fun ii wr => ∃ (k : Nat) (C : Array Value), ii = .int .i64 k ∧ k ≤ fs.length ∧ Hid (wr.heap[w.heap.size]? = some (.cells C 74 (0, 0))) ∧ C.size = fs.length * 3 ∧ Hid (FilesIn C fs k) ∧ Hid (Below w.heap.size w wr)) (fun ii _ => fs.length - (intOf ii).toNat)
  case atStart => exact ⟨0, M, rfl, Nat.zero_le _, heap_alloc_new w _, hMs, fun j _ hj => absurd hj (by omega), (Below.refl _ w).alloc (Nat.le_refl _) _⟩
  case round =>
    obtain ⟨k, C, rfl, hk, HC, hCs, HI, HB⟩ := hrel
    by_cases hlt : k < fs.length
    · have hlt' : decide ((k : Int) < (fs.length : Int)) = true := by simp; omega
      obtain ⟨b, off, rfl, hbw, hc0, hc1, hc2⟩ := filesAt_keep HF.out HB.out k hlt
      obtain ⟨F, HFk⟩ : ∃ F, Hid (fs[k] = F) := ⟨fs[k], hide rfl⟩
      rw [HFk.out] at hc0 hc1 hc2
      have hi0 : (0 : Int) ≤ (k : Int) := by omega
      have hi1 : (k : Int) < (fs.length : Int) := by omega
      go_wp2_with fail
      refine (toFile_any F _).mono ?_
      rintro e w1 ⟨rfl, b1⟩
      have HB1 := hide (HB.out.trans (b1.mono HB.out.size))
      have hlt1 : w.heap.size < wr.heap.size := by
        rcases Nat.lt_or_ge w.heap.size wr.heap.size with h | h
        · exact h
        · have := HC.out; rw [Array.getElem?_eq_none h] at this; cases this
      have hC1 : w1.heap[w.heap.size]? = some (.cells C 74 (0, 0)) := (b1.block _ hlt1).trans HC.out
      clear b1 hc0 hc1 hc2
      have hq0 := cell_of_row w1 w.heap.size (k * 3) C 74 (0, 0) hC1
      have hq1 := cell_of_row w1 w.heap.size (k * 3 + 1) C 74 (0, 0) hC1
      have hq2 := cell_of_row w1 w.heap.size (k * 3 + 2) C 74 (0, 0) hC1
      have hf0 := frozen_of_row w1 w.heap.size (k * 3) C 74 hC1
      have hf1 := frozen_of_row w1 w.heap.size (k * 3 + 1) C 74 hC1
      have hf2 := frozen_of_row w1 w.heap.size (k * 3 + 2) C 74 hC1
      rw [Array.getElem?_eq_getElem (by omega)] at hq0 hq1 hq2
      have HC1 := hide hC1
      clear hC1
      have HN : Hid (FilesIn (putFile C k F) fs (k + 1)) := by have := filesIn_put HI.out hlt hCs; rw [HFk.out] at this; exact this
      have HC2 := hide (file_stored (k := k) F HC1.out)
      have HB2 := hide (((HB1.out.setCell (p := ⟨w.heap.size, k * 3, none⟩) (Nat.le_refl _) (.string F.name)).setCell (p := ⟨w.heap.size, k * 3 + 1, none⟩) (Nat.le_refl _) (.string F.text)).setCell (p := ⟨w.heap.size, k * 3 + 2, none⟩) (Nat.le_refl _) (.int .i64 F.kept))
      go_wp2_with fail
      go_roundw
      case rel => exact ⟨k + 1, putFile C k F, by go_num, by omega, HC2, by rw [putFile_size]; exact hCs, HN, HB2⟩
      case measure => simp [intOf]; omega
    · have hlt' : decide ((k : Int) < (fs.length : Int)) = false := by simp; omega
      have hke : k = fs.length := by omega
      subst hke
      go_wp2
      go_ret
      exact ⟨⟨C, rfl, HC.out, hCs, HI.out⟩, HB.out⟩

/-- A row of the call's own is a row. -/
theorem filesAt_own {w : World} {g : Nat} {C : Array Value} {t : TypeId} {fs : List FileD} (h : w.heap[g]? = some (.cells C t (0, 0))) (hC : FilesIn C fs fs.length) : FilesAt w (some ⟨g, 0, none⟩) fs := by
  intro j hj
  obtain ⟨h1, h2, h3⟩ := hC j hj hj
  have hg : g < w.heap.size := (Array.getElem?_eq_some_iff.1 h).1
  refine ⟨g, 0, rfl, hg, ?_, ?_, ?_⟩
  · rw [Nat.zero_add, cell_of_row w g _ C t (0, 0) h, h1]
  · rw [Nat.zero_add, cell_of_row w g _ C t (0, 0) h, h2]
  · rw [Nat.zero_add, cell_of_row w g _ C t (0, 0) h, h3]
end Go.Proofs.YtmmchemgegmhhaaGreatDoor
