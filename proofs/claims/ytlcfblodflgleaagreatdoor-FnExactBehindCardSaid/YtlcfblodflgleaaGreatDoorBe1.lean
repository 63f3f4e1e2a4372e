import Derived.Laws.MakeOwn
import Derived.Maps.OwnSet
import Derived.Lib.Strings
import Derived.Sort.Walk0
import Derived.Test.YtlcfblodflgleaaGreatDoorBe0
set_option maxRecDepth 100000
set_option maxHeartbeats 800000
namespace Go.Proofs.YtlcfblodflgleaaGreatDoor
open Go.RowKit
def FilesIn (C : Array Value) (fs : List FileD) (k : Nat) : Prop := ∀ j (h : j < fs.length), j < k → C[j * 3]? = some (.string fs[j].name) ∧ C[j * 3 + 1]? = some (.string fs[j].text) ∧ C[j * 3 + 2]? = some (.int .i64 fs[j].kept)
theorem Tryz.infoFile : (Tryz.prog.info? 109).map (fun i => (i.zero, i.size, i.bytes)) = some (some (.agg #[.string ⟨#[]⟩, .string ⟨#[]⟩, .int .i64 0]), 3, 40) := by kernel_rfl
def putFile (C : Array Value) (k : Nat) (F : FileD) : Array Value := ((C.setIfInBounds (k * 3) (.string F.name)).setIfInBounds (k * 3 + 1) (.string F.text)).setIfInBounds (k * 3 + 2) (.int .i64 F.kept)
theorem putFile_size (C : Array Value) (k : Nat) (F : FileD) : (putFile C k F).size = C.size := by simp [putFile]
theorem filesIn_put {C : Array Value} {fs : List FileD} {k : Nat} (h : FilesIn C fs k) (hk : k < fs.length) (hs : C.size = fs.length * 3) : FilesIn (putFile C k fs[k]) fs (k + 1) := by
  intro j hj hjk
  unfold putFile
  by_cases e : j = k
  · subst e
    refine ⟨?_, ?_, ?_⟩ <;> simp [Array.getElem?_setIfInBounds] <;> omega
  · obtain ⟨h1, h2, h3⟩ := h j hj (by omega)
    refine ⟨?_, ?_, ?_⟩
    · rw [Array.getElem?_setIfInBounds_ne (by omega), Array.getElem?_setIfInBounds_ne (by omega), Array.getElem?_setIfInBounds_ne (by omega)]; exact h1
    · rw [Array.getElem?_setIfInBounds_ne (by omega), Array.getElem?_setIfInBounds_ne (by omega), Array.getElem?_setIfInBounds_ne (by omega)]; exact h2
    · rw [Array.getElem?_setIfInBounds_ne (by omega), Array.getElem?_setIfInBounds_ne (by omega), Array.getElem?_setIfInBounds_ne (by omega)]; exact h3
theorem file_stored {w : World} {g k : Nat} {C : Array Value} {t : TypeId} (F : FileD) (h : w.heap[g]? = some (.cells C t (0, 0))) :
    (((w.setCell ⟨g, k * 3, none⟩ (.string F.name)).setCell ⟨g, k * 3 + 1, none⟩ (.string F.text)).setCell ⟨g, k * 3 + 2, none⟩ (.int .i64 F.kept)).heap[g]? = some (.cells (putFile C k F) t (0, 0)) :=
  heap_setCell_same _ g _ _ t _ (heap_setCell_same _ g _ _ t _ (heap_setCell_same w g _ C t _ h))
theorem toFileS_any (fs : List FileD) (ao : Option Addr) (cap : Nat) (w : World) (hl : fs.length ≤ 1048576) (hfs : FilesAt w ao fs) :
    Calls Tryz.prog 71 #[.slice ao fs.length cap] w fun e w' => (∃ C : Array Value, e = .returned (.slice (some ⟨w.heap.size, 0, none⟩) fs.length fs.length) ∧ w'.heap[w.heap.size]? = some (.cells C 109 (0, 0)) ∧ C.size = fs.length * 3 ∧ FilesIn C fs fs.length) ∧ Below w.heap.size w w' := by
  have HF := hide hfs
  clear hfs
  obtain ⟨i0, hi, hz0, hz1, hz2⟩ := info_parts Tryz.infoFile
  obtain ⟨M, hM⟩ : ∃ M, M = madeCells (Value.agg #[.string ⟨#[]⟩, .string ⟨#[]⟩, .int .i64 0]).cells (((fs.length : Nat) : Int).toNat * i0.size) := ⟨_, rfl⟩
  have hmk : ∀ W : World, (Instr.makeSlice 29 (.int .i64 (fs.length : Int)) (.int .i64 (fs.length : Int))).run Tryz.prog W = .ok (.slice (some ⟨W.heap.size, 0, none⟩) fs.length fs.length) (W.alloc (.cells M 109)) := fun W => by
    have h := run_make (P := Tryz.prog) W 29 109 i0 (.agg #[.string ⟨#[]⟩, .string ⟨#[]⟩, .int .i64 0]) Tryz.underlying29 hi hz0 .i64 .i64 (fs.length : Int) (fs.length : Int) (by omega) (by omega) (by rw [hz2]; omega) (by omega)
    rw [← hM] at h
    simpa using h
  have hMs : M.size = fs.length * 3 := by rw [hM, size_madeCells, hz1]; simp
  clear hM
  go_enter Tryz.func71, Tryz.ntmps71
  go_wp2
  go_loopw [4] (fun ii wr => ∃ (k : Nat) (C : Array Value), ii = .int .i64 k ∧ k ≤ fs.length ∧ Hid (wr.heap[w.heap.size]? = some (.cells C 109 (0, 0))) ∧ C.size = fs.length * 3 ∧ Hid (FilesIn C fs k) ∧ Hid (Below w.heap.size w wr)) (fun ii _ => fs.length - (intOf ii).toNat)
  case atStart => exact ⟨0, M, rfl, Nat.zero_le _, heap_alloc_new w _, hMs, fun j _ hj => absurd hj (by omega), (Below.refl _ w).alloc (Nat.le_refl _) _⟩
  case round =>
    obtain ⟨k, C, rfl, hk, HC, hCs, HI, HB⟩ := hrel
    by_cases hlt : k < fs.length
    · have hlt' : decide ((k : Int) < (fs.length : Int)) = true := by simp; omega
      obtain ⟨b, off, rfl, hbw, hc0, hc1, hc2⟩ := filesAt_keep HF.out HB.out k hlt
      obtain ⟨F, HFk⟩ : ∃ F, Hid (fs[k] = F) := ⟨fs[k], hide rfl⟩
      rw [HFk.out] at hc0 hc1 hc2
      have hi0 : (0 : Int) ≤ (k : Int) := by omega
      have hi1 : (k : Int) < (fs.length : Int) := by omega
      go_wp2_with fail
      refine (toFile_any F _).mono ?_
      rintro e w1 ⟨rfl, b1⟩
      have HB1 := hide (HB.out.trans (b1.mono HB.out.size))
      have hlt1 : w.heap.size < wr.heap.size := by
        rcases Nat.lt_or_ge w.heap.size wr.heap.size with h | h
        · exact h
        · have := HC.out; rw [Array.getElem?_eq_none h] at this; cases this
      have hC1 : w1.heap[w.heap.size]? = some (.cells C 109 (0, 0)) := (b1.block _ hlt1).trans HC.out
      clear b1 hc0 hc1 hc2
      have hq0 := cell_of_row w1 w.heap.size (k * 3) C 109 (0, 0) hC1
      have hq1 := cell_of_row w1 w.heap.size (k * 3 + 1) C 109 (0, 0) hC1
      have hq2 := cell_of_row w1 w.heap.size (k * 3 + 2) C 109 (0, 0) hC1
      have hf0 := frozen_of_row w1 w.heap.size (k * 3) C 109 hC1
      have hf1 := frozen_of_row w1 w.heap.size (k * 3 + 1) C 109 hC1
      have hf2 := frozen_of_row w1 w.heap.size (k * 3 + 2) C 109 hC1
      rw [Array.getElem?_eq_getElem (by omega)] at hq0 hq1 hq2
      have HC1 := hide hC1
      clear hC1
      have HN : Hid (FilesIn (putFile C k F) fs (k + 1)) := by have := filesIn_put HI.out hlt hCs; rw [HFk.out] at this; exact this
      have HC2 := hide (file_stored (k := k) F HC1.out)
      have HB2 := hide (((HB1.out.setCell (p := ⟨w.heap.size, k * 3, none⟩) (Nat.le_refl _) (.string F.name)).setCell (p := ⟨w.heap.size, k * 3 + 1, none⟩) (Nat.le_refl _) (.string F.text)).setCell (p := ⟨w.heap.size, k * 3 + 2, none⟩) (Nat.le_refl _) (.int .i64 F.kept))
      go_wp2_with fail
      go_roundw
      case rel => exact ⟨k + 1, putFile C k F, by go_num, by omega, HC2, by rw [putFile_size]; exact hCs, HN, HB2⟩
      case measure => simp [intOf]; omega
    · have hlt' : decide ((k : Int) < (fs.length : Int)) = false := by simp; omega
      have hke : k = fs.length := by omega
      subst hke
      go_wp2
      go_ret
      exact ⟨⟨C, rfl, HC.out, hCs, HI.out⟩, HB.out⟩
theorem filesAt_own {w : World} {g : Nat} {C : Array Value} {t : TypeId} {fs : List FileD} (h : w.heap[g]? = some (.cells C t (0, 0))) (hC : FilesIn C fs fs.length) : FilesAt w (some ⟨g, 0, none⟩) fs := by
  intro j hj
  obtain ⟨h1, h2, h3⟩ := hC j hj hj
  have hg : g < w.heap.size := (Array.getElem?_eq_some_iff.1 h).1
  refine ⟨g, 0, rfl, hg, ?_, ?_, ?_⟩
  · rw [Nat.zero_add, cell_of_row w g _ C t (0, 0) h, h1]
  · rw [Nat.zero_add, cell_of_row w g _ C t (0, 0) h, h2]
  · rw [Nat.zero_add, cell_of_row w g _ C t (0, 0) h, h3]
theorem toDisk_any (fs : List FileD) (ao : Option Addr) (cap : Nat) (w : World) (hl : fs.length ≤ 1048576) (hfs : FilesAt w ao fs) :
    Calls Tryz.prog 28 #[.agg #[.slice ao fs.length cap]] w fun e w' => (∃ (g : Nat) (C : Array Value), e = .returned (.agg #[.slice (some ⟨g, 0, none⟩) fs.length fs.length]) ∧ w.heap.size ≤ g ∧ w'.heap[g]? = some (.cells C 109 (0, 0)) ∧ C.size = fs.length * 3 ∧ FilesIn C fs fs.length) ∧ Below w.heap.size w w' := by
  have HF := hide hfs
  clear hfs
  go_enter Tryz.func28, Tryz.ntmps28
  go_wp2_with fail
  refine (toFileS_any fs ao cap _ hl (filesAt_keep HF.out ((((Below.refl _ w).alloc (Nat.le_refl _) _).alloc (by simp) _).alloc (by simp; omega) _))).mono ?_
  rintro e w1 ⟨⟨C, rfl, hC, hCs, hI⟩, b1⟩
  have hs1 : w.heap.size + 1 + 1 + 1 ≤ w1.heap.size := by have := b1.size; simpa using this
  have hq : w1.heap[w.heap.size + 1 + 1]? = some (.cells #[.slice none 0 0] 31 (0, 0)) := (b1.block _ (by simp)).trans (by rw [show w.heap.size + 1 + 1 = ((w.alloc (.cells #[.slice ao fs.length cap] 24)).alloc (.cells #[.slice none 0 0] 31)).heap.size from by simp]; exact heap_alloc_new _ _)
  have hr : w1.heap[w.heap.size + 1]? = some (.cells #[.slice none 0 0] 31 (0, 0)) := (b1.block _ (by simp)).trans (by rw [World.alloc, Array.getElem?_push_lt (by simp), ← Array.getElem?_eq_getElem, show w.heap.size + 1 = (w.alloc (.cells #[.slice ao fs.length cap] 24)).heap.size from by simp]; exact heap_alloc_new _ _)
  obtain ⟨G, hG⟩ : ∃ G, G = (((w.alloc (.cells #[.slice ao fs.length cap] 24)).alloc (.cells #[.slice none 0 0] 31)).alloc (.cells #[.slice none 0 0] 31)).heap.size := ⟨_, rfl⟩
  have hGn : G = w.heap.size + 1 + 1 + 1 := by rw [hG]; simp
  rw [← hG] at hC b1 ⊢
  have HBB : Hid (Below w.heap.size w w1) := (((((Below.refl _ w).alloc (Nat.le_refl _) _).alloc (by simp) _).alloc (by simp; omega) _)).trans (b1.mono (by omega))
  clear b1 hG
  have hq0 := cell_of_row w1 (w.heap.size + 1 + 1) 0 _ _ (0, 0) hq
  have hf0 := frozen_of_row w1 (w.heap.size + 1 + 1) 0 _ _ hq
  have hr0 := cell_of_row w1 (w.heap.size + 1) 0 _ _ (0, 0) hr
  have hg0 := frozen_of_row w1 (w.heap.size + 1) 0 _ _ hr
  have HC := hide hC
  have HI := hide hI
  have HGn := hide hGn
  clear hC hI hGn hq hr
  go_wp2_with fail
  have hne : (w.heap.size + 1 + 1) ≠ (w.heap.size + 1) := by omega
  refine bodyPost_ret (v := .agg #[.slice (some ⟨G, 0, none⟩) fs.length fs.length]) (by simp [results, Tryz.results28, go_sem, hr0]) rfl ⟨⟨G, C, rfl, by have := HGn.out; omega, ?_, hCs, HI.out⟩, ?_⟩
  · rw [Below.heap_setCell _ _ _ _ (by have := HGn.out; simp; omega), Below.heap_setCell _ _ _ _ (by have := HGn.out; simp; omega)]; exact HC.out
  · exact (HBB.out.setCell (p := ⟨w.heap.size + 1 + 1, 0, none⟩) (by simp; omega) _).setCell (p := ⟨w.heap.size + 1, 0, none⟩) (by simp) _
theorem eqFileS_same (fs : List FileD) (ao ao2 : Option Addr) (cap cap2 : Nat) (w : World) (hl : fs.length ≤ maxLen) (h1 : FilesAt w ao fs) (h2 : FilesAt w ao2 fs) :
    Calls Tryz.prog 82 #[.slice ao fs.length cap, .slice ao2 fs.length cap2] w fun e w' => e = .returned (.bool true) ∧ Below w.heap.size w w' := by
  have H1 := hide h1
  have H2 := hide h2
  clear h1 h2
  unfold maxLen at hl
  have hne : (!((fs.length : Int) == (fs.length : Int))) = false := by simp
  go_enter Tryz.func82, Tryz.ntmps82
  go_wp2
  go_loopw [5] (fun ii wr => ∃ (k : Nat), ii = .int .i64 k ∧ k ≤ fs.length ∧ Hid (Below w.heap.size w wr)) (fun ii _ => fs.length - (intOf ii).toNat)
  case atStart => exact ⟨0, rfl, Nat.zero_le _, Below.refl _ _⟩
  case round =>
    obtain ⟨k, rfl, hk, HB⟩ := hrel
    by_cases hlt : k < fs.length
    · have hlt' : decide ((k : Int) < (fs.length : Int)) = true := by simp; omega
      obtain ⟨b, off, rfl, hbw, hc0, hc1, hc2⟩ := filesAt_keep H1.out HB.out k hlt
      obtain ⟨b', off', rfl, hbw', hd0, hd1, hd2⟩ := filesAt_keep H2.out HB.out k hlt
      generalize fs[k] = F at hc0 hc1 hc2 hd0 hd1 hd2
      have hi0 : (0 : Int) ≤ (k : Int) := by omega
      have hi1 : (k : Int) < (fs.length : Int) := by omega
      have hi2 : decide ((k : Int) < (fs.length : Int)) = true := by simp; omega
      have HBw := hide hbw
      have HBw' := hide hbw'
      clear hbw hbw'
      go_wp2_with fail
      go_region_held3 (fun w' => w'.cell? ⟨b, off + k * 3, none⟩ = some (.string F.name) ∧ w'.cell? ⟨b, off + k * 3 + 1, none⟩ = some (.string F.text) ∧ w'.cell? ⟨b, off + k * 3 + 2, none⟩ = some (.int .i64 F.kept) ∧ w'.cell? ⟨b', off' + k * 3, none⟩ = some (.string F.name) ∧ w'.cell? ⟨b', off' + k * 3 + 1, none⟩ = some (.string F.text) ∧ w'.cell? ⟨b', off' + k * 3 + 2, none⟩ = some (.int .i64 F.kept)) (first | go_keep | (exact ⟨(b1.cell (p := ⟨b, off + k * 3, none⟩) HBw.out).trans hc0, (b1.cell (p := ⟨b, off + k * 3 + 1, none⟩) HBw.out).trans hc1, (b1.cell (p := ⟨b, off + k * 3 + 2, none⟩) HBw.out).trans hc2, (b1.cell (p := ⟨b', off' + k * 3, none⟩) HBw'.out).trans hd0, (b1.cell (p := ⟨b', off' + k * 3 + 1, none⟩) HBw'.out).trans hd1, (b1.cell (p := ⟨b', off' + k * 3 + 2, none⟩) HBw'.out).trans hd2⟩)) ((go_at_call 121; refine (eqFile_same F _).mono ?_; rintro e w1 ⟨rfl, b1⟩))
      go_wp2
      go_roundw
      case rel => exact ⟨k + 1, by go_num, by omega, HB.out.trans (((Below.refl _ _).drew.trans b1).mono HB.out.size)⟩
      case measure => simp [intOf]; omega
    · have hlt' : decide ((k : Int) < (fs.length : Int)) = false := by simp; omega
      go_wp2
      go_ret
      exact ⟨rfl, HB.out⟩
theorem eqDisk_same (fs : List FileD) (ao ao2 : Option Addr) (cap cap2 : Nat) (w : World) (hl : fs.length ≤ maxLen) (h1 : FilesAt w ao fs) (h2 : FilesAt w ao2 fs) :
    Calls Tryz.prog 32 #[.agg #[.slice ao fs.length cap], .agg #[.slice ao2 fs.length cap2]] w fun e w' => e = .returned (.bool true) ∧ Below w.heap.size w w' := by
  have H1 := hide h1
  have H2 := hide h2
  clear h1 h2
  go_enter Tryz.func32, Tryz.ntmps32
  go_wp2_with fail
  have b0 := ((Below.refl _ w).alloc (Nat.le_refl _) (.cells #[.slice ao fs.length cap] 31)).alloc (by simp) (.cells #[.slice ao2 fs.length cap2] 31)
  refine (eqFileS_same fs ao ao2 cap cap2 _ hl (filesAt_keep H1.out b0) (filesAt_keep H2.out b0)).mono ?_
  rintro e w1 ⟨rfl, b1⟩
  have HB := hide (b0.trans (b1.mono b0.size))
  clear b0 b1
  go_wp2
  go_ret
  exact ⟨rfl, HB.out⟩
def nameOkD (s : ByteArray) : Bool := decide (1 ≤ s.size) && decide (s.size ≤ 8)
def fileOkD (F : FileD) : Bool := nameOkD F.name && (decide (F.text.size ≤ 20000) && (decide (0 ≤ F.kept) && decide (F.kept ≤ F.text.size)))
def okFrom : Option ByteArray → List FileD → Bool
  | _, [] => true
  | none, F :: r => fileOkD F && okFrom (some F.name) r
  | some p, F :: r => fileOkD F && (Op.bytesLess p.toList F.name.toList && okFrom (some F.name) r)
def diskOkD (fs : List FileD) : Bool := decide (fs.length ≤ 30) && okFrom none fs
def prevOf (fs : List FileD) : Nat → Option ByteArray
  | 0 => none
  | k + 1 => fs[k]?.map FileD.name
theorem okFrom_bad {fs : List FileD} {k : Nat} (h : k < fs.length) (hF : fileOkD fs[k] = false) : okFrom (prevOf fs k) (fs.drop k) = false := by
  rw [List.drop_eq_getElem_cons h]
  cases prevOf fs k <;> simp [okFrom, hF]
theorem okFrom_first {fs : List FileD} (h : 0 < fs.length) (hF : fileOkD fs[0] = true) : okFrom (prevOf fs 0) (fs.drop 0) = okFrom (prevOf fs 1) (fs.drop 1) := by
  rw [List.drop_eq_getElem_cons h]
  simp [okFrom, prevOf, hF, h]
theorem okFrom_more {fs : List FileD} {k : Nat} (h : k < fs.length) (hk : 0 < k) (hF : fileOkD fs[k] = true) : okFrom (prevOf fs k) (fs.drop k) = (Op.bytesLess fs[k - 1].name.toList fs[k].name.toList && okFrom (prevOf fs (k + 1)) (fs.drop (k + 1))) := by
  obtain ⟨j, rfl⟩ : ∃ j, k = j + 1 := ⟨k - 1, by omega⟩
  rw [List.drop_eq_getElem_cons h]
  have e1 : prevOf fs (j + 1) = some fs[j].name := by simp [prevOf, show j < fs.length from by omega]
  have e2 : prevOf fs (j + 1 + 1) = some fs[j + 1].name := by simp [prevOf, h]
  rw [e1, e2]
  simp [okFrom, hF]
theorem okFrom_end {fs : List FileD} {k : Nat} (h : fs.length ≤ k) : okFrom (prevOf fs k) (fs.drop k) = true := by
  rw [List.drop_eq_nil_of_le h]
  cases prevOf fs k <;> simp [okFrom]
theorem l03Name_any (s : ByteArray) (w : World) (hs : s.size ≤ maxLen) : Calls Tryz.prog 60 #[.string s] w fun e w' => e = .returned (.bool (nameOkD s)) ∧ w' = w := by
  unfold maxLen at hs
  have e : nameOkD s = (decide ((1 : Int) ≤ (s.size : Int)) && decide ((s.size : Int) ≤ 8)) := by
    unfold nameOkD
    congr 1
    · rw [decide_eq_decide]; omega
    · rw [decide_eq_decide]; omega
  rw [e]
  go_enter Tryz.func60, Tryz.ntmps60
  go_wp2_with fail
  refine (l01In_any _ _ _ _).mono ?_
  rintro e w' ⟨rfl, rfl⟩
  go_wp2
  go_ret
  exact ⟨rfl, rfl⟩
theorem nameOk_any (s : ByteArray) (w : World) (hs : s.size ≤ maxLen) : Calls Tryz.prog 154 #[.string s] w fun e w' => e = .returned (.bool (nameOkD s)) ∧ w' = w := by
  unfold maxLen at hs
  have e : nameOkD s = (decide ((1 : Int) ≤ (s.size : Int)) && decide ((s.size : Int) ≤ 8)) := by
    unfold nameOkD
    congr 1
    · rw [decide_eq_decide]; omega
    · rw [decide_eq_decide]; omega
  rw [e]
  by_cases h : (1 : Int) ≤ (s.size : Int)
  · have h' : decide ((1 : Int) ≤ (s.size : Int)) = true := by simp; omega
    rw [h', Bool.true_and]
    go_enter Tryz.func154, Tryz.ntmps154
    go_wp2
    go_ret
    exact ⟨rfl, rfl⟩
  · have h' : decide ((1 : Int) ≤ (s.size : Int)) = false := by simp; omega
    rw [h', Bool.false_and]
    go_enter Tryz.func154, Tryz.ntmps154
    go_wp2
    go_ret
    exact ⟨rfl, rfl⟩
theorem fileOk_any (F : FileD) (w : World) (hs : F.name.size ≤ maxLen) (ht : F.text.size ≤ maxLen) : Calls Tryz.prog 158 #[.agg #[.string F.name, .string F.text, .int .i64 F.kept]] w fun e w' => e = .returned (.bool (fileOkD F)) ∧ Below w.heap.size w w' := by
  obtain ⟨a, b, k⟩ := F
  simp only [fileOkD] at *
  unfold maxLen at ht
  have et : decide (b.size ≤ 20000) = decide ((b.size : Int) ≤ 20000) := by rw [decide_eq_decide]; omega
  rw [et]
  cases h1 : nameOkD a
  · rw [Bool.false_and]
    go_enter Tryz.func158, Tryz.ntmps158
    go_wp2_with fail
    refine (nameOk_any _ _ hs).mono ?_
    rintro e w' ⟨rfl, rfl⟩
    rw [h1]
    go_wp2
    go_ret
    exact ⟨rfl, (Below.refl _ w).alloc (Nat.le_refl _) _⟩
  · rw [Bool.true_and]
    cases h2 : decide ((b.size : Int) ≤ 20000)
    · rw [Bool.false_and]
      go_enter Tryz.func158, Tryz.ntmps158
      go_wp2_with fail
      refine (nameOk_any _ _ hs).mono ?_
      rintro e w' ⟨rfl, rfl⟩
      rw [h1]
      go_wp2
      go_ret
      exact ⟨rfl, (Below.refl _ w).alloc (Nat.le_refl _) _⟩
    · rw [Bool.true_and]
      cases h3 : decide (0 ≤ k)
      · rw [Bool.false_and]
        go_enter Tryz.func158, Tryz.ntmps158
        go_wp2_with fail
        refine (nameOk_any _ _ hs).mono ?_
        rintro e w' ⟨rfl, rfl⟩
        rw [h1]
        go_wp2
        go_ret
        exact ⟨rfl, (Below.refl _ w).alloc (Nat.le_refl _) _⟩
      · rw [Bool.true_and]
        go_enter Tryz.func158, Tryz.ntmps158
        go_wp2_with fail
        refine (nameOk_any _ _ hs).mono ?_
        rintro e w' ⟨rfl, rfl⟩
        rw [h1]
        go_wp2
        go_ret
        exact ⟨rfl, (Below.refl _ w).alloc (Nat.le_refl _) _⟩
def staysI (F : FileD) (n : Int) : Int := if n > (F.text.size : Int) then (if (F.text.size : Int) < F.kept then F.kept else (F.text.size : Int)) else if n < F.kept then F.kept else n
def lostF (F : FileD) (n : Int) : FileD := ⟨F.name, F.text.extract 0 (staysI F n).toNat, staysI F n⟩
def lostD : List FileD → List Int → List FileD
  | [], _ => []
  | F :: r, [] => lostF F 0 :: lostD r []
  | F :: r, n :: l => lostF F n :: lostD r l
theorem lostD_length : ∀ (fs : List FileD) (ls : List Int), (lostD fs ls).length = fs.length
  | [], _ => rfl
  | F :: r, [] => by simp [lostD, lostD_length r []]
  | F :: r, n :: l => by simp [lostD, lostD_length r l]
theorem lostD_get : ∀ (fs : List FileD) (ls : List Int) (k : Nat) (h : k < fs.length), (lostD fs ls)[k]? = some (lostF fs[k] (ls.getD k 0))
  | [], _, _, h => absurd h (by simp)
  | F :: r, [], 0, _ => by simp [lostD]
  | F :: r, n :: l, 0, _ => by simp [lostD]
  | F :: r, [], k + 1, h => by
    have := lostD_get r [] k (by simpa using h)
    simpa [lostD] using this
  | F :: r, n :: l, k + 1, h => by
    have := lostD_get r l k (by simpa using h)
    simpa [lostD] using this
theorem lostD_take (fs : List FileD) (ls : List Int) (k : Nat) (h : k < fs.length) : (lostD fs ls).take (k + 1) = (lostD fs ls).take k ++ [lostF fs[k] (ls.getD k 0)] := by
  rw [List.take_add_one, lostD_get fs ls k h]; rfl
theorem lostD_takeLen (fs : List FileD) (ls : List Int) (k : Nat) (h : k ≤ fs.length) : ((lostD fs ls).take k).length = k := by
  rw [List.length_take, lostD_length]; omega
theorem okFrom_mem : ∀ (fs : List FileD) (p : Option ByteArray), okFrom p fs = true → ∀ F ∈ fs, fileOkD F = true
  | [], _, _, _, h => absurd h List.not_mem_nil
  | G :: r, none, h, F, hF => by
    simp only [okFrom, Bool.and_eq_true] at h
    rcases List.mem_cons.1 hF with rfl | hF
    · exact h.1
    · exact okFrom_mem r _ h.2 F hF
  | G :: r, some p, h, F, hF => by
    simp only [okFrom, Bool.and_eq_true] at h
    rcases List.mem_cons.1 hF with rfl | hF
    · exact h.1
    · exact okFrom_mem r _ h.2.2 F hF
theorem ok_file {F : FileD} (h : fileOkD F = true) : 1 ≤ F.name.size ∧ F.name.size ≤ 8 ∧ F.text.size ≤ 20000 ∧ 0 ≤ F.kept ∧ F.kept ≤ F.text.size := by
  simp only [fileOkD, nameOkD, Bool.and_eq_true, decide_eq_true_eq] at h
  omega
theorem disk_files {fs : List FileD} (h : diskOkD fs = true) : fs.length ≤ 30 ∧ ∀ F ∈ fs, 1 ≤ F.name.size ∧ F.name.size ≤ 8 ∧ F.text.size ≤ 20000 ∧ 0 ≤ F.kept ∧ F.kept ≤ F.text.size := by
  simp only [diskOkD, Bool.and_eq_true, decide_eq_true_eq] at h
  exact ⟨h.1, fun F hF => ok_file (okFrom_mem fs none h.2 F hF)⟩
theorem stays_bd {F : FileD} (n : Int) (h0 : 0 ≤ F.kept) (h1 : F.kept ≤ F.text.size) : 0 ≤ staysI F n ∧ F.kept ≤ staysI F n ∧ staysI F n ≤ F.text.size := by
  unfold staysI; split
  · split <;> omega
  · split <;> omega
end Go.Proofs.YtlcfblodflgleaaGreatDoor
namespace Go.Proofs.YtlcfblodflgleaaGreatDoor
open Go.RowKit Go.Maps
def kl (s : ByteArray) : Lit := .string s.data.toList
theorem kl_inj {a b : ByteArray} (h : kl a = kl b) : a = b := by
  unfold kl at h
  cases a; cases b
  simp at h
  simp [h]
theorem kl_ne {a b : ByteArray} (h : a ≠ b) : kl a ≠ kl b := fun e => h (kl_inj e)
theorem kl_key (s : ByteArray) : WideAt.IsKeyLit (kl s) := by
  unfold kl
  exact trivial
theorem toList_ne {a b : ByteArray} : (a.toList == b.toList) = false ↔ a ≠ b := by
  rw [beq_eq_false_iff_ne]
  constructor
  · intro h e; exact h (by rw [e])
  · intro h e; exact h (by rw [Lib.toList_data, Lib.toList_data] at e; cases a; cases b; simp at e; simp [e])
theorem less_trans {a b c : List UInt8} (h1 : Op.bytesLess a b = true) (h2 : Op.bytesLess b c = true) : Op.bytesLess a c = true := by
  rw [Go.Proofs.bytesLess_eq, decide_eq_true_eq] at *
  exact List.lt_trans h1 h2
theorem less_irrefl (a : List UInt8) : Op.bytesLess a a = false := by
  rw [Go.Proofs.bytesLess_eq, decide_eq_false_iff_not]
  exact List.lt_irrefl a
theorem less_total {a b : List UInt8} (h1 : Op.bytesLess a b = false) (h2 : a ≠ b) : Op.bytesLess b a = true := by
  rw [Go.Proofs.bytesLess_eq] at *
  rw [decide_eq_true_eq]
  rw [decide_eq_false_iff_not] at h1
  exact Decidable.byContradiction fun h => h2 (List.le_antisymm (List.not_lt.1 h) (List.not_lt.1 h1))
end Go.Proofs.YtlcfblodflgleaaGreatDoor
namespace Go.Proofs.YtlcfblodflgleaaGreatDoor
open Go.RowKit
def lessF (nm : ByteArray) (F : FileD) : Bool := Op.bytesLess F.name.toList nm.toList
def moreF (nm : ByteArray) (F : FileD) : Bool := !(Op.bytesLess F.name.toList nm.toList || F.name.toList == nm.toList)
def otherF (nm : ByteArray) (F : FileD) : Bool := !(F.name.toList == nm.toList)
def putD (fs : List FileD) (F : FileD) : List FileD := fs.filter (lessF F.name) ++ [F] ++ fs.filter (moreF F.name)
def withoutD (fs : List FileD) (nm : ByteArray) : List FileD := fs.filter (otherF nm)
theorem filter_next {fs : List FileD} {k : Nat} (p : FileD → Bool) (h : k < fs.length) : (fs.take (k + 1)).filter p = (fs.take k).filter p ++ (if p fs[k] = true then [fs[k]] else []) := by
  rw [List.take_add_one, List.getElem?_eq_getElem h, List.filter_append]
  congr 1
  simp only [Option.toList, List.filter_cons, List.filter_nil]
theorem filter_le {fs : List FileD} (p : FileD → Bool) (k : Nat) : ((fs.take k).filter p).length ≤ fs.length :=
  Nat.le_trans (List.length_filter_le _ _) (by rw [List.length_take]; omega)
def srt (fs : List FileD) : Prop := fs.Pairwise (fun a b => Op.bytesLess a.name.toList b.name.toList = true)
theorem okFrom_some : ∀ (fs : List FileD) (p : ByteArray), okFrom (some p) fs = true ↔ ((∀ F ∈ fs, fileOkD F = true) ∧ (∀ F ∈ fs, Op.bytesLess p.toList F.name.toList = true) ∧ srt fs)
  | [], p => by simp [okFrom, srt]
  | F :: r, p => by
    simp only [okFrom, Bool.and_eq_true, okFrom_some r F.name, srt, List.pairwise_cons, List.mem_cons, forall_eq_or_imp]
    constructor
    · rintro ⟨h1, h2, h3, h4, h5⟩
      exact ⟨⟨h1, h3⟩, ⟨h2, fun G hG => less_trans h2 (h4 G hG)⟩, h4, h5⟩
    · rintro ⟨⟨h1, h3⟩, ⟨h2, _⟩, h4, h5⟩
      exact ⟨h1, h2, h3, h4, h5⟩
theorem okFrom_none (fs : List FileD) : okFrom none fs = true ↔ ((∀ F ∈ fs, fileOkD F = true) ∧ srt fs) := by
  cases fs with
  | nil => simp [okFrom, srt]
  | cons F r =>
    simp only [okFrom, Bool.and_eq_true, okFrom_some r F.name, srt, List.pairwise_cons, List.mem_cons, forall_eq_or_imp]
    constructor
    · rintro ⟨h1, h3, h4, h5⟩
      exact ⟨⟨h1, h3⟩, h4, h5⟩
    · rintro ⟨⟨h1, h3⟩, h4, h5⟩
      exact ⟨h1, h3, h4, h5⟩
theorem disk_iff (fs : List FileD) : diskOkD fs = true ↔ (fs.length ≤ 30 ∧ (∀ F ∈ fs, fileOkD F = true) ∧ srt fs) := by
  rw [diskOkD, Bool.and_eq_true, decide_eq_true_eq, okFrom_none]
theorem mem_putD {fs : List FileD} {F G : FileD} : G ∈ putD fs F ↔ (G ∈ fs ∧ lessF F.name G = true) ∨ G = F ∨ (G ∈ fs ∧ moreF F.name G = true) := by
  simp [putD]
theorem srt_putD {fs : List FileD} (F : FileD) (h : srt fs) : srt (putD fs F) := by
  unfold putD srt
  rw [List.pairwise_append, List.pairwise_append]
  refine ⟨⟨List.Pairwise.filter _ h, by simp, ?_⟩, List.Pairwise.filter _ h, ?_⟩
  · intro a ha b hb
    rw [List.mem_singleton] at hb
    subst hb
    exact (List.mem_filter.1 ha).2
  · intro a ha b hb
    have hb2 := (List.mem_filter.1 hb).2
    simp only [moreF, Bool.not_eq_true', Bool.or_eq_false_iff, beq_eq_false_iff_ne] at hb2
    have hFb : Op.bytesLess F.name.toList b.name.toList = true := less_total hb2.1 hb2.2
    rcases List.mem_append.1 ha with ha | ha
    · exact less_trans (List.mem_filter.1 ha).2 hFb
    · rw [List.mem_singleton] at ha
      subst ha
      exact hFb
theorem srt_without {fs : List FileD} (nm : ByteArray) (h : srt fs) : srt (withoutD fs nm) := List.Pairwise.filter _ h
theorem len_putD_le (fs : List FileD) (F : FileD) : (putD fs F).length ≤ fs.length + 1 := by
  have key : ∀ l : List FileD, (l.filter (lessF F.name)).length + (l.filter (moreF F.name)).length ≤ l.length := by
    intro l
    induction l with
    | nil => simp
    | cons G r ih =>
      simp only [List.filter_cons]
      by_cases h1 : lessF F.name G = true
      · have h2 : moreF F.name G = false := by simp only [lessF] at h1; simp [moreF, h1]
        simp [h1, h2]; omega
      · by_cases h2 : moreF F.name G = true
        · simp [h1, h2]; omega
        · simp [h1, h2]; omega
  have := key fs
  simp only [putD, List.length_append, List.length_singleton]
  omega
end Go.Proofs.YtlcfblodflgleaaGreatDoor
