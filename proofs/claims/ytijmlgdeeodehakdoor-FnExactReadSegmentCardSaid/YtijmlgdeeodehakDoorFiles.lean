/- Of: FileL FileL2 FileL3 FileL4 DiskP DiskI DiskS DiskK LawD0 L03At FileAt LoseP RowF. -/
import Derived.Test.YtijmlgdeeodehakDoorOne
import Derived.Laws.MakeOwn
/- Files as the laws hold them: how great they are. -/
namespace Go.Proofs.YtijmlgdeeodehakDoor
open Go.RowKit

/-- A file: its name, its text, how much of it is kept. -/
structure FileD where
  name : ByteArray
  text : ByteArray
  kept : Int

/-- A row of files in memory. -/
def FilesAt (w : World) (ao : Option Addr) (fs : List FileD) : Prop := ∀ j (h : j < fs.length), ∃ b off : Nat, ao = some ⟨b, off, none⟩ ∧ b < w.heap.size ∧
  w.cell? ⟨b, off + j * 3, none⟩ = some (.string fs[j].name) ∧ w.cell? ⟨b, off + j * 3 + 1, none⟩ = some (.string fs[j].text) ∧ w.cell? ⟨b, off + j * 3 + 2, none⟩ = some (.int .i64 fs[j].kept)

theorem filesAt_keep {w w' : World} {ao : Option Addr} {fs : List FileD} (h : FilesAt w ao fs) (hb : Below w.heap.size w w') : FilesAt w' ao fs := by
  intro j hj
  obtain ⟨b, off, h1, h2, h3, h4, h5⟩ := h j hj
  exact ⟨b, off, h1, Nat.lt_of_lt_of_le h2 hb.size, (hb.cell (p := ⟨b, off + j * 3, none⟩) h2).trans h3, (hb.cell (p := ⟨b, off + j * 3 + 1, none⟩) h2).trans h4, (hb.cell (p := ⟨b, off + j * 3 + 2, none⟩) h2).trans h5⟩

/-- What a file leaves of a measure; below 0: it is too great. -/
def szF (F : FileD) (n : Int) : Int := if n < F.name.size then -1 else if n < F.name.size + F.text.size then -1 else n - F.name.size - F.text.size

end Go.Proofs.YtijmlgdeeodehakDoor

/- Files as the laws hold them: measured, turned into the program's, held against each other. -/
namespace Go.Proofs.YtijmlgdeeodehakDoor
open Go.RowKit

/-- What files leave of a measure. -/
def szFs : List FileD → Int → Int
  | [], n => n
  | F :: r, n => if szF F n < 0 then -1 else szFs r (szF F n)

theorem szF_le (F : FileD) (n : Int) (h : 0 ≤ n) : szF F n ≤ n := by
  unfold szF; split
  · omega
  · split <;> omega

end Go.Proofs.YtijmlgdeeodehakDoor

/- Files as the laws hold them, turned into the program's own: a row of the call's own. -/
namespace Go.Proofs.YtijmlgdeeodehakDoor
open Go.RowKit

/-- The first k files stand in these cells. -/
def FilesIn (C : Array Value) (fs : List FileD) (k : Nat) : Prop := ∀ j (h : j < fs.length), j < k → C[j * 3]? = some (.string fs[j].name) ∧ C[j * 3 + 1]? = some (.string fs[j].text) ∧ C[j * 3 + 2]? = some (.int .i64 fs[j].kept)

/-- A file is put into its three cells. -/
def putFile (C : Array Value) (k : Nat) (F : FileD) : Array Value := ((C.setIfInBounds (k * 3) (.string F.name)).setIfInBounds (k * 3 + 1) (.string F.text)).setIfInBounds (k * 3 + 2) (.int .i64 F.kept)

theorem putFile_size (C : Array Value) (k : Nat) (F : FileD) : (putFile C k F).size = C.size := by simp [putFile]

theorem filesIn_put {C : Array Value} {fs : List FileD} {k : Nat} (h : FilesIn C fs k) (hk : k < fs.length) (hs : C.size = fs.length * 3) : FilesIn (putFile C k fs[k]) fs (k + 1) := by
  intro j hj hjk
  unfold putFile
  by_cases e : j = k
  · subst e
    refine ⟨?_, ?_, ?_⟩ <;> simp [Array.getElem?_setIfInBounds] <;> omega
  · obtain ⟨h1, h2, h3⟩ := h j hj (by omega)
    refine ⟨?_, ?_, ?_⟩
    · rw [Array.getElem?_setIfInBounds_ne (by omega), Array.getElem?_setIfInBounds_ne (by omega), Array.getElem?_setIfInBounds_ne (by omega)]; exact h1
    · rw [Array.getElem?_setIfInBounds_ne (by omega), Array.getElem?_setIfInBounds_ne (by omega), Array.getElem?_setIfInBounds_ne (by omega)]; exact h2
    · rw [Array.getElem?_setIfInBounds_ne (by omega), Array.getElem?_setIfInBounds_ne (by omega), Array.getElem?_setIfInBounds_ne (by omega)]; exact h3

theorem file_stored {w : World} {g k : Nat} {C : Array Value} {t : TypeId} (F : FileD) (h : w.heap[g]? = some (.cells C t (0, 0))) :
    (((w.setCell ⟨g, k * 3, none⟩ (.string F.name)).setCell ⟨g, k * 3 + 1, none⟩ (.string F.text)).setCell ⟨g, k * 3 + 2, none⟩ (.int .i64 F.kept)).heap[g]? = some (.cells (putFile C k F) t (0, 0)) :=
  heap_setCell_same _ g _ _ t _ (heap_setCell_same _ g _ _ t _ (heap_setCell_same w g _ C t _ h))

/-- A row of the call's own is a row. -/
theorem filesAt_own {w : World} {g : Nat} {C : Array Value} {t : TypeId} {fs : List FileD} (h : w.heap[g]? = some (.cells C t (0, 0))) (hC : FilesIn C fs fs.length) : FilesAt w (some ⟨g, 0, none⟩) fs := by
  intro j hj
  obtain ⟨h1, h2, h3⟩ := hC j hj hj
  have hg : g < w.heap.size := (Array.getElem?_eq_some_iff.1 h).1
  refine ⟨g, 0, rfl, hg, ?_, ?_, ?_⟩
  · rw [Nat.zero_add, cell_of_row w g _ C t (0, 0) h, h1]
  · rw [Nat.zero_add, cell_of_row w g _ C t (0, 0) h, h2]
  · rw [Nat.zero_add, cell_of_row w g _ C t (0, 0) h, h3]
end Go.Proofs.YtijmlgdeeodehakDoor

/- Disks as the laws hold them: turned into the program's, held against each other. -/
namespace Go.Proofs.YtijmlgdeeodehakDoor
open Go.RowKit

end Go.Proofs.YtijmlgdeeodehakDoor

/- Right disks, plainly; the small tests of the program and of the specification. -/
namespace Go.Proofs.YtijmlgdeeodehakDoor
open Go.RowKit

/-- A name of 1 to 8 bytes. -/
def nameOkD (s : ByteArray) : Bool := decide (1 ≤ s.size) && decide (s.size ≤ 8)
def fileOkD (F : FileD) : Bool := nameOkD F.name && (decide (F.text.size ≤ 20000) && (decide (0 ≤ F.kept) && decide (F.kept ≤ F.text.size)))

/-- Files in order behind a name, each right. -/
def okFrom : Option ByteArray → List FileD → Bool
  | _, [] => true
  | none, F :: r => fileOkD F && okFrom (some F.name) r
  | some p, F :: r => fileOkD F && (Op.bytesLess p.toList F.name.toList && okFrom (some F.name) r)

/-- A right disk. -/
def diskOkD (fs : List FileD) : Bool := decide (fs.length ≤ 30) && okFrom none fs

/-- The name ahead of the place k. -/
def prevOf (fs : List FileD) : Nat → Option ByteArray
  | 0 => none
  | k + 1 => fs[k]?.map FileD.name

theorem okFrom_bad {fs : List FileD} {k : Nat} (h : k < fs.length) (hF : fileOkD fs[k] = false) : okFrom (prevOf fs k) (fs.drop k) = false := by
  rw [List.drop_eq_getElem_cons h]
  cases prevOf fs k <;> simp [okFrom, hF]
theorem okFrom_first {fs : List FileD} (h : 0 < fs.length) (hF : fileOkD fs[0] = true) : okFrom (prevOf fs 0) (fs.drop 0) = okFrom (prevOf fs 1) (fs.drop 1) := by
  rw [List.drop_eq_getElem_cons h]
  simp [okFrom, prevOf, hF, h]
theorem okFrom_more {fs : List FileD} {k : Nat} (h : k < fs.length) (hk : 0 < k) (hF : fileOkD fs[k] = true) : okFrom (prevOf fs k) (fs.drop k) = (Op.bytesLess fs[k - 1].name.toList fs[k].name.toList && okFrom (prevOf fs (k + 1)) (fs.drop (k + 1))) := by
  obtain ⟨j, rfl⟩ : ∃ j, k = j + 1 := ⟨k - 1, by omega⟩
  rw [List.drop_eq_getElem_cons h]
  have e1 : prevOf fs (j + 1) = some fs[j].name := by simp [prevOf, show j < fs.length from by omega]
  have e2 : prevOf fs (j + 1 + 1) = some fs[j + 1].name := by simp [prevOf, h]
  rw [e1, e2]
  simp [okFrom, hF]
theorem okFrom_end {fs : List FileD} {k : Nat} (h : fs.length ≤ k) : okFrom (prevOf fs k) (fs.drop k) = true := by
  rw [List.drop_eq_nil_of_le h]
  cases prevOf fs k <;> simp [okFrom]

end Go.Proofs.YtijmlgdeeodehakDoor

/- The program's DiskOk. -/
namespace Go.Proofs.YtijmlgdeeodehakDoor
open Go.RowKit

end Go.Proofs.YtijmlgdeeodehakDoor

/- The specification's DiskOk. -/
namespace Go.Proofs.YtijmlgdeeodehakDoor
open Go.RowKit

end Go.Proofs.YtijmlgdeeodehakDoor

/- What is kept of files, the file of a name: plainly. -/
namespace Go.Proofs.YtijmlgdeeodehakDoor
open Go.RowKit

/-- All of each file is kept. -/
def keptD (fs : List FileD) : Bool := fs.all (fun F => !decide (F.kept < (F.text.size : Int)))
def allKeptD (fs : List FileD) : Bool := diskOkD fs && keptD fs

theorem kept_bad {fs : List FileD} {k : Nat} (h : k < fs.length) (hF : decide (fs[k].kept < (fs[k].text.size : Int)) = true) : keptD (fs.drop k) = false := by
  rw [List.drop_eq_getElem_cons h, keptD, List.all_cons, hF]; rfl
theorem kept_more {fs : List FileD} {k : Nat} (h : k < fs.length) (hF : decide (fs[k].kept < (fs[k].text.size : Int)) = false) : keptD (fs.drop k) = keptD (fs.drop (k + 1)) := by
  rw [List.drop_eq_getElem_cons h, keptD, List.all_cons, hF]; rfl
theorem kept_end {fs : List FileD} {k : Nat} (h : fs.length ≤ k) : keptD (fs.drop k) = true := by
  rw [List.drop_eq_nil_of_le h]; rfl

/-- The place of the first file of a name, from k on; -1 where there is none. -/
def atFrom (name : ByteArray) : Nat → List FileD → Int
  | _, [] => -1
  | k, F :: r => if (F.name.toList == name.toList) = true then (k : Int) else atFrom name (k + 1) r
theorem at_hit {fs : List FileD} {name : ByteArray} {k : Nat} (h : k < fs.length) (hF : (fs[k].name.toList == name.toList) = true) : atFrom name k (fs.drop k) = k := by
  rw [List.drop_eq_getElem_cons h, atFrom, if_pos hF]
theorem at_miss {fs : List FileD} {name : ByteArray} {k : Nat} (h : k < fs.length) (hF : (fs[k].name.toList == name.toList) = false) : atFrom name k (fs.drop k) = atFrom name (k + 1) (fs.drop (k + 1)) := by
  rw [List.drop_eq_getElem_cons h, atFrom, if_neg (by rw [hF]; decide)]
theorem at_end {fs : List FileD} {name : ByteArray} {k : Nat} (h : fs.length ≤ k) : atFrom name k (fs.drop k) = -1 := by
  rw [List.drop_eq_nil_of_le h]; rfl

theorem at_cases (name : ByteArray) : ∀ (fs : List FileD) (k : Nat), (atFrom name k fs = -1 ∧ ∀ F ∈ fs, (F.name.toList == name.toList) = false) ∨ (∃ j, ∃ h : j < fs.length, atFrom name k fs = ((k + j : Nat) : Int) ∧ (fs[j].name.toList == name.toList) = true ∧ fs.find? (fun F => F.name.toList == name.toList) = some fs[j])
  | [], _ => .inl ⟨rfl, fun _ h => absurd h (List.not_mem_nil)⟩
  | F :: r, k => by
    cases hF : (F.name.toList == name.toList)
    · rcases at_cases name r (k + 1) with ⟨h1, h2⟩ | ⟨j, h, h1, h2, h3⟩
      · refine .inl ⟨by rw [atFrom, if_neg (by rw [hF]; decide)]; exact h1, ?_⟩
        intro G hG
        rcases List.mem_cons.1 hG with rfl | hG
        · exact hF
        · exact h2 G hG
      · refine .inr ⟨j + 1, by simp; omega, ?_, ?_, ?_⟩
        · rw [atFrom, if_neg (by rw [hF]; decide), h1]; congr 1; omega
        · simpa using h2
        · rw [List.find?_cons, hF]; simpa using h3
    · refine .inr ⟨0, by simp, by rw [atFrom, if_pos hF]; rfl, hF, by rw [List.find?_cons, hF]; rfl⟩

/-- The first file of a name. -/
def fileD (fs : List FileD) (name : ByteArray) : Option FileD := fs.find? (fun F => F.name.toList == name.toList)
theorem fileD_hit {fs : List FileD} {name : ByteArray} {k : Nat} (h : k < fs.length) (hF : (fs[k].name.toList == name.toList) = true) : fileD (fs.drop k) name = some fs[k] := by
  rw [List.drop_eq_getElem_cons h, fileD, List.find?_cons, hF]
theorem fileD_miss {fs : List FileD} {name : ByteArray} {k : Nat} (h : k < fs.length) (hF : (fs[k].name.toList == name.toList) = false) : fileD (fs.drop k) name = fileD (fs.drop (k + 1)) name := by
  rw [List.drop_eq_getElem_cons h, fileD, List.find?_cons, hF]; rfl
theorem fileD_end {fs : List FileD} {name : ByteArray} {k : Nat} (h : fs.length ≤ k) : fileD (fs.drop k) name = none := by
  rw [List.drop_eq_nil_of_le h]; rfl

theorem small_max {n : Nat} (h : n ≤ 1048576) : n ≤ maxLen := by unfold maxLen; omega
end Go.Proofs.YtijmlgdeeodehakDoor

/- Small facts for the laws of files. -/
namespace Go.Proofs.YtijmlgdeeodehakDoor
open Go.RowKit

theorem szFs_small : ∀ (fs : List FileD) (n : Int), n ≤ 1048576 → 0 ≤ n → 0 ≤ szFs fs n → ∀ F ∈ fs, F.name.size ≤ 1048576 ∧ F.text.size ≤ 1048576
  | [], _, _, _, _, F, h => absurd h List.not_mem_nil
  | G :: r, n, h1, h2, h3, F, h => by
    rw [szFs] at h3
    by_cases hneg : szF G n < 0
    · rw [if_pos hneg] at h3; omega
    · rw [if_neg hneg] at h3
      have hle := szF_le G n h2
      rcases List.mem_cons.1 h with rfl | h
      · unfold szF at hneg
        split at hneg
        · omega
        · split at hneg <;> omega
      · exact szFs_small r _ (by omega) (by omega) h3 F h

theorem box_cell (w : World) (v : Value) (t : TypeId) : (w.alloc (.cells #[v] t)).cell? ⟨w.heap.size, 0, none⟩ = some v := by rw [cell_of_row _ _ _ _ _ (0, 0) (heap_alloc_new w _)]; rfl
end Go.Proofs.YtijmlgdeeodehakDoor

/- The place of a file of a name. -/
namespace Go.Proofs.YtijmlgdeeodehakDoor
open Go.RowKit

end Go.Proofs.YtijmlgdeeodehakDoor

/- FileAt, the program's and the specification's. -/
namespace Go.Proofs.YtijmlgdeeodehakDoor
open Go.RowKit

end Go.Proofs.YtijmlgdeeodehakDoor

/- What the power leaves of files, plainly. -/
namespace Go.Proofs.YtijmlgdeeodehakDoor
open Go.RowKit

/-- How much of a file stays. -/
def staysI (F : FileD) (n : Int) : Int := if n > (F.text.size : Int) then (if (F.text.size : Int) < F.kept then F.kept else (F.text.size : Int)) else if n < F.kept then F.kept else n
def lostF (F : FileD) (n : Int) : FileD := ⟨F.name, F.text.extract 0 (staysI F n).toNat, staysI F n⟩

/-- What is left of files; ls: what is told of the rest. -/
def lostD : List FileD → List Int → List FileD
  | [], _ => []
  | F :: r, [] => lostF F 0 :: lostD r []
  | F :: r, n :: l => lostF F n :: lostD r l

theorem lostD_length : ∀ (fs : List FileD) (ls : List Int), (lostD fs ls).length = fs.length
  | [], _ => rfl
  | F :: r, [] => by simp [lostD, lostD_length r []]
  | F :: r, n :: l => by simp [lostD, lostD_length r l]
theorem lostD_get : ∀ (fs : List FileD) (ls : List Int) (k : Nat) (h : k < fs.length), (lostD fs ls)[k]? = some (lostF fs[k] (ls.getD k 0))
  | [], _, _, h => absurd h (by simp)
  | F :: r, [], 0, _ => by simp [lostD]
  | F :: r, n :: l, 0, _ => by simp [lostD]
  | F :: r, [], k + 1, h => by
    have := lostD_get r [] k (by simpa using h)
    simpa [lostD] using this
  | F :: r, n :: l, k + 1, h => by
    have := lostD_get r l k (by simpa using h)
    simpa [lostD] using this
theorem lostD_take (fs : List FileD) (ls : List Int) (k : Nat) (h : k < fs.length) : (lostD fs ls).take (k + 1) = (lostD fs ls).take k ++ [lostF fs[k] (ls.getD k 0)] := by
  rw [List.take_add_one, lostD_get fs ls k h]; rfl
theorem lostD_takeLen (fs : List FileD) (ls : List Int) (k : Nat) (h : k ≤ fs.length) : ((lostD fs ls).take k).length = k := by
  rw [List.length_take, lostD_length]; omega

theorem okFrom_mem : ∀ (fs : List FileD) (p : Option ByteArray), okFrom p fs = true → ∀ F ∈ fs, fileOkD F = true
  | [], _, _, _, h => absurd h List.not_mem_nil
  | G :: r, none, h, F, hF => by
    simp only [okFrom, Bool.and_eq_true] at h
    rcases List.mem_cons.1 hF with rfl | hF
    · exact h.1
    · exact okFrom_mem r _ h.2 F hF
  | G :: r, some p, h, F, hF => by
    simp only [okFrom, Bool.and_eq_true] at h
    rcases List.mem_cons.1 hF with rfl | hF
    · exact h.1
    · exact okFrom_mem r _ h.2.2 F hF

theorem ok_file {F : FileD} (h : fileOkD F = true) : 1 ≤ F.name.size ∧ F.name.size ≤ 8 ∧ F.text.size ≤ 20000 ∧ 0 ≤ F.kept ∧ F.kept ≤ F.text.size := by
  simp only [fileOkD, nameOkD, Bool.and_eq_true, decide_eq_true_eq] at h
  omega
theorem disk_files {fs : List FileD} (h : diskOkD fs = true) : fs.length ≤ 30 ∧ ∀ F ∈ fs, 1 ≤ F.name.size ∧ F.name.size ≤ 8 ∧ F.text.size ≤ 20000 ∧ 0 ≤ F.kept ∧ F.kept ≤ F.text.size := by
  simp only [diskOkD, Bool.and_eq_true, decide_eq_true_eq] at h
  exact ⟨h.1, fun F hF => ok_file (okFrom_mem fs none h.2 F hF)⟩

theorem stays_bd {F : FileD} (n : Int) (h0 : 0 ≤ F.kept) (h1 : F.kept ≤ F.text.size) : 0 ≤ staysI F n ∧ F.kept ≤ staysI F n ∧ staysI F n ≤ F.text.size := by
  unfold staysI; split
  · split <;> omega
  · split <;> omega
end Go.Proofs.YtijmlgdeeodehakDoor

/- Rows of files that a call has made itself: read, appended to. -/
namespace Go.Proofs.YtijmlgdeeodehakDoor
open Go.RowKit

/-- The cells of files. -/
def cellsF : List FileD → List Value
  | [] => []
  | F :: r => .string F.name :: .string F.text :: .int .i64 F.kept :: cellsF r
theorem cellsF_append : ∀ (a b : List FileD), cellsF (a ++ b) = cellsF a ++ cellsF b
  | [], _ => rfl
  | F :: r, b => by simp [cellsF, cellsF_append r b]
theorem cellsF_length : ∀ a : List FileD, (cellsF a).length = a.length * 3
  | [] => rfl
  | F :: r => by simp [cellsF, cellsF_length r]; omega
theorem cellsF_one : ∀ (a : List FileD), ∀ u ∈ cellsF a, u.oneCell' = true
  | [], u, h => absurd h List.not_mem_nil
  | F :: r, u, h => by
    simp only [cellsF, List.mem_cons] at h
    rcases h with rfl | rfl | rfl | h
    · rfl
    · rfl
    · rfl
    · exact cellsF_one r u h
theorem cellsF_get : ∀ (a : List FileD) (j : Nat) (h : j < a.length), (cellsF a)[j * 3]? = some (.string a[j].name) ∧ (cellsF a)[j * 3 + 1]? = some (.string a[j].text) ∧ (cellsF a)[j * 3 + 2]? = some (.int .i64 a[j].kept)
  | [], _, h => absurd h (by simp)
  | F :: r, 0, _ => by simp [cellsF]
  | F :: r, j + 1, h => by
    have := cellsF_get r j (by simpa using h)
    have e : (j + 1) * 3 = j * 3 + 3 := by omega
    simp only [cellsF, e]
    simpa using this

theorem take_get {C : Array Value} {xs : List Value} {n : Nat} (h : C.toList.take n = xs) {j : Nat} {u : Value} (hj : j < n) (hu : xs[j]? = some u) : C[j]? = some u := by
  rw [← h, List.getElem?_take_of_lt hj] at hu
  simpa using hu

end Go.Proofs.YtijmlgdeeodehakDoor
