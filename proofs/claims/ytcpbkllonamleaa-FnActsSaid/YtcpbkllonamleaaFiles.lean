/- Of: FileL FileL2 FileL3 FileL4 DiskP LoseP PutP DiskI DiskS Clone DiskK ActP ActQ RowF. -/
import Derived.Test.YtcpbkllonamleaaBase
import Derived.Laws.MakeOwn
import Derived.Sort.Walk0
import Derived.Lib.Strings
import Derived.Lib.Walk
import Derived.Lib.BufferWrite
import Derived.Lib.UnsafeStr
/- Files as the laws hold them: how great they are. -/
namespace Go.Proofs.Ytcpbkllonamleaa
open Go.RowKit

/-- A file: its name, its text, how much of it is kept. -/
structure FileD where
  name : ByteArray
  text : ByteArray
  kept : Int

/-- A row of files in memory. -/
def FilesAt (w : World) (ao : Option Addr) (fs : List FileD) : Prop := ∀ j (h : j < fs.length), ∃ b off : Nat, ao = some ⟨b, off, none⟩ ∧ b < w.heap.size ∧
  w.cell? ⟨b, off + j * 3, none⟩ = some (.string fs[j].name) ∧ w.cell? ⟨b, off + j * 3 + 1, none⟩ = some (.string fs[j].text) ∧ w.cell? ⟨b, off + j * 3 + 2, none⟩ = some (.int .i64 fs[j].kept)

theorem filesAt_keep {w w' : World} {ao : Option Addr} {fs : List FileD} (h : FilesAt w ao fs) (hb : Below w.heap.size w w') : FilesAt w' ao fs := by
  intro j hj
  obtain ⟨b, off, h1, h2, h3, h4, h5⟩ := h j hj
  exact ⟨b, off, h1, Nat.lt_of_lt_of_le h2 hb.size, (hb.cell (p := ⟨b, off + j * 3, none⟩) h2).trans h3, (hb.cell (p := ⟨b, off + j * 3 + 1, none⟩) h2).trans h4, (hb.cell (p := ⟨b, off + j * 3 + 2, none⟩) h2).trans h5⟩

/-- What a file leaves of a measure; below 0: it is too great. -/
def szF (F : FileD) (n : Int) : Int := if n < F.name.size then -1 else if n < F.name.size + F.text.size then -1 else n - F.name.size - F.text.size

end Go.Proofs.Ytcpbkllonamleaa

/- Files as the laws hold them: measured, turned into the program's, held against each other. -/
namespace Go.Proofs.Ytcpbkllonamleaa
open Go.RowKit

/-- What files leave of a measure. -/
def szFs : List FileD → Int → Int
  | [], n => n
  | F :: r, n => if szF F n < 0 then -1 else szFs r (szF F n)

theorem szF_le (F : FileD) (n : Int) (h : 0 ≤ n) : szF F n ≤ n := by
  unfold szF; split
  · omega
  · split <;> omega

end Go.Proofs.Ytcpbkllonamleaa

/- Files as the laws hold them, turned into the program's own: a row of the call's own. -/
namespace Go.Proofs.Ytcpbkllonamleaa
open Go.RowKit

/-- The first k files stand in these cells. -/
def FilesIn (C : Array Value) (fs : List FileD) (k : Nat) : Prop := ∀ j (h : j < fs.length), j < k → C[j * 3]? = some (.string fs[j].name) ∧ C[j * 3 + 1]? = some (.string fs[j].text) ∧ C[j * 3 + 2]? = some (.int .i64 fs[j].kept)

theorem Try.infoFile : (Try.prog.info? 36).map (fun i => (i.zero, i.size, i.bytes)) = some (some (.agg #[.string ⟨#[]⟩, .string ⟨#[]⟩, .int .i64 0]), 3, 40) := by kernel_rfl

/-- A file is put into its three cells. -/
def putFile (C : Array Value) (k : Nat) (F : FileD) : Array Value := ((C.setIfInBounds (k * 3) (.string F.name)).setIfInBounds (k * 3 + 1) (.string F.text)).setIfInBounds (k * 3 + 2) (.int .i64 F.kept)

theorem putFile_size (C : Array Value) (k : Nat) (F : FileD) : (putFile C k F).size = C.size := by simp [putFile]

theorem filesIn_put {C : Array Value} {fs : List FileD} {k : Nat} (h : FilesIn C fs k) (hk : k < fs.length) (hs : C.size = fs.length * 3) : FilesIn (putFile C k fs[k]) fs (k + 1) := by
  intro j hj hjk
  unfold putFile
  by_cases e : j = k
  · subst e
    refine ⟨?_, ?_, ?_⟩ <;> simp [Array.getElem?_setIfInBounds] <;> omega
  · obtain ⟨h1, h2, h3⟩ := h j hj (by omega)
    refine ⟨?_, ?_, ?_⟩
    · rw [Array.getElem?_setIfInBounds_ne (by omega), Array.getElem?_setIfInBounds_ne (by omega), Array.getElem?_setIfInBounds_ne (by omega)]; exact h1
    · rw [Array.getElem?_setIfInBounds_ne (by omega), Array.getElem?_setIfInBounds_ne (by omega), Array.getElem?_setIfInBounds_ne (by omega)]; exact h2
    · rw [Array.getElem?_setIfInBounds_ne (by omega), Array.getElem?_setIfInBounds_ne (by omega), Array.getElem?_setIfInBounds_ne (by omega)]; exact h3

theorem file_stored {w : World} {g k : Nat} {C : Array Value} {t : TypeId} (F : FileD) (h : w.heap[g]? = some (.cells C t (0, 0))) :
    (((w.setCell ⟨g, k * 3, none⟩ (.string F.name)).setCell ⟨g, k * 3 + 1, none⟩ (.string F.text)).setCell ⟨g, k * 3 + 2, none⟩ (.int .i64 F.kept)).heap[g]? = some (.cells (putFile C k F) t (0, 0)) :=
  heap_setCell_same _ g _ _ t _ (heap_setCell_same _ g _ _ t _ (heap_setCell_same w g _ C t _ h))

/-- A row of the call's own is a row. -/
theorem filesAt_own {w : World} {g : Nat} {C : Array Value} {t : TypeId} {fs : List FileD} (h : w.heap[g]? = some (.cells C t (0, 0))) (hC : FilesIn C fs fs.length) : FilesAt w (some ⟨g, 0, none⟩) fs := by
  intro j hj
  obtain ⟨h1, h2, h3⟩ := hC j hj hj
  have hg : g < w.heap.size := (Array.getElem?_eq_some_iff.1 h).1
  refine ⟨g, 0, rfl, hg, ?_, ?_, ?_⟩
  · rw [Nat.zero_add, cell_of_row w g _ C t (0, 0) h, h1]
  · rw [Nat.zero_add, cell_of_row w g _ C t (0, 0) h, h2]
  · rw [Nat.zero_add, cell_of_row w g _ C t (0, 0) h, h3]
end Go.Proofs.Ytcpbkllonamleaa

/- Disks as the laws hold them: turned into the program's, held against each other. -/
namespace Go.Proofs.Ytcpbkllonamleaa
open Go.RowKit

end Go.Proofs.Ytcpbkllonamleaa

/- Right disks, plainly; the small tests of the program and of the specification. -/
namespace Go.Proofs.Ytcpbkllonamleaa
open Go.RowKit

/-- A name of 1 to 8 bytes. -/
def nameOkD (s : ByteArray) : Bool := decide (1 ≤ s.size) && decide (s.size ≤ 8)
def fileOkD (F : FileD) : Bool := nameOkD F.name && (decide (F.text.size ≤ 20000) && (decide (0 ≤ F.kept) && decide (F.kept ≤ F.text.size)))

/-- Files in order behind a name, each right. -/
def okFrom : Option ByteArray → List FileD → Bool
  | _, [] => true
  | none, F :: r => fileOkD F && okFrom (some F.name) r
  | some p, F :: r => fileOkD F && (Op.bytesLess p.toList F.name.toList && okFrom (some F.name) r)

/-- A right disk. -/
def diskOkD (fs : List FileD) : Bool := decide (fs.length ≤ 30) && okFrom none fs

/-- The name ahead of the place k. -/
def prevOf (fs : List FileD) : Nat → Option ByteArray
  | 0 => none
  | k + 1 => fs[k]?.map FileD.name

theorem okFrom_bad {fs : List FileD} {k : Nat} (h : k < fs.length) (hF : fileOkD fs[k] = false) : okFrom (prevOf fs k) (fs.drop k) = false := by
  rw [List.drop_eq_getElem_cons h]
  cases prevOf fs k <;> simp [okFrom, hF]
theorem okFrom_first {fs : List FileD} (h : 0 < fs.length) (hF : fileOkD fs[0] = true) : okFrom (prevOf fs 0) (fs.drop 0) = okFrom (prevOf fs 1) (fs.drop 1) := by
  rw [List.drop_eq_getElem_cons h]
  simp [okFrom, prevOf, hF, h]
theorem okFrom_more {fs : List FileD} {k : Nat} (h : k < fs.length) (hk : 0 < k) (hF : fileOkD fs[k] = true) : okFrom (prevOf fs k) (fs.drop k) = (Op.bytesLess fs[k - 1].name.toList fs[k].name.toList && okFrom (prevOf fs (k + 1)) (fs.drop (k + 1))) := by
  obtain ⟨j, rfl⟩ : ∃ j, k = j + 1 := ⟨k - 1, by omega⟩
  rw [List.drop_eq_getElem_cons h]
  have e1 : prevOf fs (j + 1) = some fs[j].name := by simp [prevOf, show j < fs.length from by omega]
  have e2 : prevOf fs (j + 1 + 1) = some fs[j + 1].name := by simp [prevOf, h]
  rw [e1, e2]
  simp [okFrom, hF]
theorem okFrom_end {fs : List FileD} {k : Nat} (h : fs.length ≤ k) : okFrom (prevOf fs k) (fs.drop k) = true := by
  rw [List.drop_eq_nil_of_le h]
  cases prevOf fs k <;> simp [okFrom]

set_option maxRecDepth 100000 in
theorem l03Name_any (s : ByteArray) (w : World) (hs : s.size ≤ maxLen) : Calls Try.prog 53 #[.string s] w fun e w' => e = .returned (.bool (nameOkD s)) ∧ w' = w := by
  unfold maxLen at hs
  have e : nameOkD s = (decide ((1 : Int) ≤ (s.size : Int)) && decide ((s.size : Int) ≤ 8)) := by
    unfold nameOkD
    congr 1
    · rw [decide_eq_decide]; omega
    · rw [decide_eq_decide]; omega
  rw [e]
  go_enter Try.func53, Try.ntmps53
  go_wp2_with fail
  refine (l01In_any _ _ _ _).mono ?_
  rintro e w' ⟨rfl, rfl⟩
  go_wp2
  go_ret
  exact ⟨rfl, rfl⟩

set_option maxRecDepth 100000 in
theorem nameOk_any (s : ByteArray) (w : World) (hs : s.size ≤ maxLen) : Calls Try.prog 42 #[.string s] w fun e w' => e = .returned (.bool (nameOkD s)) ∧ w' = w := by
  unfold maxLen at hs
  have e : nameOkD s = (decide ((1 : Int) ≤ (s.size : Int)) && decide ((s.size : Int) ≤ 8)) := by
    unfold nameOkD
    congr 1
    · rw [decide_eq_decide]; omega
    · rw [decide_eq_decide]; omega
  rw [e]
  by_cases h : (1 : Int) ≤ (s.size : Int)
  · have h' : decide ((1 : Int) ≤ (s.size : Int)) = true := by simp; omega
    rw [h', Bool.true_and]
    go_enter Try.func42, Try.ntmps42
    go_wp2
    go_ret
    exact ⟨rfl, rfl⟩
  · have h' : decide ((1 : Int) ≤ (s.size : Int)) = false := by simp; omega
    rw [h', Bool.false_and]
    go_enter Try.func42, Try.ntmps42
    go_wp2
    go_ret
    exact ⟨rfl, rfl⟩

set_option maxRecDepth 100000 in
theorem fileOk_any (F : FileD) (w : World) (hs : F.name.size ≤ maxLen) (ht : F.text.size ≤ maxLen) : Calls Try.prog 28 #[.agg #[.string F.name, .string F.text, .int .i64 F.kept]] w fun e w' => e = .returned (.bool (fileOkD F)) ∧ Below w.heap.size w w' := by
  obtain ⟨a, b, k⟩ := F
  simp only [fileOkD] at *
  unfold maxLen at ht
  have et : decide (b.size ≤ 20000) = decide ((b.size : Int) ≤ 20000) := by rw [decide_eq_decide]; omega
  rw [et]
  cases h1 : nameOkD a
  · rw [Bool.false_and]
    go_enter Try.func28, Try.ntmps28
    go_wp2_with fail
    refine (nameOk_any _ _ hs).mono ?_
    rintro e w' ⟨rfl, rfl⟩
    rw [h1]
    go_wp2
    go_ret
    exact ⟨rfl, (Below.refl _ w).alloc (Nat.le_refl _) _⟩
  · rw [Bool.true_and]
    cases h2 : decide ((b.size : Int) ≤ 20000)
    · rw [Bool.false_and]
      go_enter Try.func28, Try.ntmps28
      go_wp2_with fail
      refine (nameOk_any _ _ hs).mono ?_
      rintro e w' ⟨rfl, rfl⟩
      rw [h1]
      go_wp2
      go_ret
      exact ⟨rfl, (Below.refl _ w).alloc (Nat.le_refl _) _⟩
    · rw [Bool.true_and]
      cases h3 : decide (0 ≤ k)
      · rw [Bool.false_and]
        go_enter Try.func28, Try.ntmps28
        go_wp2_with fail
        refine (nameOk_any _ _ hs).mono ?_
        rintro e w' ⟨rfl, rfl⟩
        rw [h1]
        go_wp2
        go_ret
        exact ⟨rfl, (Below.refl _ w).alloc (Nat.le_refl _) _⟩
      · rw [Bool.true_and]
        go_enter Try.func28, Try.ntmps28
        go_wp2_with fail
        refine (nameOk_any _ _ hs).mono ?_
        rintro e w' ⟨rfl, rfl⟩
        rw [h1]
        go_wp2
        go_ret
        exact ⟨rfl, (Below.refl _ w).alloc (Nat.le_refl _) _⟩
end Go.Proofs.Ytcpbkllonamleaa

/- What the power leaves of files, plainly. -/
namespace Go.Proofs.Ytcpbkllonamleaa
open Go.RowKit

/-- How much of a file stays. -/
def staysI (F : FileD) (n : Int) : Int := if n > (F.text.size : Int) then (if (F.text.size : Int) < F.kept then F.kept else (F.text.size : Int)) else if n < F.kept then F.kept else n
def lostF (F : FileD) (n : Int) : FileD := ⟨F.name, F.text.extract 0 (staysI F n).toNat, staysI F n⟩

/-- What is left of files; ls: what is told of the rest. -/
def lostD : List FileD → List Int → List FileD
  | [], _ => []
  | F :: r, [] => lostF F 0 :: lostD r []
  | F :: r, n :: l => lostF F n :: lostD r l

theorem lostD_length : ∀ (fs : List FileD) (ls : List Int), (lostD fs ls).length = fs.length
  | [], _ => rfl
  | F :: r, [] => by simp [lostD, lostD_length r []]
  | F :: r, n :: l => by simp [lostD, lostD_length r l]
theorem lostD_get : ∀ (fs : List FileD) (ls : List Int) (k : Nat) (h : k < fs.length), (lostD fs ls)[k]? = some (lostF fs[k] (ls.getD k 0))
  | [], _, _, h => absurd h (by simp)
  | F :: r, [], 0, _ => by simp [lostD]
  | F :: r, n :: l, 0, _ => by simp [lostD]
  | F :: r, [], k + 1, h => by
    have := lostD_get r [] k (by simpa using h)
    simpa [lostD] using this
  | F :: r, n :: l, k + 1, h => by
    have := lostD_get r l k (by simpa using h)
    simpa [lostD] using this
theorem lostD_take (fs : List FileD) (ls : List Int) (k : Nat) (h : k < fs.length) : (lostD fs ls).take (k + 1) = (lostD fs ls).take k ++ [lostF fs[k] (ls.getD k 0)] := by
  rw [List.take_add_one, lostD_get fs ls k h]; rfl
theorem lostD_takeLen (fs : List FileD) (ls : List Int) (k : Nat) (h : k ≤ fs.length) : ((lostD fs ls).take k).length = k := by
  rw [List.length_take, lostD_length]; omega

theorem okFrom_mem : ∀ (fs : List FileD) (p : Option ByteArray), okFrom p fs = true → ∀ F ∈ fs, fileOkD F = true
  | [], _, _, _, h => absurd h List.not_mem_nil
  | G :: r, none, h, F, hF => by
    simp only [okFrom, Bool.and_eq_true] at h
    rcases List.mem_cons.1 hF with rfl | hF
    · exact h.1
    · exact okFrom_mem r _ h.2 F hF
  | G :: r, some p, h, F, hF => by
    simp only [okFrom, Bool.and_eq_true] at h
    rcases List.mem_cons.1 hF with rfl | hF
    · exact h.1
    · exact okFrom_mem r _ h.2.2 F hF

theorem ok_file {F : FileD} (h : fileOkD F = true) : 1 ≤ F.name.size ∧ F.name.size ≤ 8 ∧ F.text.size ≤ 20000 ∧ 0 ≤ F.kept ∧ F.kept ≤ F.text.size := by
  simp only [fileOkD, nameOkD, Bool.and_eq_true, decide_eq_true_eq] at h
  omega
theorem disk_files {fs : List FileD} (h : diskOkD fs = true) : fs.length ≤ 30 ∧ ∀ F ∈ fs, 1 ≤ F.name.size ∧ F.name.size ≤ 8 ∧ F.text.size ≤ 20000 ∧ 0 ≤ F.kept ∧ F.kept ≤ F.text.size := by
  simp only [diskOkD, Bool.and_eq_true, decide_eq_true_eq] at h
  exact ⟨h.1, fun F hF => ok_file (okFrom_mem fs none h.2 F hF)⟩

theorem stays_bd {F : FileD} (n : Int) (h0 : 0 ≤ F.kept) (h1 : F.kept ≤ F.text.size) : 0 ≤ staysI F n ∧ F.kept ≤ staysI F n ∧ staysI F n ≤ F.text.size := by
  unfold staysI; split
  · split <;> omega
  · split <;> omega
end Go.Proofs.Ytcpbkllonamleaa

/- A file is put into its place among files; files without that of a name: plainly. -/
namespace Go.Proofs.Ytcpbkllonamleaa
open Go.RowKit

def lessF (nm : ByteArray) (F : FileD) : Bool := Op.bytesLess F.name.toList nm.toList
def moreF (nm : ByteArray) (F : FileD) : Bool := !(Op.bytesLess F.name.toList nm.toList || F.name.toList == nm.toList)
def otherF (nm : ByteArray) (F : FileD) : Bool := !(F.name.toList == nm.toList)
/-- A file in its place. -/
def putD (fs : List FileD) (F : FileD) : List FileD := fs.filter (lessF F.name) ++ [F] ++ fs.filter (moreF F.name)
/-- Files without that of a name. -/
def withoutD (fs : List FileD) (nm : ByteArray) : List FileD := fs.filter (otherF nm)

theorem filter_next {fs : List FileD} {k : Nat} (p : FileD → Bool) (h : k < fs.length) : (fs.take (k + 1)).filter p = (fs.take k).filter p ++ (if p fs[k] = true then [fs[k]] else []) := by
  rw [List.take_add_one, List.getElem?_eq_getElem h, List.filter_append]
  congr 1
  simp only [Option.toList, List.filter_cons, List.filter_nil]
theorem filter_le {fs : List FileD} (p : FileD → Bool) (k : Nat) : ((fs.take k).filter p).length ≤ fs.length :=
  Nat.le_trans (List.length_filter_le _ _) (by rw [List.length_take]; omega)

/-! ### Right disks are in order -/
def srt (fs : List FileD) : Prop := fs.Pairwise (fun a b => Op.bytesLess a.name.toList b.name.toList = true)

theorem less_trans {a b c : List UInt8} (h1 : Op.bytesLess a b = true) (h2 : Op.bytesLess b c = true) : Op.bytesLess a c = true := by
  rw [Go.Proofs.bytesLess_eq, decide_eq_true_eq] at *
  exact List.lt_trans h1 h2
theorem less_irrefl (a : List UInt8) : Op.bytesLess a a = false := by
  rw [Go.Proofs.bytesLess_eq, decide_eq_false_iff_not]
  exact List.lt_irrefl a
theorem less_total {a b : List UInt8} (h1 : Op.bytesLess a b = false) (h2 : a ≠ b) : Op.bytesLess b a = true := by
  rw [Go.Proofs.bytesLess_eq] at *
  rw [decide_eq_true_eq]
  rw [decide_eq_false_iff_not] at h1
  exact Decidable.byContradiction fun h => h2 (List.le_antisymm (List.not_lt.1 h) (List.not_lt.1 h1))

theorem okFrom_some : ∀ (fs : List FileD) (p : ByteArray), okFrom (some p) fs = true ↔ ((∀ F ∈ fs, fileOkD F = true) ∧ (∀ F ∈ fs, Op.bytesLess p.toList F.name.toList = true) ∧ srt fs)
  | [], p => by simp [okFrom, srt]
  | F :: r, p => by
    simp only [okFrom, Bool.and_eq_true, okFrom_some r F.name, srt, List.pairwise_cons, List.mem_cons, forall_eq_or_imp]
    constructor
    · rintro ⟨h1, h2, h3, h4, h5⟩
      exact ⟨⟨h1, h3⟩, ⟨h2, fun G hG => less_trans h2 (h4 G hG)⟩, h4, h5⟩
    · rintro ⟨⟨h1, h3⟩, ⟨h2, _⟩, h4, h5⟩
      exact ⟨h1, h2, h3, h4, h5⟩
theorem okFrom_none (fs : List FileD) : okFrom none fs = true ↔ ((∀ F ∈ fs, fileOkD F = true) ∧ srt fs) := by
  cases fs with
  | nil => simp [okFrom, srt]
  | cons F r =>
    simp only [okFrom, Bool.and_eq_true, okFrom_some r F.name, srt, List.pairwise_cons, List.mem_cons, forall_eq_or_imp]
    constructor
    · rintro ⟨h1, h3, h4, h5⟩
      exact ⟨⟨h1, h3⟩, h4, h5⟩
    · rintro ⟨⟨h1, h3⟩, h4, h5⟩
      exact ⟨h1, h3, h4, h5⟩
theorem disk_iff (fs : List FileD) : diskOkD fs = true ↔ (fs.length ≤ 30 ∧ (∀ F ∈ fs, fileOkD F = true) ∧ srt fs) := by
  rw [diskOkD, Bool.and_eq_true, decide_eq_true_eq, okFrom_none]

theorem mem_putD {fs : List FileD} {F G : FileD} : G ∈ putD fs F ↔ (G ∈ fs ∧ lessF F.name G = true) ∨ G = F ∨ (G ∈ fs ∧ moreF F.name G = true) := by
  simp [putD]

theorem srt_putD {fs : List FileD} (F : FileD) (h : srt fs) : srt (putD fs F) := by
  unfold putD srt
  rw [List.pairwise_append, List.pairwise_append]
  refine ⟨⟨List.Pairwise.filter _ h, by simp, ?_⟩, List.Pairwise.filter _ h, ?_⟩
  · intro a ha b hb
    rw [List.mem_singleton] at hb
    subst hb
    exact (List.mem_filter.1 ha).2
  · intro a ha b hb
    have hb2 := (List.mem_filter.1 hb).2
    simp only [moreF, Bool.not_eq_true', Bool.or_eq_false_iff, beq_eq_false_iff_ne] at hb2
    have hFb : Op.bytesLess F.name.toList b.name.toList = true := less_total hb2.1 hb2.2
    rcases List.mem_append.1 ha with ha | ha
    · exact less_trans (List.mem_filter.1 ha).2 hFb
    · rw [List.mem_singleton] at ha
      subst ha
      exact hFb
theorem srt_without {fs : List FileD} (nm : ByteArray) (h : srt fs) : srt (withoutD fs nm) := List.Pairwise.filter _ h

theorem len_putD_le (fs : List FileD) (F : FileD) : (putD fs F).length ≤ fs.length + 1 := by
  have key : ∀ l : List FileD, (l.filter (lessF F.name)).length + (l.filter (moreF F.name)).length ≤ l.length := by
    intro l
    induction l with
    | nil => simp
    | cons G r ih =>
      simp only [List.filter_cons]
      by_cases h1 : lessF F.name G = true
      · have h2 : moreF F.name G = false := by simp only [lessF] at h1; simp [moreF, h1]
        simp [h1, h2]; omega
      · by_cases h2 : moreF F.name G = true
        · simp [h1, h2]; omega
        · simp [h1, h2]; omega
  have := key fs
  simp only [putD, List.length_append, List.length_singleton]
  omega
end Go.Proofs.Ytcpbkllonamleaa

/- The program's DiskOk. -/
namespace Go.Proofs.Ytcpbkllonamleaa
open Go.RowKit

set_option maxRecDepth 100000 in
set_option maxHeartbeats 800000 in
theorem diskOk_any (fs : List FileD) (ao : Option Addr) (cap : Nat) (w : World) (hl : fs.length ≤ 1048576) (hfs : FilesAt w ao fs) (hsz : ∀ F ∈ fs, F.name.size ≤ maxLen ∧ F.text.size ≤ maxLen) :
    Calls Try.prog 12 #[.agg #[.slice ao fs.length cap]] w fun e w' => e = .returned (.bool (diskOkD fs)) ∧ Below w.heap.size w w' := by
  have HF := hide hfs
  have HS := hide hsz
  clear hfs hsz
  obtain ⟨R, HR⟩ : ∃ R, Hid (diskOkD fs = R) := ⟨_, hide rfl⟩
  rw [HR.out]
  by_cases h30 : (30 : Int) < (fs.length : Int)
  · have h30' : decide ((30 : Int) < (fs.length : Int)) = true := by simp; omega
    have hR : R = false := by rw [← HR.out, diskOkD, show decide (fs.length ≤ 30) = false from by simp; omega]; rfl
    subst hR
    go_enter Try.func12, Try.ntmps12
    go_wp2
    go_ret
    exact ⟨rfl, (Below.refl _ w).alloc (Nat.le_refl _) _⟩
  · have h30' : decide ((30 : Int) < (fs.length : Int)) = false := by simp; omega
    have HR0 : Hid (okFrom (prevOf fs 0) (fs.drop 0) = R) := by show _ = _; rw [← HR.out, diskOkD, show decide (fs.length ≤ 30) = true from by simp; omega]; rfl
    go_enter Try.func12, Try.ntmps12
    go_wp2
    go_loopw [12] (fun ii wr => ∃ (k : Nat), ii = .int .i64 k ∧ k ≤ fs.length ∧ Hid (okFrom (prevOf fs k) (fs.drop k) = R) ∧ Hid (Below (w.heap.size + 1) (w.alloc (.cells #[.slice ao fs.length cap] 26)) wr)) (fun ii _ => fs.length - (intOf ii).toNat)
    case atStart => exact ⟨0, rfl, Nat.zero_le _, HR0, Below.refl _ _⟩
    case round =>
      obtain ⟨k, rfl, hk, HK, HB⟩ := hrel
      have HB0 : Hid (Below w.heap.size w wr) := ((Below.refl _ w).alloc (Nat.le_refl _) _).trans (HB.out.mono (by omega))
      by_cases hlt : k < fs.length
      · have hlt' : decide ((k : Int) < (fs.length : Int)) = true := by simp; omega
        have hsw : w.heap.size + 1 ≤ wr.heap.size := by have := HB.out.size; simpa using this
        obtain ⟨b, off, rfl, hbw, hc0, hc1, hc2⟩ := filesAt_keep HF.out HB0.out k hlt
        have hbox : wr.cell? ⟨w.heap.size, 0, none⟩ = some (.slice (some ⟨b, off, none⟩) fs.length cap) := (HB.out.cell (p := ⟨w.heap.size, 0, none⟩) (by simp)).trans (by rw [cell_of_row _ _ _ _ _ (0, 0) (heap_alloc_new w _)]; rfl)
        obtain ⟨hs1, hs2⟩ := HS.out fs[k] (List.getElem_mem hlt)
        obtain ⟨F, HFk⟩ : ∃ F, Hid (fs[k] = F) := ⟨fs[k], hide rfl⟩
        rw [HFk.out] at hc0 hc1 hc2 hs1 hs2
        have hi0 : (0 : Int) ≤ (k : Int) := by omega
        have hi1 : (k : Int) < (fs.length : Int) := by omega
        go_wp2_with fail
        refine (fileOk_any F _ hs1 hs2).mono ?_
        rintro e w1 ⟨rfl, b1⟩
        have b2 : Below wr.heap.size wr w1 := ((Below.refl _ wr).alloc (Nat.le_refl _) _).trans (b1.mono (by simp))
        have hbox1 : w1.cell? ⟨w.heap.size, 0, none⟩ = some (.slice (some ⟨b, off, none⟩) fs.length cap) := (b2.cell (p := ⟨w.heap.size, 0, none⟩) (by show w.heap.size < _; omega)).trans hbox
        have hfile1 : w1.heap[wr.heap.size]? = some (.cells #[.string F.name, .string F.text, .int .i64 F.kept] 36 (0, 0)) := (b1.block _ (by simp)).trans (heap_alloc_new wr _)
        have hg0 : w1.cell? ⟨wr.heap.size, 0, none⟩ = some (.string F.name) := (cell_of_row w1 wr.heap.size 0 _ _ (0, 0) hfile1).trans rfl
        have HB1 : Hid (Below (w.heap.size + 1) (w.alloc (.cells #[.slice (some ⟨b, off, none⟩) fs.length cap] 26)) w1) := HB.out.trans (b2.mono hsw)
        have HB2 : Hid (Below w.heap.size w w1) := HB0.out.trans (b2.mono (by omega))
        clear b1 hfile1 hbox hc0 hc1 hc2
        cases hok : fileOkD F
        · have hR : Hid (R = false) := by show _ = _; rw [← HK.out, okFrom_bad hlt (by rw [HFk.out]; exact hok)]
          go_wp2
          go_ret
          rw [hR.out]
          exact ⟨rfl, HB2.out⟩
        · cases hk0 : decide (0 < k)
          · have hkz : k = 0 := by simpa using hk0
            have HK1 : Hid (okFrom (prevOf fs (k + 1)) (fs.drop (k + 1)) = R) := by show _ = _; rw [← HK.out]; subst hkz; exact (okFrom_first hlt (by rw [HFk.out]; exact hok)).symm
            clear hkz
            go_wp2_with fail
            go_quiet (fail)
            go_wp2
            go_roundw
            case rel => exact ⟨k + 1, by go_num, by omega, HK1, below_drewN HB1.out _⟩
            case measure => simp [intOf]; omega
          · have hkp : 0 < k := by simpa using hk0
            obtain ⟨b', off', hbe, hbw', hd0, hd1, hd2⟩ := filesAt_keep HF.out HB2.out (k - 1) (by omega)
            obtain ⟨rfl, rfl⟩ : b = b' ∧ off = off' := by simpa using hbe
            obtain ⟨F', HFk'⟩ : ∃ F', Hid (fs[k - 1] = F') := ⟨fs[k - 1], hide rfl⟩
            rw [HFk'.out] at hd0
            clear hd1 hd2 hbe
            have HD := hide (okFrom_more hlt hkp (by rw [HFk.out]; exact hok))
            have hw : IntKind.i64.wrap ((k : Int) - 1) = ((k - 1 : Nat) : Int) := by rw [IntKind.wrap_i64]; omega
            have hj0 : (0 : Int) ≤ ((k - 1 : Nat) : Int) := by omega
            have hj1 : ((k - 1 : Nat) : Int) < (fs.length : Int) := by omega
            go_wp2_with fail
            go_quiet (fail)
            cases hless : Op.bytesLess F'.name.toList F.name.toList
            · have hR : Hid (R = false) := by show _ = _; rw [← HK.out, HD.out, HFk.out, HFk'.out, hless]; rfl
              go_wp2
              go_ret
              rw [hR.out]
              exact ⟨rfl, below_drewN HB2.out _⟩
            · have HK1 : Hid (okFrom (prevOf fs (k + 1)) (fs.drop (k + 1)) = R) := by show _ = _; rw [← HK.out, HD.out, HFk.out, HFk'.out, hless, Bool.true_and]
              go_wp2
              go_roundw
              case rel => exact ⟨k + 1, by go_num, by omega, HK1, below_drewN HB1.out _⟩
              case measure => simp [intOf]; omega
      · have hlt' : decide ((k : Int) < (fs.length : Int)) = false := by simp; omega
        have hR : Hid (R = true) := by show _ = _; rw [← HK.out, okFrom_end (by omega)]
        go_wp2
        go_ret
        rw [hR.out]
        exact ⟨rfl, HB0.out⟩
end Go.Proofs.Ytcpbkllonamleaa

/- The specification's DiskOk. -/
namespace Go.Proofs.Ytcpbkllonamleaa
open Go.RowKit

theorem l03Name_val (s : ByteArray) (c : Bool) (w : World) (hs : s.size ≤ maxLen) (h : nameOkD s = c) : Calls Try.prog 53 #[.string s] w fun e w' => e = .returned (.bool c) ∧ w' = w := h ▸ l03Name_any s w hs

set_option maxRecDepth 100000 in
set_option maxHeartbeats 1600000 in
theorem specDiskOk_any (fs : List FileD) (ao : Option Addr) (cap : Nat) (w : World) (hl : fs.length ≤ 1048576) (hfs : FilesAt w ao fs) (hsz : ∀ F ∈ fs, F.name.size ≤ maxLen ∧ F.text.size ≤ maxLen) :
    Calls Try.prog 52 #[.agg #[.slice ao fs.length cap]] w fun e w' => e = .returned (.bool (diskOkD fs)) ∧ Below w.heap.size w w' := by
  have HF := hide hfs
  have HS := hide hsz
  clear hfs hsz
  obtain ⟨R, HR⟩ : ∃ R, Hid (diskOkD fs = R) := ⟨_, hide rfl⟩
  rw [HR.out]
  by_cases h30 : (30 : Int) < (fs.length : Int)
  · have h30' : decide ((30 : Int) < (fs.length : Int)) = true := by simp; omega
    have hR : R = false := by rw [← HR.out, diskOkD, show decide (fs.length ≤ 30) = false from by simp; omega]; rfl
    subst hR
    go_enter Try.func52, Try.ntmps52
    go_wp2
    go_ret
    exact ⟨rfl, (Below.refl _ w).alloc (Nat.le_refl _) _⟩
  · have h30' : decide ((30 : Int) < (fs.length : Int)) = false := by simp; omega
    have HR0 : Hid (okFrom (prevOf fs 0) (fs.drop 0) = R) := by show _ = _; rw [← HR.out, diskOkD, show decide (fs.length ≤ 30) = true from by simp; omega]; rfl
    go_enter Try.func52, Try.ntmps52
    go_wp2
    go_loopw [3] (fun ii wr => ∃ (k : Nat), ii = .int .i64 k ∧ k ≤ fs.length ∧ Hid (okFrom (prevOf fs k) (fs.drop k) = R) ∧ Hid (Below (w.heap.size + 1) (w.alloc (.cells #[.slice ao fs.length cap] 26)) wr)) (fun ii _ => fs.length - (intOf ii).toNat)
    case atStart => exact ⟨0, rfl, Nat.zero_le _, HR0, Below.refl _ _⟩
    case round =>
      obtain ⟨k, rfl, hk, HK, HB⟩ := hrel
      have HB0 : Hid (Below w.heap.size w wr) := ((Below.refl _ w).alloc (Nat.le_refl _) _).trans (HB.out.mono (by omega))
      have hbox : wr.cell? ⟨w.heap.size, 0, none⟩ = some (.slice ao fs.length cap) := (HB.out.cell (p := ⟨w.heap.size, 0, none⟩) (by simp)).trans (by rw [cell_of_row _ _ _ _ _ (0, 0) (heap_alloc_new w _)]; rfl)
      by_cases hlt : k < fs.length
      · have hlt' : decide ((k : Int) < (fs.length : Int)) = true := by simp; omega
        have hsw : w.heap.size + 1 ≤ wr.heap.size := by have := HB.out.size; simpa using this
        obtain ⟨b, off, rfl, hbw, hc0, hc1, hc2⟩ := filesAt_keep HF.out HB0.out k hlt
        obtain ⟨hs1, hs2⟩ := HS.out fs[k] (List.getElem_mem hlt)
        obtain ⟨F, HFk⟩ : ∃ F, Hid (fs[k] = F) := ⟨fs[k], hide rfl⟩
        rw [HFk.out] at hc0 hc1 hc2 hs1 hs2
        have hi0 : (0 : Int) ≤ (k : Int) := by omega
        have hi1 : (k : Int) < (fs.length : Int) := by omega
        have b2 : Below wr.heap.size wr (wr.alloc (.cells #[.string F.name, .string F.text, .int .i64 F.kept] 36)) := (Below.refl _ wr).alloc (Nat.le_refl _) _
        have HB1 : Hid (Below (w.heap.size + 1) (w.alloc (.cells #[.slice (some ⟨b, off, none⟩) fs.length cap] 26)) (wr.alloc (.cells #[.string F.name, .string F.text, .int .i64 F.kept] 36))) := HB.out.trans (b2.mono hsw)
        have HB2 : Hid (Below w.heap.size w (wr.alloc (.cells #[.string F.name, .string F.text, .int .i64 F.kept] 36))) := HB0.out.trans (b2.mono (by omega))
        have hs2' := hs2
        unfold maxLen at hs2'
        go_wp2_with fail
        have hbox1 : (wr.alloc (.cells #[.string F.name, .string F.text, .int .i64 F.kept] 36)).cell? ⟨w.heap.size, 0, none⟩ = some (.slice (some ⟨b, off, none⟩) fs.length cap) := (b2.cell (p := ⟨w.heap.size, 0, none⟩) (by show w.heap.size < _; omega)).trans hbox
        have hfile := heap_alloc_new wr (.cells #[.string F.name, .string F.text, .int .i64 F.kept] 36)
        obtain ⟨W, hW⟩ : ∃ W, W = wr.alloc (.cells #[.string F.name, .string F.text, .int .i64 F.kept] 36) := ⟨_, rfl⟩
        rw [← hW] at HB1 HB2 hbox1 hfile ⊢
        have hg0 : W.cell? ⟨wr.heap.size, 0, none⟩ = some (.string F.name) := (cell_of_row W wr.heap.size 0 _ _ (0, 0) hfile).trans rfl
        have hg1 : W.cell? ⟨wr.heap.size, 1, none⟩ = some (.string F.text) := (cell_of_row W wr.heap.size 1 _ _ (0, 0) hfile).trans rfl
        have hg2 : W.cell? ⟨wr.heap.size, 2, none⟩ = some (.int .i64 F.kept) := (cell_of_row W wr.heap.size 2 _ _ (0, 0) hfile).trans rfl
        clear hW hfile b2 hbox hc0 hc1 hc2
        cases h1 : nameOkD F.name
        · have hR : Hid (R = false) := by show _ = _; rw [← HK.out, okFrom_bad hlt (by rw [HFk.out, fileOkD]; simp [h1])]
          go_quiet ((go_at_call 53; exact Calls.quiet_of_same (l03Name_val _ _ _ hs1 h1)))
          go_wp2
          go_ret
          rw [hR.out]
          exact ⟨rfl, below_drewN HB2.out _⟩
        · by_cases h2 : 20000 < F.text.size
          · have h2a : decide (20000 < F.text.size) = true := by simp; omega
            have h2b : decide ((20000 : Int) < (F.text.size : Int)) = true := by simp; omega
            have hR : Hid (R = false) := by show _ = _; rw [← HK.out, okFrom_bad hlt (by rw [HFk.out, fileOkD]; rw [show decide (F.text.size ≤ 20000) = false from by simp; omega]; simp)]
            go_quiet ((go_at_call 53; exact Calls.quiet_of_same (l03Name_val _ _ _ hs1 h1)))
            go_wp2
            go_ret
            rw [hR.out]
            exact ⟨rfl, below_drewN HB2.out _⟩
          · have h2a : decide (20000 < F.text.size) = false := by simp; omega
            have h2b : decide ((20000 : Int) < (F.text.size : Int)) = false := by simp; omega
            cases h3 : (decide ((0 : Int) ≤ F.kept) && decide (F.kept ≤ (F.text.size : Int)))
            · have hR : Hid (R = false) := by show _ = _; rw [← HK.out, okFrom_bad hlt (by rw [HFk.out, fileOkD]; rw [h3]; simp)]
              go_quiet ((first | (go_at_call 53; exact Calls.quiet_of_same (l03Name_val _ _ _ hs1 h1)) | (go_at_call 39; exact Calls.quiet_of_same (l01In_val _ _ _ _ _ h3))))
              go_wp2
              go_ret
              rw [hR.out]
              exact ⟨rfl, below_drewN HB2.out _⟩
            · have hok : fileOkD F = true := by rw [fileOkD, h3, h1, show decide (F.text.size ≤ 20000) = true from by simp; omega]; rfl
              cases hk0 : decide (0 < k)
              · have hkz : k = 0 := by simpa using hk0
                have HK1 : Hid (okFrom (prevOf fs (k + 1)) (fs.drop (k + 1)) = R) := by show _ = _; rw [← HK.out]; subst hkz; exact (okFrom_first hlt (by rw [HFk.out]; exact hok)).symm
                clear hkz
                go_quiet ((first | (go_at_call 53; exact Calls.quiet_of_same (l03Name_val _ _ _ hs1 h1)) | (go_at_call 39; exact Calls.quiet_of_same (l01In_val _ _ _ _ _ h3))))
                go_wp2
                go_roundw
                case rel => exact ⟨k + 1, by go_num, by omega, HK1, below_drewN HB1.out _⟩
                case measure => simp [intOf]; omega
              · have hkp : 0 < k := by simpa using hk0
                obtain ⟨b', off', hbe, hbw', hd0, hd1, hd2⟩ := filesAt_keep HF.out HB2.out (k - 1) (by omega)
                obtain ⟨rfl, rfl⟩ : b = b' ∧ off = off' := by simpa using hbe
                obtain ⟨F', HFk'⟩ : ∃ F', Hid (fs[k - 1] = F') := ⟨fs[k - 1], hide rfl⟩
                rw [HFk'.out] at hd0
                clear hd1 hd2 hbe
                have HD := hide (okFrom_more hlt hkp (by rw [HFk.out]; exact hok))
                have hw : IntKind.i64.wrap ((k : Int) - 1) = ((k - 1 : Nat) : Int) := by rw [IntKind.wrap_i64]; omega
                have hj0 : (0 : Int) ≤ ((k - 1 : Nat) : Int) := by omega
                have hj1 : ((k - 1 : Nat) : Int) < (fs.length : Int) := by omega
                go_quiet ((first | (go_at_call 53; exact Calls.quiet_of_same (l03Name_val _ _ _ hs1 h1)) | (go_at_call 39; exact Calls.quiet_of_same (l01In_val _ _ _ _ _ h3))))
                cases hless : Op.bytesLess F'.name.toList F.name.toList
                · have hR : Hid (R = false) := by show _ = _; rw [← HK.out, HD.out, HFk.out, HFk'.out, hless]; rfl
                  go_wp2
                  go_ret
                  rw [hR.out]
                  exact ⟨rfl, below_drewN HB2.out _⟩
                · have HK1 : Hid (okFrom (prevOf fs (k + 1)) (fs.drop (k + 1)) = R) := by show _ = _; rw [← HK.out, HD.out, HFk.out, HFk'.out, hless, Bool.true_and]
                  go_wp2
                  go_roundw
                  case rel => exact ⟨k + 1, by go_num, by omega, HK1, below_drewN HB1.out _⟩
                  case measure => simp [intOf]; omega
      · have hlt' : decide ((k : Int) < (fs.length : Int)) = false := by simp; omega
        have hR : Hid (R = true) := by show _ = _; rw [← HK.out, okFrom_end (by omega)]
        go_wp2
        go_ret
        rw [hR.out]
        exact ⟨rfl, HB0.out⟩
end Go.Proofs.Ytcpbkllonamleaa

/- The copy of a text: the same bytes; nothing that was there has turned. -/
namespace Go.Proofs.Ytcpbkllonamleaa
open Go.RowKit

set_option maxHeartbeats 1000000 in
set_option maxRecDepth 100000 in
theorem clone_any (s : ByteArray) (w : World) (hs : s.size ≤ 1048576) :
    Calls Try.prog 61 #[.string s] w fun e w' => e = .returned (.string s) ∧ Below w.heap.size w w' := by
  by_cases h0 : s.size = 0
  · have e0 : s = ⟨#[]⟩ := ByteArray.ext (Array.eq_empty_of_size_eq_zero h0)
    subst e0
    go_enter Try.func61, Try.ntmps61
    go_wp2
    go_ret
    exact ⟨rfl, Below.refl _ _⟩
  · obtain ⟨i0, hi, hz0, hz1, hz2⟩ := info_parts Try.info5
    have hinfo : (Try.prog.info? 5).map (·.size) = some 1 := by rw [hi]; simp [hz1]
    obtain ⟨M, hM⟩ : ∃ M, M = madeCells (Value.int .u8 0).cells (((s.size : Nat) : Int).toNat * i0.size) := ⟨_, rfl⟩
    have hmk : ∀ W : World, (Instr.makeSlice 22 (.int .i64 (s.size : Int)) (.int .i64 (s.size : Int))).run Try.prog W = .ok (.slice (some ⟨W.heap.size, 0, none⟩) s.size s.size) (W.alloc (.cells M 5)) := fun W => by
      have h := run_make (P := Try.prog) W 22 5 i0 (.int .u8 0) Try.underlying22 hi hz0 .i64 .i64 (s.size : Int) (s.size : Int) (by omega) (by omega) (by rw [hz2]; omega) (by omega)
      rw [← hM] at h
      simpa using h
    have hMs : M.size = s.size := by rw [hM, size_madeCells, hz1]; simp
    clear hM
    have hcp := Lib.run_copy_row_string (P := Try.prog) (w.alloc (.cells M 5)) 22 9 3 5 w.heap.size 0 s.size s.size s M 5 Try.underlying22 hinfo (heap_alloc_new w _) (Nat.le_refl _) (by omega)
    obtain ⟨Y, hY⟩ : ∃ Y, Y = (M.toList.take 0 ++ Lib.byteCells s.data.toList ++ M.toList.drop (0 + s.size)).toArray := ⟨_, rfl⟩
    rw [← hY] at hcp
    have hYl : Y.toList = Lib.byteCells s.data.toList := by
      rw [hY, List.toList_toArray, List.take_zero, List.nil_append, List.drop_of_length_le (by rw [Array.length_toList]; omega), List.append_nil]
    have hYs : Y.size = s.size := by rw [← Array.length_toList, hYl, Lib.byteCells_length, ← Lib.size_eq]
    have hgY : ((w.alloc (.cells M 5)).setRow w.heap.size Y).heap[w.heap.size]? = some (.cells Y 5 (0, 0)) := setRow_heap _ _ M _ 5 (0, 0) (heap_alloc_new w _)
    have hne : s.data.toList ≠ [] := fun e => h0 (by rw [Lib.size_eq, e]; rfl)
    have hUS := Lib.run_unsafeString_row (P := Try.prog) ((w.alloc (.cells M 5)).setRow w.heap.size Y) 94 3 9 5 Try.underlying94 Try.cells5 w.heap.size Y.size (by unfold World.shape?; rw [hgY]) s.data.toList hne (by rw [← Lib.size_eq]; omega) (by rw [← Lib.size_eq]; omega)
      (fun j x hx => Lib.cells_of_row hgY Y.size j _ (by rw [List.take_of_length_le (by rw [Array.length_toList]; exact Nat.le_refl _), hYl]; simp [Lib.byteCells, hx]))
    rw [← Lib.size_eq] at hUS
    clear hY
    go_enter Try.func61, Try.ntmps61
    go_wp2
    go_ret
    have hb1 : Below w.heap.size w (w.alloc (.cells M 5)) := (Below.refl _ w).alloc (Nat.le_refl _) _
    have hb2 : Below w.heap.size (w.alloc (.cells M 5)) ((w.alloc (.cells M 5)).setRow w.heap.size Y) := ⟨rfl, rfl, rfl, by simp, fun k hk => setRow_other _ _ _ _ (by omega)⟩
    exact ⟨rfl, Lib.below_freeze (hb1.trans hb2) (p := ⟨w.heap.size, 0, none⟩) (Nat.le_refl _) _⟩

theorem ownText_any (s : ByteArray) (w : World) (hs : s.size ≤ 1048576) :
    Calls Try.prog 38 #[.string s] w fun e w' => e = .returned (.string s) ∧ Below w.heap.size w w' := by
  go_enter Try.func38, Try.ntmps38
  go_wp2_with (first | (go_at_call 61; refine (clone_any s _ hs).mono ?_; rintro e w' ⟨rfl, hb⟩) | go_in)
  go_ret
  exact ⟨rfl, hb⟩
end Go.Proofs.Ytcpbkllonamleaa

/- What is kept of files, the file of a name: plainly. -/
namespace Go.Proofs.Ytcpbkllonamleaa
open Go.RowKit

/-- All of each file is kept. -/
def keptD (fs : List FileD) : Bool := fs.all (fun F => !decide (F.kept < (F.text.size : Int)))
def allKeptD (fs : List FileD) : Bool := diskOkD fs && keptD fs

theorem kept_bad {fs : List FileD} {k : Nat} (h : k < fs.length) (hF : decide (fs[k].kept < (fs[k].text.size : Int)) = true) : keptD (fs.drop k) = false := by
  rw [List.drop_eq_getElem_cons h, keptD, List.all_cons, hF]; rfl
theorem kept_more {fs : List FileD} {k : Nat} (h : k < fs.length) (hF : decide (fs[k].kept < (fs[k].text.size : Int)) = false) : keptD (fs.drop k) = keptD (fs.drop (k + 1)) := by
  rw [List.drop_eq_getElem_cons h, keptD, List.all_cons, hF]; rfl
theorem kept_end {fs : List FileD} {k : Nat} (h : fs.length ≤ k) : keptD (fs.drop k) = true := by
  rw [List.drop_eq_nil_of_le h]; rfl

/-- The place of the first file of a name, from k on; -1 where there is none. -/
def atFrom (name : ByteArray) : Nat → List FileD → Int
  | _, [] => -1
  | k, F :: r => if (F.name.toList == name.toList) = true then (k : Int) else atFrom name (k + 1) r
theorem at_hit {fs : List FileD} {name : ByteArray} {k : Nat} (h : k < fs.length) (hF : (fs[k].name.toList == name.toList) = true) : atFrom name k (fs.drop k) = k := by
  rw [List.drop_eq_getElem_cons h, atFrom, if_pos hF]
theorem at_miss {fs : List FileD} {name : ByteArray} {k : Nat} (h : k < fs.length) (hF : (fs[k].name.toList == name.toList) = false) : atFrom name k (fs.drop k) = atFrom name (k + 1) (fs.drop (k + 1)) := by
  rw [List.drop_eq_getElem_cons h, atFrom, if_neg (by rw [hF]; decide)]
theorem at_end {fs : List FileD} {name : ByteArray} {k : Nat} (h : fs.length ≤ k) : atFrom name k (fs.drop k) = -1 := by
  rw [List.drop_eq_nil_of_le h]; rfl

theorem at_cases (name : ByteArray) : ∀ (fs : List FileD) (k : Nat), (atFrom name k fs = -1 ∧ ∀ F ∈ fs, (F.name.toList == name.toList) = false) ∨ (∃ j, ∃ h : j < fs.length, atFrom name k fs = ((k + j : Nat) : Int) ∧ (fs[j].name.toList == name.toList) = true ∧ fs.find? (fun F => F.name.toList == name.toList) = some fs[j])
  | [], _ => .inl ⟨rfl, fun _ h => absurd h (List.not_mem_nil)⟩
  | F :: r, k => by
    cases hF : (F.name.toList == name.toList)
    · rcases at_cases name r (k + 1) with ⟨h1, h2⟩ | ⟨j, h, h1, h2, h3⟩
      · refine .inl ⟨by rw [atFrom, if_neg (by rw [hF]; decide)]; exact h1, ?_⟩
        intro G hG
        rcases List.mem_cons.1 hG with rfl | hG
        · exact hF
        · exact h2 G hG
      · refine .inr ⟨j + 1, by simp; omega, ?_, ?_, ?_⟩
        · rw [atFrom, if_neg (by rw [hF]; decide), h1]; congr 1; omega
        · simpa using h2
        · rw [List.find?_cons, hF]; simpa using h3
    · refine .inr ⟨0, by simp, by rw [atFrom, if_pos hF]; rfl, hF, by rw [List.find?_cons, hF]; rfl⟩

/-- The first file of a name. -/
def fileD (fs : List FileD) (name : ByteArray) : Option FileD := fs.find? (fun F => F.name.toList == name.toList)
theorem fileD_hit {fs : List FileD} {name : ByteArray} {k : Nat} (h : k < fs.length) (hF : (fs[k].name.toList == name.toList) = true) : fileD (fs.drop k) name = some fs[k] := by
  rw [List.drop_eq_getElem_cons h, fileD, List.find?_cons, hF]
theorem fileD_miss {fs : List FileD} {name : ByteArray} {k : Nat} (h : k < fs.length) (hF : (fs[k].name.toList == name.toList) = false) : fileD (fs.drop k) name = fileD (fs.drop (k + 1)) name := by
  rw [List.drop_eq_getElem_cons h, fileD, List.find?_cons, hF]; rfl
theorem fileD_end {fs : List FileD} {name : ByteArray} {k : Nat} (h : fs.length ≤ k) : fileD (fs.drop k) name = none := by
  rw [List.drop_eq_nil_of_le h]; rfl

theorem small_max {n : Nat} (h : n ≤ 1048576) : n ≤ maxLen := by unfold maxLen; omega
end Go.Proofs.Ytcpbkllonamleaa

/- Acts on files, plainly. -/
namespace Go.Proofs.Ytcpbkllonamleaa
open Go.RowKit

structure ActD where
  kind : Int
  name : ByteArray
  text : ByteArray
  to : ByteArray

/-- The file of the act's name, or a new one. -/
def actF (fs : List FileD) (A : ActD) : FileD := (fileD fs A.name).getD ⟨A.name, ⟨#[]⟩, 0⟩
/-- What an act makes of files. -/
def rawD (fs : List FileD) (A : ActD) : Option (List FileD) :=
  if A.kind = 1 then some (putD fs ⟨(actF fs A).name, (actF fs A).text ++ A.text, (actF fs A).kept⟩)
  else if (fileD fs A.name).isSome = false then none
  else if A.kind = 2 then some (putD fs ⟨(actF fs A).name, (actF fs A).text, (actF fs A).text.size⟩)
  else if A.kind = 3 then (if (decide ((actF fs A).kept < ((actF fs A).text.size : Int)) || (A.to.toList == A.name.toList) || !nameOkD A.to) = true then none else some (putD (withoutD fs A.name) ⟨A.to, (actF fs A).text, (actF fs A).kept⟩))
  else if A.kind = 4 then some (withoutD fs A.name)
  else none
/-- What stands ahead of it. -/
def actOk (fs : List FileD) (A : ActD) : Bool := diskOkD fs && (nameOkD A.name && (!(!(A.kind == 3) && !A.to.toList.isEmpty) && !(!(A.kind == 1) && !A.text.toList.isEmpty)))
/-- DoAct. -/
def actD (fs : List FileD) (A : ActD) : Option (List FileD) := if actOk fs A = true then (rawD fs A).bind (fun g => if diskOkD g = true then some g else none) else none

theorem actD_no {fs : List FileD} {A : ActD} (h : actOk fs A = false) : actD fs A = none := by rw [actD, if_neg (by rw [h]; decide)]
theorem actD_raw {fs : List FileD} {A : ActD} (h : actOk fs A = true) (hr : rawD fs A = none) : actD fs A = none := by rw [actD, if_pos h, hr]; rfl
theorem actD_bad {fs g : List FileD} {A : ActD} (h : actOk fs A = true) (hr : rawD fs A = some g) (hg : diskOkD g = false) : actD fs A = none := by
  rw [actD, if_pos h, hr]
  show (if diskOkD g = true then some g else none) = none
  rw [if_neg (by rw [hg]; decide)]
theorem actD_yes {fs g : List FileD} {A : ActD} (h : actOk fs A = true) (hr : rawD fs A = some g) (hg : diskOkD g = true) : actD fs A = some g := by
  rw [actD, if_pos h, hr]
  show (if diskOkD g = true then some g else none) = some g
  rw [if_pos hg]
end Go.Proofs.Ytcpbkllonamleaa

/- Acts, one behind the other, plainly; acts in memory. -/
namespace Go.Proofs.Ytcpbkllonamleaa
open Go.RowKit

/-- DoActs: the files behind the acts that are true, and how many these are. -/
def actsF : List FileD → List ActD → List FileD × Nat
  | fs, [] => (fs, 0)
  | fs, A :: r => match actD fs A with
    | none => (fs, 0)
    | some g => ((actsF g r).1, (actsF g r).2 + 1)
theorem actsF_no {fs : List FileD} {qs : List ActD} {k : Nat} (h : k < qs.length) (hA : actD fs qs[k] = none) : actsF fs (qs.drop k) = (fs, 0) := by
  rw [List.drop_eq_getElem_cons h, actsF, hA]
theorem actsF_yes {fs g : List FileD} {qs : List ActD} {k : Nat} (h : k < qs.length) (hA : actD fs qs[k] = some g) : actsF fs (qs.drop k) = ((actsF g (qs.drop (k + 1))).1, (actsF g (qs.drop (k + 1))).2 + 1) := by
  rw [List.drop_eq_getElem_cons h, actsF, hA]
theorem actsF_end {fs : List FileD} {qs : List ActD} {k : Nat} (h : qs.length ≤ k) : actsF fs (qs.drop k) = (fs, 0) := by
  rw [List.drop_eq_nil_of_le h, actsF]
theorem actD_ok {fs g : List FileD} {A : ActD} (h : actD fs A = some g) : diskOkD g = true := by
  unfold actD at h
  split at h
  · cases hr : rawD fs A with
    | none => rw [hr] at h; cases h
    | some x =>
      rw [hr] at h
      have h2 : (if diskOkD x = true then some x else none) = some g := h
      split at h2
      · cases h2; assumption
      · cases h2
  · cases h

/-- Acts in memory. -/
def ActsAt (w : World) (ao : Option Addr) (qs : List ActD) : Prop := ∀ j (h : j < qs.length), ∃ b off : Nat, ao = some ⟨b, off, none⟩ ∧ b < w.heap.size ∧
  w.cell? ⟨b, off + j * 4, none⟩ = some (.int .i64 qs[j].kind) ∧ w.cell? ⟨b, off + j * 4 + 1, none⟩ = some (.string qs[j].name) ∧ w.cell? ⟨b, off + j * 4 + 2, none⟩ = some (.string qs[j].text) ∧ w.cell? ⟨b, off + j * 4 + 3, none⟩ = some (.string qs[j].to)
theorem actsAt_keep {w w' : World} {ao : Option Addr} {qs : List ActD} (h : ActsAt w ao qs) (hb : Below w.heap.size w w') : ActsAt w' ao qs := by
  intro j hj
  obtain ⟨b, off, h1, h2, h3, h4, h5, h6⟩ := h j hj
  exact ⟨b, off, h1, Nat.lt_of_lt_of_le h2 hb.size, (hb.cell (p := ⟨b, off + j * 4, none⟩) h2).trans h3, (hb.cell (p := ⟨b, off + j * 4 + 1, none⟩) h2).trans h4, (hb.cell (p := ⟨b, off + j * 4 + 2, none⟩) h2).trans h5, (hb.cell (p := ⟨b, off + j * 4 + 3, none⟩) h2).trans h6⟩
end Go.Proofs.Ytcpbkllonamleaa

/- Rows of files that a call has made itself: read, appended to. -/
namespace Go.Proofs.Ytcpbkllonamleaa
open Go.RowKit

/-- The cells of files. -/
def cellsF : List FileD → List Value
  | [] => []
  | F :: r => .string F.name :: .string F.text :: .int .i64 F.kept :: cellsF r
theorem cellsF_append : ∀ (a b : List FileD), cellsF (a ++ b) = cellsF a ++ cellsF b
  | [], _ => rfl
  | F :: r, b => by simp [cellsF, cellsF_append r b]
theorem cellsF_length : ∀ a : List FileD, (cellsF a).length = a.length * 3
  | [] => rfl
  | F :: r => by simp [cellsF, cellsF_length r]; omega
theorem cellsF_one : ∀ (a : List FileD), ∀ u ∈ cellsF a, u.oneCell' = true
  | [], u, h => absurd h List.not_mem_nil
  | F :: r, u, h => by
    simp only [cellsF, List.mem_cons] at h
    rcases h with rfl | rfl | rfl | h
    · rfl
    · rfl
    · rfl
    · exact cellsF_one r u h
theorem cellsF_get : ∀ (a : List FileD) (j : Nat) (h : j < a.length), (cellsF a)[j * 3]? = some (.string a[j].name) ∧ (cellsF a)[j * 3 + 1]? = some (.string a[j].text) ∧ (cellsF a)[j * 3 + 2]? = some (.int .i64 a[j].kept)
  | [], _, h => absurd h (by simp)
  | F :: r, 0, _ => by simp [cellsF]
  | F :: r, j + 1, h => by
    have := cellsF_get r j (by simpa using h)
    have e : (j + 1) * 3 = j * 3 + 3 := by omega
    simp only [cellsF, e]
    simpa using this

/-- A row of files of a call's own. -/
def RowF (w : World) (B : Nat) (v : Value) (fs : List FileD) : Prop := (v = .slice none 0 0 ∧ fs = []) ∨
  ∃ (g cap : Nat) (C : Array Value), v = .slice (some ⟨g, 0, none⟩) fs.length cap ∧ B ≤ g ∧ w.heap[g]? = some (.cells C 36 (0, 0)) ∧ fs.length * 3 ≤ C.size ∧ FilesIn C fs fs.length

theorem rowF_at {w : World} {B : Nat} {v : Value} {fs : List FileD} (h : RowF w B v fs) : ∃ ao cap, v = .slice ao fs.length cap ∧ FilesAt w ao fs := by
  rcases h with ⟨rfl, rfl⟩ | ⟨g, cap, C, rfl, _, hC, _, hI⟩
  · exact ⟨none, 0, rfl, fun j hj => absurd hj (by simp)⟩
  · exact ⟨_, cap, rfl, filesAt_own hC hI⟩
theorem rowF_lt {w : World} {B : Nat} {v : Value} {fs : List FileD} (h : RowF w B v fs) : ∀ g, v.ownBlock = some g → B ≤ g ∧ g < w.heap.size := by
  rcases h with ⟨rfl, rfl⟩ | ⟨g, cap, C, rfl, hB, hC, _, hI⟩
  · intro g h; cases h
  · intro g' h
    obtain rfl : g = g' := by simpa [Value.ownBlock] using h
    exact ⟨hB, (Array.getElem?_eq_some_iff.1 hC).1⟩
theorem rowF_keep {w w' : World} {B : Nat} {v : Value} {fs : List FileD} (h : RowF w B v fs) (hk : ∀ g, v.ownBlock = some g → w'.heap[g]? = w.heap[g]?) : RowF w' B v fs := by
  rcases h with ⟨rfl, rfl⟩ | ⟨g, cap, C, rfl, hB, hC, hs, hI⟩
  · exact .inl ⟨rfl, rfl⟩
  · exact .inr ⟨g, cap, C, rfl, hB, (hk g rfl).trans hC, hs, hI⟩
theorem rowF_below {w w' : World} {B : Nat} {v : Value} {fs : List FileD} (h : RowF w B v fs) (hb : Below w.heap.size w w') : RowF w' B v fs :=
  rowF_keep h (fun g hg => hb.block g (rowF_lt h g hg).2)
theorem rowF_grown {w w' : World} {B : Nat} {v : Value} {fs : List FileD} {r : Option Nat} (h : RowF w B v fs) (hb : w.grownBy w' r) (hr : ∀ g, v.ownBlock = some g → some g ≠ r) : RowF w' B v fs :=
  rowF_keep h (fun g hg => hb.block g (rowF_lt h g hg).2 (hr g hg))
theorem rowF_le {w : World} {B B' : Nat} {v : Value} {fs : List FileD} (h : RowF w B v fs) (hB : B' ≤ B) : RowF w B' v fs := by
  rcases h with h | ⟨g, cap, C, h1, h2, h3⟩
  · exact .inl h
  · exact .inr ⟨g, cap, C, h1, by omega, h3⟩

theorem take_get {C : Array Value} {xs : List Value} {n : Nat} (h : C.toList.take n = xs) {j : Nat} {u : Value} (hj : j < n) (hu : xs[j]? = some u) : C[j]? = some u := by
  rw [← h, List.getElem?_take_of_lt hj] at hu
  simpa using hu

theorem rowF_own {w : World} {B : Nat} {v : Value} {fs : List FileD} (h : w.ownsRow B 36 3 v fs.length (cellsF fs)) : RowF w B v fs := by
  rcases h.2 with ⟨rfl, hn⟩ | ⟨g, cap, cur, rfl, hB, hC, hle, _, hs, ht⟩
  · exact .inl ⟨rfl, List.eq_nil_of_length_eq_zero hn⟩
  · refine .inr ⟨g, cap, cur, rfl, hB, hC, by omega, ?_⟩
    intro j hj _
    obtain ⟨h1, h2, h3⟩ := cellsF_get fs j hj
    exact ⟨take_get ht (by omega) h1, take_get ht (by omega) h2, take_get ht (by omega) h3⟩

/-- One file is put behind a row of the call's own, at a step of a region that draws its order. -/
theorem step_app_file {ops : Array Oper} {o : Oper} {a : Act} {K : Act → World → Prop} {Q : Exit → Act → World → Prop} {E : Prop} (W : World) (B : Nat) (hgd : o.guard = none) (s x : Operand)
    (ho : o.op = .call { callee := .builtin .append, args := #[s, x], argTypes := #[24, 24] }) (v : Value) (l : List FileD) (F : FileD) (hs : a.eval s = v)
    (hown : W.ownsRow B 36 3 v l.length (cellsF l)) (k : Nat) (hx : a.eval x = .slice (some ⟨k, 0, none⟩) 1 1) (hblk : W.heap[k]? = some (.cells #[.string F.name, .string F.text, .int .i64 F.kept] 36 (0, 0)))
    (hlen : l.length ≤ 1048576) (hbase : B ≤ W.heap.size)
    (h : ∀ g cap w', w'.ownsRow B 36 3 (.slice (some ⟨g, 0, none⟩) (l.length + 1) cap) (l ++ [F]).length (cellsF (l ++ [F])) → Below B W w' → B ≤ g → g < w'.heap.size → K (a.put o.dst (.slice (some ⟨g, 0, none⟩) (l.length + 1) cap)) w') :
    if Region.wanted o (yielded ops a.tmps) = true then Oper.wp Try.prog o a W K Q else E := by
  obtain ⟨i0, hi, hz0, hz1, hz2⟩ := info_parts Try.infoFile
  refine step_append_lies W hgd s x 24 ho B 36 i0 (.agg #[.string ⟨#[]⟩, .string ⟨#[]⟩, .int .i64 0]) 3 40 Try.underlying24 hi hz0 hz1 hz2 rfl (by decide) v l.length (cellsF l) hs hown ⟨k, 0, none⟩ 1 1 (cellsF [F]) hx (by rw [cellsF_length]; rfl)
    (fun j u hj => World.news_of_block hblk j u hj) (cellsF_one [F]) (by omega) (by unfold maxLen; omega) (by omega) hbase W.heap.size rfl ?_
  intro g cap w' hown' hgrow hg hgl
  have hlt := hown.lt
  refine h g cap w' ?_ ((Below.refl B W).grown hgrow hbase (fun k hk => (hlt k hk).1)) ?_ hgl
  · rw [cellsF_append, List.length_append]
    exact hown'
  · rcases hg with hg | rfl
    · exact (hlt g hg).1
    · exact hbase

/-- The same in a plain region: the new file lies in a block of its own. -/
theorem app_file {ops : Array Oper} {rest : List Oper} {o : Oper} {a : Act} {Q : Exit → Act → World → Prop} (W : World) (B : Nat) (hgd : o.guard = none) (s x : Operand)
    (ho : o.op = .call { callee := .builtin .append, args := #[s, x], argTypes := #[24, 24] }) (v : Value) (l : List FileD) (F : FileD) (hs : a.eval s = v)
    (hown : W.ownsRow B 36 3 v l.length (cellsF l)) (k : Nat) (hx : a.eval x = .slice (some ⟨k, 0, none⟩) 1 1) (hblk : W.heap[k]? = some (.cells #[.string F.name, .string F.text, .int .i64 F.kept] 36 (0, 0)))
    (hlen : l.length ≤ 1048576) (hbase : B ≤ W.heap.size)
    (h : ∀ g cap w', w'.ownsRow B 36 3 (.slice (some ⟨g, 0, none⟩) (l.length + 1) cap) (l ++ [F]).length (cellsF (l ++ [F])) → Below B W w' → B ≤ g → g < w'.heap.size → wpList Try.prog ops Q rest (a.put o.dst (.slice (some ⟨g, 0, none⟩) (l.length + 1) cap)) w') :
    wpList Try.prog ops Q (o :: rest) a W := by
  obtain ⟨i0, hi, hz0, hz1, hz2⟩ := info_parts Try.infoFile
  refine wpList_append_lies W hgd s x 24 ho B 36 i0 (.agg #[.string ⟨#[]⟩, .string ⟨#[]⟩, .int .i64 0]) 3 40 Try.underlying24 hi hz0 hz1 hz2 rfl (by decide) v l.length (cellsF l) hs hown ⟨k, 0, none⟩ 1 1 (cellsF [F]) hx (by rw [cellsF_length]; rfl)
    (fun j u hj => World.news_of_block hblk j u hj) (cellsF_one [F]) (by omega) (by unfold maxLen; omega) (by omega) hbase W.heap.size rfl ?_
  intro g cap w' hown' hgrow hg hgl
  have hlt := hown.lt
  refine h g cap w' ?_ ((Below.refl B W).grown hgrow hbase (fun k hk => (hlt k hk).1)) ?_ hgl
  · rw [cellsF_append, List.length_append]
    exact hown'
  · rcases hg with hg | rfl
    · exact (hlt g hg).1
    · exact hbase
end Go.Proofs.Ytcpbkllonamleaa
