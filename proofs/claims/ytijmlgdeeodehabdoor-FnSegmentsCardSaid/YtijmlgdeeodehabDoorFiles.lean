/- Of: FileL FileL2 FileL3 FileL4 DiskP DiskI DiskS DiskK LawD0 L03At FileAt LoseP RowF. -/
import Derived.Test.YtijmlgdeeodehabDoorOne
import Derived.Laws.MakeOwn
/- Files as the laws hold them: how great they are. -/
namespace Go.Proofs.YtijmlgdeeodehabDoor
open Go.RowKit

/-- A file: its name, its text, how much of it is kept. -/
structure FileD where
  name : ByteArray
  text : ByteArray
  kept : Int

/-- A row of files in memory. -/
def FilesAt (w : World) (ao : Option Addr) (fs : List FileD) : Prop := ∀ j (h : j < fs.length), ∃ b off : Nat, ao = some ⟨b, off, none⟩ ∧ b < w.heap.size ∧
  w.cell? ⟨b, off + j * 3, none⟩ = some (.string fs[j].name) ∧ w.cell? ⟨b, off + j * 3 + 1, none⟩ = some (.string fs[j].text) ∧ w.cell? ⟨b, off + j * 3 + 2, none⟩ = some (.int .i64 fs[j].kept)

theorem filesAt_keep {w w' : World} {ao : Option Addr} {fs : List FileD} (h : FilesAt w ao fs) (hb : Below w.heap.size w w') : FilesAt w' ao fs := by
  intro j hj
  obtain ⟨b, off, h1, h2, h3, h4, h5⟩ := h j hj
  exact ⟨b, off, h1, Nat.lt_of_lt_of_le h2 hb.size, (hb.cell (p := ⟨b, off + j * 3, none⟩) h2).trans h3, (hb.cell (p := ⟨b, off + j * 3 + 1, none⟩) h2).trans h4, (hb.cell (p := ⟨b, off + j * 3 + 2, none⟩) h2).trans h5⟩

/-- What a file leaves of a measure; below 0: it is too great. -/
def szF (F : FileD) (n : Int) : Int := if n < F.name.size then -1 else if n < F.name.size + F.text.size then -1 else n - F.name.size - F.text.size

end Go.Proofs.YtijmlgdeeodehabDoor

/- Files as the laws hold them: measured, turned into the program's, held against each other. -/
namespace Go.Proofs.YtijmlgdeeodehabDoor
open Go.RowKit

/-- What files leave of a measure. -/
def szFs : List FileD → Int → Int
  | [], n => n
  | F :: r, n => if szF F n < 0 then -1 else szFs r (szF F n)

theorem szF_le (F : FileD) (n : Int) (h : 0 ≤ n) : szF F n ≤ n := by
  unfold szF; split
  · omega
  · split <;> omega

end Go.Proofs.YtijmlgdeeodehabDoor

/- Files as the laws hold them, turned into the program's own: a row of the call's own. -/
namespace Go.Proofs.YtijmlgdeeodehabDoor
open Go.RowKit

/-- The first k files stand in these cells. -/
def FilesIn (C : Array Value) (fs : List FileD) (k : Nat) : Prop := ∀ j (h : j < fs.length), j < k → C[j * 3]? = some (.string fs[j].name) ∧ C[j * 3 + 1]? = some (.string fs[j].text) ∧ C[j * 3 + 2]? = some (.int .i64 fs[j].kept)

theorem Tryd.infoFile : (Tryd.prog.info? 127).map (fun i => (i.zero, i.size, i.bytes)) = some (some (.agg #[.string ⟨#[]⟩, .string ⟨#[]⟩, .int .i64 0]), 3, 40) := by kernel_rfl

/-- A file is put into its three cells. -/
def putFile (C : Array Value) (k : Nat) (F : FileD) : Array Value := ((C.setIfInBounds (k * 3) (.string F.name)).setIfInBounds (k * 3 + 1) (.string F.text)).setIfInBounds (k * 3 + 2) (.int .i64 F.kept)

theorem putFile_size (C : Array Value) (k : Nat) (F : FileD) : (putFile C k F).size = C.size := by simp [putFile]

theorem filesIn_put {C : Array Value} {fs : List FileD} {k : Nat} (h : FilesIn C fs k) (hk : k < fs.length) (hs : C.size = fs.length * 3) : FilesIn (putFile C k fs[k]) fs (k + 1) := by
  intro j hj hjk
  unfold putFile
  by_cases e : j = k
  · subst e
    refine ⟨?_, ?_, ?_⟩ <;> simp [Array.getElem?_setIfInBounds] <;> omega
  · obtain ⟨h1, h2, h3⟩ := h j hj (by omega)
    refine ⟨?_, ?_, ?_⟩
    · rw [Array.getElem?_setIfInBounds_ne (by omega), Array.getElem?_setIfInBounds_ne (by omega), Array.getElem?_setIfInBounds_ne (by omega)]; exact h1
    · rw [Array.getElem?_setIfInBounds_ne (by omega), Array.getElem?_setIfInBounds_ne (by omega), Array.getElem?_setIfInBounds_ne (by omega)]; exact h2
    · rw [Array.getElem?_setIfInBounds_ne (by omega), Array.getElem?_setIfInBounds_ne (by omega), Array.getElem?_setIfInBounds_ne (by omega)]; exact h3

theorem file_stored {w : World} {g k : Nat} {C : Array Value} {t : TypeId} (F : FileD) (h : w.heap[g]? = some (.cells C t (0, 0))) :
    (((w.setCell ⟨g, k * 3, none⟩ (.string F.name)).setCell ⟨g, k * 3 + 1, none⟩ (.string F.text)).setCell ⟨g, k * 3 + 2, none⟩ (.int .i64 F.kept)).heap[g]? = some (.cells (putFile C k F) t (0, 0)) :=
  heap_setCell_same _ g _ _ t _ (heap_setCell_same _ g _ _ t _ (heap_setCell_same w g _ C t _ h))

/-- A row of the call's own is a row. -/
theorem filesAt_own {w : World} {g : Nat} {C : Array Value} {t : TypeId} {fs : List FileD} (h : w.heap[g]? = some (.cells C t (0, 0))) (hC : FilesIn C fs fs.length) : FilesAt w (some ⟨g, 0, none⟩) fs := by
  intro j hj
  obtain ⟨h1, h2, h3⟩ := hC j hj hj
  have hg : g < w.heap.size := (Array.getElem?_eq_some_iff.1 h).1
  refine ⟨g, 0, rfl, hg, ?_, ?_, ?_⟩
  · rw [Nat.zero_add, cell_of_row w g _ C t (0, 0) h, h1]
  · rw [Nat.zero_add, cell_of_row w g _ C t (0, 0) h, h2]
  · rw [Nat.zero_add, cell_of_row w g _ C t (0, 0) h, h3]
end Go.Proofs.YtijmlgdeeodehabDoor

/- Disks as the laws hold them: turned into the program's, held against each other. -/
namespace Go.Proofs.YtijmlgdeeodehabDoor
open Go.RowKit

end Go.Proofs.YtijmlgdeeodehabDoor

/- Right disks, plainly; the small tests of the program and of the specification. -/
namespace Go.Proofs.YtijmlgdeeodehabDoor
open Go.RowKit

/-- A name of 1 to 8 bytes. -/
def nameOkD (s : ByteArray) : Bool := decide (1 ≤ s.size) && decide (s.size ≤ 8)
def fileOkD (F : FileD) : Bool := nameOkD F.name && (decide (F.text.size ≤ 20000) && (decide (0 ≤ F.kept) && decide (F.kept ≤ F.text.size)))

/-- Files in order behind a name, each right. -/
def okFrom : Option ByteArray → List FileD → Bool
  | _, [] => true
  | none, F :: r => fileOkD F && okFrom (some F.name) r
  | some p, F :: r => fileOkD F && (Op.bytesLess p.toList F.name.toList && okFrom (some F.name) r)

/-- A right disk. -/
def diskOkD (fs : List FileD) : Bool := decide (fs.length ≤ 30) && okFrom none fs

/-- The name ahead of the place k. -/
def prevOf (fs : List FileD) : Nat → Option ByteArray
  | 0 => none
  | k + 1 => fs[k]?.map FileD.name

theorem okFrom_bad {fs : List FileD} {k : Nat} (h : k < fs.length) (hF : fileOkD fs[k] = false) : okFrom (prevOf fs k) (fs.drop k) = false := by
  rw [List.drop_eq_getElem_cons h]
  cases prevOf fs k <;> simp [okFrom, hF]
theorem okFrom_first {fs : List FileD} (h : 0 < fs.length) (hF : fileOkD fs[0] = true) : okFrom (prevOf fs 0) (fs.drop 0) = okFrom (prevOf fs 1) (fs.drop 1) := by
  rw [List.drop_eq_getElem_cons h]
  simp [okFrom, prevOf, hF, h]
theorem okFrom_more {fs : List FileD} {k : Nat} (h : k < fs.length) (hk : 0 < k) (hF : fileOkD fs[k] = true) : okFrom (prevOf fs k) (fs.drop k) = (Op.bytesLess fs[k - 1].name.toList fs[k].name.toList && okFrom (prevOf fs (k + 1)) (fs.drop (k + 1))) := by
  obtain ⟨j, rfl⟩ : ∃ j, k = j + 1 := ⟨k - 1, by omega⟩
  rw [List.drop_eq_getElem_cons h]
  have e1 : prevOf fs (j + 1) = some fs[j].name := by simp [prevOf, show j < fs.length from by omega]
  have e2 : prevOf fs (j + 1 + 1) = some fs[j + 1].name := by simp [prevOf, h]
  rw [e1, e2]
  simp [okFrom, hF]
theorem okFrom_end {fs : List FileD} {k : Nat} (h : fs.length ≤ k) : okFrom (prevOf fs k) (fs.drop k) = true := by
  rw [List.drop_eq_nil_of_le h]
  cases prevOf fs k <;> simp [okFrom]

set_option maxRecDepth 100000 in
theorem l03Name_any (s : ByteArray) (w : World) (hs : s.size ≤ maxLen) : Calls Tryd.prog 111 #[.string s] w fun e w' => e = .returned (.bool (nameOkD s)) ∧ w' = w := by
  unfold maxLen at hs
  have e : nameOkD s = (decide ((1 : Int) ≤ (s.size : Int)) && decide ((s.size : Int) ≤ 8)) := by
    unfold nameOkD
    congr 1
    · rw [decide_eq_decide]; omega
    · rw [decide_eq_decide]; omega
  rw [e]
  go_enter Tryd.func111, Tryd.ntmps111
  go_wp2_with fail
  refine (l01In_any _ _ _ _).mono ?_
  rintro e w' ⟨rfl, rfl⟩
  go_wp2
  go_ret
  exact ⟨rfl, rfl⟩

end Go.Proofs.YtijmlgdeeodehabDoor

/- The program's DiskOk. -/
namespace Go.Proofs.YtijmlgdeeodehabDoor
open Go.RowKit

end Go.Proofs.YtijmlgdeeodehabDoor

/- The specification's DiskOk. -/
namespace Go.Proofs.YtijmlgdeeodehabDoor
open Go.RowKit

theorem l03Name_val (s : ByteArray) (c : Bool) (w : World) (hs : s.size ≤ maxLen) (h : nameOkD s = c) : Calls Tryd.prog 111 #[.string s] w fun e w' => e = .returned (.bool c) ∧ w' = w := h ▸ l03Name_any s w hs

set_option maxRecDepth 100000 in
set_option maxHeartbeats 1600000 in
theorem specDiskOk_any (fs : List FileD) (ao : Option Addr) (cap : Nat) (w : World) (hl : fs.length ≤ 1048576) (hfs : FilesAt w ao fs) (hsz : ∀ F ∈ fs, F.name.size ≤ maxLen ∧ F.text.size ≤ maxLen) :
    Calls Tryd.prog 99 #[.agg #[.slice ao fs.length cap]] w fun e w' => e = .returned (.bool (diskOkD fs)) ∧ Below w.heap.size w w' := by
  have HF := hide hfs
  have HS := hide hsz
  clear hfs hsz
  obtain ⟨R, HR⟩ : ∃ R, Hid (diskOkD fs = R) := ⟨_, hide rfl⟩
  rw [HR.out]
  by_cases h30 : (30 : Int) < (fs.length : Int)
  · have h30' : decide ((30 : Int) < (fs.length : Int)) = true := by simp; omega
    have hR : R = false := by rw [← HR.out, diskOkD, show decide (fs.length ≤ 30) = false from by simp; omega]; rfl
    subst hR
    go_enter Tryd.func99, Tryd.ntmps99
    go_wp2
    go_ret
    exact ⟨rfl, (Below.refl _ w).alloc (Nat.le_refl _) _⟩
  · have h30' : decide ((30 : Int) < (fs.length : Int)) = false := by simp; omega
    have HR0 : Hid (okFrom (prevOf fs 0) (fs.drop 0) = R) := by show _ = _; rw [← HR.out, diskOkD, show decide (fs.length ≤ 30) = true from by simp; omega]; rfl
    go_enter Tryd.func99, Tryd.ntmps99
    go_wp2
    go_loopw [3] (fun ii wr => ∃ (k : Nat), ii = .int .i64 k ∧ k ≤ fs.length ∧ Hid (okFrom (prevOf fs k) (fs.drop k) = R) ∧ Hid (Below (w.heap.size + 1) (w.alloc (.cells #[.slice ao fs.length cap] 93)) wr)) (fun ii _ => fs.length - (intOf ii).toNat)
    case atStart => exact ⟨0, rfl, Nat.zero_le _, HR0, Below.refl _ _⟩
    case round =>
      obtain ⟨k, rfl, hk, HK, HB⟩ := hrel
      have HB0 : Hid (Below w.heap.size w wr) := ((Below.refl _ w).alloc (Nat.le_refl _) _).trans (HB.out.mono (by omega))
      have hbox : wr.cell? ⟨w.heap.size, 0, none⟩ = some (.slice ao fs.length cap) := (HB.out.cell (p := ⟨w.heap.size, 0, none⟩) (by simp)).trans (by rw [cell_of_row _ _ _ _ _ (0, 0) (heap_alloc_new w _)]; rfl)
      by_cases hlt : k < fs.length
      · have hlt' : decide ((k : Int) < (fs.length : Int)) = true := by simp; omega
        have hsw : w.heap.size + 1 ≤ wr.heap.size := by have := HB.out.size; simpa using this
        obtain ⟨b, off, rfl, hbw, hc0, hc1, hc2⟩ := filesAt_keep HF.out HB0.out k hlt
        obtain ⟨hs1, hs2⟩ := HS.out fs[k] (List.getElem_mem hlt)
        obtain ⟨F, HFk⟩ : ∃ F, Hid (fs[k] = F) := ⟨fs[k], hide rfl⟩
        rw [HFk.out] at hc0 hc1 hc2 hs1 hs2
        have hi0 : (0 : Int) ≤ (k : Int) := by omega
        have hi1 : (k : Int) < (fs.length : Int) := by omega
        have b2 : Below wr.heap.size wr (wr.alloc (.cells #[.string F.name, .string F.text, .int .i64 F.kept] 127)) := (Below.refl _ wr).alloc (Nat.le_refl _) _
        have HB1 : Hid (Below (w.heap.size + 1) (w.alloc (.cells #[.slice (some ⟨b, off, none⟩) fs.length cap] 93)) (wr.alloc (.cells #[.string F.name, .string F.text, .int .i64 F.kept] 127))) := HB.out.trans (b2.mono hsw)
        have HB2 : Hid (Below w.heap.size w (wr.alloc (.cells #[.string F.name, .string F.text, .int .i64 F.kept] 127))) := HB0.out.trans (b2.mono (by omega))
        have hs2' := hs2
        unfold maxLen at hs2'
        go_wp2_with fail
        have hbox1 : (wr.alloc (.cells #[.string F.name, .string F.text, .int .i64 F.kept] 127)).cell? ⟨w.heap.size, 0, none⟩ = some (.slice (some ⟨b, off, none⟩) fs.length cap) := (b2.cell (p := ⟨w.heap.size, 0, none⟩) (by show w.heap.size < _; omega)).trans hbox
        have hfile := heap_alloc_new wr (.cells #[.string F.name, .string F.text, .int .i64 F.kept] 127)
        obtain ⟨W, hW⟩ : ∃ W, W = wr.alloc (.cells #[.string F.name, .string F.text, .int .i64 F.kept] 127) := ⟨_, rfl⟩
        rw [← hW] at HB1 HB2 hbox1 hfile ⊢
        have hg0 : W.cell? ⟨wr.heap.size, 0, none⟩ = some (.string F.name) := (cell_of_row W wr.heap.size 0 _ _ (0, 0) hfile).trans rfl
        have hg1 : W.cell? ⟨wr.heap.size, 1, none⟩ = some (.string F.text) := (cell_of_row W wr.heap.size 1 _ _ (0, 0) hfile).trans rfl
        have hg2 : W.cell? ⟨wr.heap.size, 2, none⟩ = some (.int .i64 F.kept) := (cell_of_row W wr.heap.size 2 _ _ (0, 0) hfile).trans rfl
        clear hW hfile b2 hbox hc0 hc1 hc2
        cases h1 : nameOkD F.name
        · have hR : Hid (R = false) := by show _ = _; rw [← HK.out, okFrom_bad hlt (by rw [HFk.out, fileOkD]; simp [h1])]
          go_quiet ((go_at_call 111; exact Calls.quiet_of_same (l03Name_val _ _ _ hs1 h1)))
          go_wp2
          go_ret
          rw [hR.out]
          exact ⟨rfl, below_drewN HB2.out _⟩
        · by_cases h2 : 20000 < F.text.size
          · have h2a : decide (20000 < F.text.size) = true := by simp; omega
            have h2b : decide ((20000 : Int) < (F.text.size : Int)) = true := by simp; omega
            have hR : Hid (R = false) := by show _ = _; rw [← HK.out, okFrom_bad hlt (by rw [HFk.out, fileOkD]; rw [show decide (F.text.size ≤ 20000) = false from by simp; omega]; simp)]
            go_quiet ((go_at_call 111; exact Calls.quiet_of_same (l03Name_val _ _ _ hs1 h1)))
            go_wp2
            go_ret
            rw [hR.out]
            exact ⟨rfl, below_drewN HB2.out _⟩
          · have h2a : decide (20000 < F.text.size) = false := by simp; omega
            have h2b : decide ((20000 : Int) < (F.text.size : Int)) = false := by simp; omega
            cases h3 : (decide ((0 : Int) ≤ F.kept) && decide (F.kept ≤ (F.text.size : Int)))
            · have hR : Hid (R = false) := by show _ = _; rw [← HK.out, okFrom_bad hlt (by rw [HFk.out, fileOkD]; rw [h3]; simp)]
              go_quiet ((first | (go_at_call 111; exact Calls.quiet_of_same (l03Name_val _ _ _ hs1 h1)) | (go_at_call 65; exact Calls.quiet_of_same (l01In_val _ _ _ _ _ h3))))
              go_wp2
              go_ret
              rw [hR.out]
              exact ⟨rfl, below_drewN HB2.out _⟩
            · have hok : fileOkD F = true := by rw [fileOkD, h3, h1, show decide (F.text.size ≤ 20000) = true from by simp; omega]; rfl
              cases hk0 : decide (0 < k)
              · have hkz : k = 0 := by simpa using hk0
                have HK1 : Hid (okFrom (prevOf fs (k + 1)) (fs.drop (k + 1)) = R) := by show _ = _; rw [← HK.out]; subst hkz; exact (okFrom_first hlt (by rw [HFk.out]; exact hok)).symm
                clear hkz
                go_quiet ((first | (go_at_call 111; exact Calls.quiet_of_same (l03Name_val _ _ _ hs1 h1)) | (go_at_call 65; exact Calls.quiet_of_same (l01In_val _ _ _ _ _ h3))))
                go_wp2
                go_roundw
                case rel => exact ⟨k + 1, by go_num, by omega, HK1, below_drewN HB1.out _⟩
                case measure => simp [intOf]; omega
              · have hkp : 0 < k := by simpa using hk0
                obtain ⟨b', off', hbe, hbw', hd0, hd1, hd2⟩ := filesAt_keep HF.out HB2.out (k - 1) (by omega)
                obtain ⟨rfl, rfl⟩ : b = b' ∧ off = off' := by simpa using hbe
                obtain ⟨F', HFk'⟩ : ∃ F', Hid (fs[k - 1] = F') := ⟨fs[k - 1], hide rfl⟩
                rw [HFk'.out] at hd0
                clear hd1 hd2 hbe
                have HD := hide (okFrom_more hlt hkp (by rw [HFk.out]; exact hok))
                have hw : IntKind.i64.wrap ((k : Int) - 1) = ((k - 1 : Nat) : Int) := by rw [IntKind.wrap_i64]; omega
                have hj0 : (0 : Int) ≤ ((k - 1 : Nat) : Int) := by omega
                have hj1 : ((k - 1 : Nat) : Int) < (fs.length : Int) := by omega
                go_quiet ((first | (go_at_call 111; exact Calls.quiet_of_same (l03Name_val _ _ _ hs1 h1)) | (go_at_call 65; exact Calls.quiet_of_same (l01In_val _ _ _ _ _ h3))))
                cases hless : Op.bytesLess F'.name.toList F.name.toList
                · have hR : Hid (R = false) := by show _ = _; rw [← HK.out, HD.out, HFk.out, HFk'.out, hless]; rfl
                  go_wp2
                  go_ret
                  rw [hR.out]
                  exact ⟨rfl, below_drewN HB2.out _⟩
                · have HK1 : Hid (okFrom (prevOf fs (k + 1)) (fs.drop (k + 1)) = R) := by show _ = _; rw [← HK.out, HD.out, HFk.out, HFk'.out, hless, Bool.true_and]
                  go_wp2
                  go_roundw
                  case rel => exact ⟨k + 1, by go_num, by omega, HK1, below_drewN HB1.out _⟩
                  case measure => simp [intOf]; omega
      · have hlt' : decide ((k : Int) < (fs.length : Int)) = false := by simp; omega
        have hR : Hid (R = true) := by show _ = _; rw [← HK.out, okFrom_end (by omega)]
        go_wp2
        go_ret
        rw [hR.out]
        exact ⟨rfl, HB0.out⟩
end Go.Proofs.YtijmlgdeeodehabDoor

/- What is kept of files, the file of a name: plainly. -/
namespace Go.Proofs.YtijmlgdeeodehabDoor
open Go.RowKit

/-- All of each file is kept. -/
def keptD (fs : List FileD) : Bool := fs.all (fun F => !decide (F.kept < (F.text.size : Int)))
def allKeptD (fs : List FileD) : Bool := diskOkD fs && keptD fs

theorem kept_bad {fs : List FileD} {k : Nat} (h : k < fs.length) (hF : decide (fs[k].kept < (fs[k].text.size : Int)) = true) : keptD (fs.drop k) = false := by
  rw [List.drop_eq_getElem_cons h, keptD, List.all_cons, hF]; rfl
theorem kept_more {fs : List FileD} {k : Nat} (h : k < fs.length) (hF : decide (fs[k].kept < (fs[k].text.size : Int)) = false) : keptD (fs.drop k) = keptD (fs.drop (k + 1)) := by
  rw [List.drop_eq_getElem_cons h, keptD, List.all_cons, hF]; rfl
theorem kept_end {fs : List FileD} {k : Nat} (h : fs.length ≤ k) : keptD (fs.drop k) = true := by
  rw [List.drop_eq_nil_of_le h]; rfl

/-- The place of the first file of a name, from k on; -1 where there is none. -/
def atFrom (name : ByteArray) : Nat → List FileD → Int
  | _, [] => -1
  | k, F :: r => if (F.name.toList == name.toList) = true then (k : Int) else atFrom name (k + 1) r
theorem at_hit {fs : List FileD} {name : ByteArray} {k : Nat} (h : k < fs.length) (hF : (fs[k].name.toList == name.toList) = true) : atFrom name k (fs.drop k) = k := by
  rw [List.drop_eq_getElem_cons h, atFrom, if_pos hF]
theorem at_miss {fs : List FileD} {name : ByteArray} {k : Nat} (h : k < fs.length) (hF : (fs[k].name.toList == name.toList) = false) : atFrom name k (fs.drop k) = atFrom name (k + 1) (fs.drop (k + 1)) := by
  rw [List.drop_eq_getElem_cons h, atFrom, if_neg (by rw [hF]; decide)]
theorem at_end {fs : List FileD} {name : ByteArray} {k : Nat} (h : fs.length ≤ k) : atFrom name k (fs.drop k) = -1 := by
  rw [List.drop_eq_nil_of_le h]; rfl

theorem at_cases (name : ByteArray) : ∀ (fs : List FileD) (k : Nat), (atFrom name k fs = -1 ∧ ∀ F ∈ fs, (F.name.toList == name.toList) = false) ∨ (∃ j, ∃ h : j < fs.length, atFrom name k fs = ((k + j : Nat) : Int) ∧ (fs[j].name.toList == name.toList) = true ∧ fs.find? (fun F => F.name.toList == name.toList) = some fs[j])
  | [], _ => .inl ⟨rfl, fun _ h => absurd h (List.not_mem_nil)⟩
  | F :: r, k => by
    cases hF : (F.name.toList == name.toList)
    · rcases at_cases name r (k + 1) with ⟨h1, h2⟩ | ⟨j, h, h1, h2, h3⟩
      · refine .inl ⟨by rw [atFrom, if_neg (by rw [hF]; decide)]; exact h1, ?_⟩
        intro G hG
        rcases List.mem_cons.1 hG with rfl | hG
        · exact hF
        · exact h2 G hG
      · refine .inr ⟨j + 1, by simp; omega, ?_, ?_, ?_⟩
        · rw [atFrom, if_neg (by rw [hF]; decide), h1]; congr 1; omega
        · simpa using h2
        · rw [List.find?_cons, hF]; simpa using h3
    · refine .inr ⟨0, by simp, by rw [atFrom, if_pos hF]; rfl, hF, by rw [List.find?_cons, hF]; rfl⟩

/-- The first file of a name. -/
def fileD (fs : List FileD) (name : ByteArray) : Option FileD := fs.find? (fun F => F.name.toList == name.toList)
theorem fileD_hit {fs : List FileD} {name : ByteArray} {k : Nat} (h : k < fs.length) (hF : (fs[k].name.toList == name.toList) = true) : fileD (fs.drop k) name = some fs[k] := by
  rw [List.drop_eq_getElem_cons h, fileD, List.find?_cons, hF]
theorem fileD_miss {fs : List FileD} {name : ByteArray} {k : Nat} (h : k < fs.length) (hF : (fs[k].name.toList == name.toList) = false) : fileD (fs.drop k) name = fileD (fs.drop (k + 1)) name := by
  rw [List.drop_eq_getElem_cons h, fileD, List.find?_cons, hF]; rfl
theorem fileD_end {fs : List FileD} {name : ByteArray} {k : Nat} (h : fs.length ≤ k) : fileD (fs.drop k) name = none := by
  rw [List.drop_eq_nil_of_le h]; rfl

theorem small_max {n : Nat} (h : n ≤ 1048576) : n ≤ maxLen := by unfold maxLen; omega
end Go.Proofs.YtijmlgdeeodehabDoor

/- Small facts for the laws of files. -/
namespace Go.Proofs.YtijmlgdeeodehabDoor
open Go.RowKit

theorem szFs_small : ∀ (fs : List FileD) (n : Int), n ≤ 1048576 → 0 ≤ n → 0 ≤ szFs fs n → ∀ F ∈ fs, F.name.size ≤ 1048576 ∧ F.text.size ≤ 1048576
  | [], _, _, _, _, F, h => absurd h List.not_mem_nil
  | G :: r, n, h1, h2, h3, F, h => by
    rw [szFs] at h3
    by_cases hneg : szF G n < 0
    · rw [if_pos hneg] at h3; omega
    · rw [if_neg hneg] at h3
      have hle := szF_le G n h2
      rcases List.mem_cons.1 h with rfl | h
      · unfold szF at hneg
        split at hneg
        · omega
        · split at hneg <;> omega
      · exact szFs_small r _ (by omega) (by omega) h3 F h

theorem box_cell (w : World) (v : Value) (t : TypeId) : (w.alloc (.cells #[v] t)).cell? ⟨w.heap.size, 0, none⟩ = some v := by rw [cell_of_row _ _ _ _ _ (0, 0) (heap_alloc_new w _)]; rfl
end Go.Proofs.YtijmlgdeeodehabDoor

/- The place of a file of a name. -/
namespace Go.Proofs.YtijmlgdeeodehabDoor
open Go.RowKit

set_option maxRecDepth 100000 in
set_option maxHeartbeats 800000 in
theorem l03At_any (fs : List FileD) (ao : Option Addr) (cap : Nat) (nm : ByteArray) (w : World) (hl : fs.length ≤ 1048576) (hfs : FilesAt w ao fs) :
    Calls Tryd.prog 100 #[.agg #[.slice ao fs.length cap], .string nm] w fun e w' => e = .returned (.int .i64 (atFrom nm 0 fs)) ∧ Below w.heap.size w w' := by
  have HF := hide hfs
  clear hfs
  obtain ⟨R, HR⟩ : ∃ R, Hid (atFrom nm 0 (fs.drop 0) = R) := ⟨_, hide rfl⟩
  have e : atFrom nm 0 fs = R := HR.out
  rw [e]
  clear e
  have HB0 : Hid (Below w.heap.size w (w.alloc (.cells #[.slice ao fs.length cap] 93))) := (Below.refl _ w).alloc (Nat.le_refl _) _
  go_enter Tryd.func100, Tryd.ntmps100
  go_wp2
  go_loop [5] (fun ii => ∃ (k : Nat), ii = .int .i64 k ∧ k ≤ fs.length ∧ Hid (atFrom nm k (fs.drop k) = R)) (fun ii => fs.length - (intOf ii).toNat)
  case atStart => exact ⟨0, rfl, Nat.zero_le _, HR⟩
  case round =>
    obtain ⟨k, rfl, hk, HK⟩ := hrel
    by_cases hlt : k < fs.length
    · have hlt' : decide ((k : Int) < (fs.length : Int)) = true := by simp; omega
      obtain ⟨b, off, rfl, hbw, hc0, hc1, hc2⟩ := filesAt_keep HF.out HB0.out k hlt
      obtain ⟨F, HFk⟩ : ∃ F, Hid (fs[k] = F) := ⟨fs[k], hide rfl⟩
      rw [HFk.out] at hc0
      clear hc1 hc2
      have hi0 : (0 : Int) ≤ (k : Int) := by omega
      have hi1 : (k : Int) < (fs.length : Int) := by omega
      cases hq : (F.name.toList == nm.toList)
      · have HK1 : Hid (atFrom nm (k + 1) (fs.drop (k + 1)) = R) := by show _ = _; rw [← HK.out]; exact (at_miss hlt (by rw [HFk.out]; exact hq)).symm
        go_wp2
        go_round
        case rel => exact ⟨k + 1, by go_num, by omega, HK1⟩
        case measure => simp [intOf]; omega
      · have hR : Hid (R = (k : Int)) := by show _ = _; rw [← HK.out]; exact at_hit hlt (by rw [HFk.out]; exact hq)
        go_wp2
        go_ret
        rw [hR.out]
        exact ⟨rfl, HB0.out⟩
    · have hlt' : decide ((k : Int) < (fs.length : Int)) = false := by simp; omega
      have hR : Hid (R = -1) := by show _ = _; rw [← HK.out]; exact at_end (by omega)
      go_wp2
      go_ret
      rw [hR.out]
      exact ⟨rfl, HB0.out⟩
end Go.Proofs.YtijmlgdeeodehabDoor

/- FileAt, the program's and the specification's. -/
namespace Go.Proofs.YtijmlgdeeodehabDoor
open Go.RowKit

set_option maxRecDepth 100000 in
set_option maxHeartbeats 800000 in
theorem specFileAt_any (fs : List FileD) (ao : Option Addr) (cap : Nat) (nm : ByteArray) (w : World) (hl : fs.length ≤ 1048576) (hfs : FilesAt w ao fs) :
    Calls Tryd.prog 81 #[.agg #[.slice ao fs.length cap], .string nm] w fun e w' => ((fileD fs nm = none ∧ e = .returned (.tuple #[.string ⟨#[]⟩, .bool false])) ∨ ∃ F, fileD fs nm = some F ∧ F ∈ fs ∧ e = .returned (.tuple #[.string F.text, .bool true])) ∧ Below w.heap.size w w' := by
  have HF := hide hfs
  clear hfs
  have HB0 : Hid (Below w.heap.size w (w.alloc (.cells #[.slice ao fs.length cap] 93))) := (Below.refl _ w).alloc (Nat.le_refl _) _
  have HA := hide (at_cases nm fs 0)
  go_enter Tryd.func81, Tryd.ntmps81
  go_wp2_with fail
  refine (l03At_any fs ao cap nm _ hl (filesAt_keep HF.out HB0.out)).mono ?_
  rintro e w1 ⟨rfl, b1⟩
  have hbox : w1.cell? ⟨w.heap.size, 0, none⟩ = some (.slice ao fs.length cap) := (b1.cell (p := ⟨w.heap.size, 0, none⟩) (by simp)).trans (by rw [cell_of_row _ _ _ _ _ (0, 0) (heap_alloc_new w _)]; rfl)
  have HB1 := hide (HB0.out.trans (b1.mono HB0.out.size))
  clear b1
  rcases HA.out with ⟨h1, h2⟩ | ⟨j, hj, h1, h2, h3⟩
  · rw [h1]
    have HN : Hid (fileD fs nm = none) := List.find?_eq_none.2 (fun F hF => by rw [h2 F hF]; decide)
    clear h1 h2
    have hd : decide ((-1 : Int) < 0) = true := by decide
    go_wp2
    go_ret2
    exact ⟨.inl ⟨HN.out, rfl⟩, HB1.out⟩
  · rw [h1, Nat.zero_add]
    have HN : Hid (fileD fs nm = some fs[j]) := h3
    clear h1 h2 h3
    have hd : decide ((j : Int) < 0) = false := by simp
    obtain ⟨b, off, rfl, hbw, hc0, hc1, hc2⟩ := filesAt_keep HF.out HB1.out j hj
    have HM := hide (List.getElem_mem hj)
    obtain ⟨F, HFk⟩ : ∃ F, Hid (fs[j] = F) := ⟨fs[j], hide rfl⟩
    rw [HFk.out] at hc1 HN HM
    clear hc0 hc2
    have hi0 : (0 : Int) ≤ (j : Int) := by omega
    have hi1 : (j : Int) < (fs.length : Int) := by omega
    go_wp2
    go_ret2
    exact ⟨.inr ⟨F, HN.out, HM.out, rfl⟩, HB1.out⟩

end Go.Proofs.YtijmlgdeeodehabDoor

/- What the power leaves of files, plainly. -/
namespace Go.Proofs.YtijmlgdeeodehabDoor
open Go.RowKit

/-- How much of a file stays. -/
def staysI (F : FileD) (n : Int) : Int := if n > (F.text.size : Int) then (if (F.text.size : Int) < F.kept then F.kept else (F.text.size : Int)) else if n < F.kept then F.kept else n
def lostF (F : FileD) (n : Int) : FileD := ⟨F.name, F.text.extract 0 (staysI F n).toNat, staysI F n⟩

/-- What is left of files; ls: what is told of the rest. -/
def lostD : List FileD → List Int → List FileD
  | [], _ => []
  | F :: r, [] => lostF F 0 :: lostD r []
  | F :: r, n :: l => lostF F n :: lostD r l

theorem lostD_length : ∀ (fs : List FileD) (ls : List Int), (lostD fs ls).length = fs.length
  | [], _ => rfl
  | F :: r, [] => by simp [lostD, lostD_length r []]
  | F :: r, n :: l => by simp [lostD, lostD_length r l]
theorem lostD_get : ∀ (fs : List FileD) (ls : List Int) (k : Nat) (h : k < fs.length), (lostD fs ls)[k]? = some (lostF fs[k] (ls.getD k 0))
  | [], _, _, h => absurd h (by simp)
  | F :: r, [], 0, _ => by simp [lostD]
  | F :: r, n :: l, 0, _ => by simp [lostD]
  | F :: r, [], k + 1, h => by
    have := lostD_get r [] k (by simpa using h)
    simpa [lostD] using this
  | F :: r, n :: l, k + 1, h => by
    have := lostD_get r l k (by simpa using h)
    simpa [lostD] using this
theorem lostD_take (fs : List FileD) (ls : List Int) (k : Nat) (h : k < fs.length) : (lostD fs ls).take (k + 1) = (lostD fs ls).take k ++ [lostF fs[k] (ls.getD k 0)] := by
  rw [List.take_add_one, lostD_get fs ls k h]; rfl
theorem lostD_takeLen (fs : List FileD) (ls : List Int) (k : Nat) (h : k ≤ fs.length) : ((lostD fs ls).take k).length = k := by
  rw [List.length_take, lostD_length]; omega

theorem okFrom_mem : ∀ (fs : List FileD) (p : Option ByteArray), okFrom p fs = true → ∀ F ∈ fs, fileOkD F = true
  | [], _, _, _, h => absurd h List.not_mem_nil
  | G :: r, none, h, F, hF => by
    simp only [okFrom, Bool.and_eq_true] at h
    rcases List.mem_cons.1 hF with rfl | hF
    · exact h.1
    · exact okFrom_mem r _ h.2 F hF
  | G :: r, some p, h, F, hF => by
    simp only [okFrom, Bool.and_eq_true] at h
    rcases List.mem_cons.1 hF with rfl | hF
    · exact h.1
    · exact okFrom_mem r _ h.2.2 F hF

theorem ok_file {F : FileD} (h : fileOkD F = true) : 1 ≤ F.name.size ∧ F.name.size ≤ 8 ∧ F.text.size ≤ 20000 ∧ 0 ≤ F.kept ∧ F.kept ≤ F.text.size := by
  simp only [fileOkD, nameOkD, Bool.and_eq_true, decide_eq_true_eq] at h
  omega
theorem disk_files {fs : List FileD} (h : diskOkD fs = true) : fs.length ≤ 30 ∧ ∀ F ∈ fs, 1 ≤ F.name.size ∧ F.name.size ≤ 8 ∧ F.text.size ≤ 20000 ∧ 0 ≤ F.kept ∧ F.kept ≤ F.text.size := by
  simp only [diskOkD, Bool.and_eq_true, decide_eq_true_eq] at h
  exact ⟨h.1, fun F hF => ok_file (okFrom_mem fs none h.2 F hF)⟩

theorem stays_bd {F : FileD} (n : Int) (h0 : 0 ≤ F.kept) (h1 : F.kept ≤ F.text.size) : 0 ≤ staysI F n ∧ F.kept ≤ staysI F n ∧ staysI F n ≤ F.text.size := by
  unfold staysI; split
  · split <;> omega
  · split <;> omega
end Go.Proofs.YtijmlgdeeodehabDoor

/- Rows of files that a call has made itself: read, appended to. -/
namespace Go.Proofs.YtijmlgdeeodehabDoor
open Go.RowKit

/-- The cells of files. -/
def cellsF : List FileD → List Value
  | [] => []
  | F :: r => .string F.name :: .string F.text :: .int .i64 F.kept :: cellsF r
theorem cellsF_append : ∀ (a b : List FileD), cellsF (a ++ b) = cellsF a ++ cellsF b
  | [], _ => rfl
  | F :: r, b => by simp [cellsF, cellsF_append r b]
theorem cellsF_length : ∀ a : List FileD, (cellsF a).length = a.length * 3
  | [] => rfl
  | F :: r => by simp [cellsF, cellsF_length r]; omega
theorem cellsF_one : ∀ (a : List FileD), ∀ u ∈ cellsF a, u.oneCell' = true
  | [], u, h => absurd h List.not_mem_nil
  | F :: r, u, h => by
    simp only [cellsF, List.mem_cons] at h
    rcases h with rfl | rfl | rfl | h
    · rfl
    · rfl
    · rfl
    · exact cellsF_one r u h
theorem cellsF_get : ∀ (a : List FileD) (j : Nat) (h : j < a.length), (cellsF a)[j * 3]? = some (.string a[j].name) ∧ (cellsF a)[j * 3 + 1]? = some (.string a[j].text) ∧ (cellsF a)[j * 3 + 2]? = some (.int .i64 a[j].kept)
  | [], _, h => absurd h (by simp)
  | F :: r, 0, _ => by simp [cellsF]
  | F :: r, j + 1, h => by
    have := cellsF_get r j (by simpa using h)
    have e : (j + 1) * 3 = j * 3 + 3 := by omega
    simp only [cellsF, e]
    simpa using this

/-- A row of files of a call's own. -/
def RowF (w : World) (B : Nat) (v : Value) (fs : List FileD) : Prop := (v = .slice none 0 0 ∧ fs = []) ∨
  ∃ (g cap : Nat) (C : Array Value), v = .slice (some ⟨g, 0, none⟩) fs.length cap ∧ B ≤ g ∧ w.heap[g]? = some (.cells C 127 (0, 0)) ∧ fs.length * 3 ≤ C.size ∧ FilesIn C fs fs.length

theorem rowF_at {w : World} {B : Nat} {v : Value} {fs : List FileD} (h : RowF w B v fs) : ∃ ao cap, v = .slice ao fs.length cap ∧ FilesAt w ao fs := by
  rcases h with ⟨rfl, rfl⟩ | ⟨g, cap, C, rfl, _, hC, _, hI⟩
  · exact ⟨none, 0, rfl, fun j hj => absurd hj (by simp)⟩
  · exact ⟨_, cap, rfl, filesAt_own hC hI⟩
theorem rowF_lt {w : World} {B : Nat} {v : Value} {fs : List FileD} (h : RowF w B v fs) : ∀ g, v.ownBlock = some g → B ≤ g ∧ g < w.heap.size := by
  rcases h with ⟨rfl, rfl⟩ | ⟨g, cap, C, rfl, hB, hC, _, hI⟩
  · intro g h; cases h
  · intro g' h
    obtain rfl : g = g' := by simpa [Value.ownBlock] using h
    exact ⟨hB, (Array.getElem?_eq_some_iff.1 hC).1⟩
theorem rowF_keep {w w' : World} {B : Nat} {v : Value} {fs : List FileD} (h : RowF w B v fs) (hk : ∀ g, v.ownBlock = some g → w'.heap[g]? = w.heap[g]?) : RowF w' B v fs := by
  rcases h with ⟨rfl, rfl⟩ | ⟨g, cap, C, rfl, hB, hC, hs, hI⟩
  · exact .inl ⟨rfl, rfl⟩
  · exact .inr ⟨g, cap, C, rfl, hB, (hk g rfl).trans hC, hs, hI⟩
theorem rowF_below {w w' : World} {B : Nat} {v : Value} {fs : List FileD} (h : RowF w B v fs) (hb : Below w.heap.size w w') : RowF w' B v fs :=
  rowF_keep h (fun g hg => hb.block g (rowF_lt h g hg).2)
theorem rowF_grown {w w' : World} {B : Nat} {v : Value} {fs : List FileD} {r : Option Nat} (h : RowF w B v fs) (hb : w.grownBy w' r) (hr : ∀ g, v.ownBlock = some g → some g ≠ r) : RowF w' B v fs :=
  rowF_keep h (fun g hg => hb.block g (rowF_lt h g hg).2 (hr g hg))
theorem rowF_le {w : World} {B B' : Nat} {v : Value} {fs : List FileD} (h : RowF w B v fs) (hB : B' ≤ B) : RowF w B' v fs := by
  rcases h with h | ⟨g, cap, C, h1, h2, h3⟩
  · exact .inl h
  · exact .inr ⟨g, cap, C, h1, by omega, h3⟩

theorem take_get {C : Array Value} {xs : List Value} {n : Nat} (h : C.toList.take n = xs) {j : Nat} {u : Value} (hj : j < n) (hu : xs[j]? = some u) : C[j]? = some u := by
  rw [← h, List.getElem?_take_of_lt hj] at hu
  simpa using hu

theorem rowF_own {w : World} {B : Nat} {v : Value} {fs : List FileD} (h : w.ownsRow B 127 3 v fs.length (cellsF fs)) : RowF w B v fs := by
  rcases h.2 with ⟨rfl, hn⟩ | ⟨g, cap, cur, rfl, hB, hC, hle, _, hs, ht⟩
  · exact .inl ⟨rfl, List.eq_nil_of_length_eq_zero hn⟩
  · refine .inr ⟨g, cap, cur, rfl, hB, hC, by omega, ?_⟩
    intro j hj _
    obtain ⟨h1, h2, h3⟩ := cellsF_get fs j hj
    exact ⟨take_get ht (by omega) h1, take_get ht (by omega) h2, take_get ht (by omega) h3⟩

/-- One file is put behind a row of the call's own, at a step of a region that draws its order. -/
theorem step_app_file {ops : Array Oper} {o : Oper} {a : Act} {K : Act → World → Prop} {Q : Exit → Act → World → Prop} {E : Prop} (W : World) (B : Nat) (hgd : o.guard = none) (s x : Operand)
    (ho : o.op = .call { callee := .builtin .append, args := #[s, x], argTypes := #[91, 91] }) (v : Value) (l : List FileD) (F : FileD) (hs : a.eval s = v)
    (hown : W.ownsRow B 127 3 v l.length (cellsF l)) (k : Nat) (hx : a.eval x = .slice (some ⟨k, 0, none⟩) 1 1) (hblk : W.heap[k]? = some (.cells #[.string F.name, .string F.text, .int .i64 F.kept] 127 (0, 0)))
    (hlen : l.length ≤ 1048576) (hbase : B ≤ W.heap.size)
    (h : ∀ g cap w', w'.ownsRow B 127 3 (.slice (some ⟨g, 0, none⟩) (l.length + 1) cap) (l ++ [F]).length (cellsF (l ++ [F])) → Below B W w' → B ≤ g → g < w'.heap.size → K (a.put o.dst (.slice (some ⟨g, 0, none⟩) (l.length + 1) cap)) w') :
    if Region.wanted o (yielded ops a.tmps) = true then Oper.wp Tryd.prog o a W K Q else E := by
  obtain ⟨i0, hi, hz0, hz1, hz2⟩ := info_parts Tryd.infoFile
  refine step_append_lies W hgd s x 91 ho B 127 i0 (.agg #[.string ⟨#[]⟩, .string ⟨#[]⟩, .int .i64 0]) 3 40 Tryd.underlying91 hi hz0 hz1 hz2 rfl (by decide) v l.length (cellsF l) hs hown ⟨k, 0, none⟩ 1 1 (cellsF [F]) hx (by rw [cellsF_length]; rfl)
    (fun j u hj => World.news_of_block hblk j u hj) (cellsF_one [F]) (by omega) (by unfold maxLen; omega) (by omega) hbase W.heap.size rfl ?_
  intro g cap w' hown' hgrow hg hgl
  have hlt := hown.lt
  refine h g cap w' ?_ ((Below.refl B W).grown hgrow hbase (fun k hk => (hlt k hk).1)) ?_ hgl
  · rw [cellsF_append, List.length_append]
    exact hown'
  · rcases hg with hg | rfl
    · exact (hlt g hg).1
    · exact hbase

/-- The same in a plain region: the new file lies in a block of its own. -/
theorem app_file {ops : Array Oper} {rest : List Oper} {o : Oper} {a : Act} {Q : Exit → Act → World → Prop} (W : World) (B : Nat) (hgd : o.guard = none) (s x : Operand)
    (ho : o.op = .call { callee := .builtin .append, args := #[s, x], argTypes := #[91, 91] }) (v : Value) (l : List FileD) (F : FileD) (hs : a.eval s = v)
    (hown : W.ownsRow B 127 3 v l.length (cellsF l)) (k : Nat) (hx : a.eval x = .slice (some ⟨k, 0, none⟩) 1 1) (hblk : W.heap[k]? = some (.cells #[.string F.name, .string F.text, .int .i64 F.kept] 127 (0, 0)))
    (hlen : l.length ≤ 1048576) (hbase : B ≤ W.heap.size)
    (h : ∀ g cap w', w'.ownsRow B 127 3 (.slice (some ⟨g, 0, none⟩) (l.length + 1) cap) (l ++ [F]).length (cellsF (l ++ [F])) → Below B W w' → B ≤ g → g < w'.heap.size → wpList Tryd.prog ops Q rest (a.put o.dst (.slice (some ⟨g, 0, none⟩) (l.length + 1) cap)) w') :
    wpList Tryd.prog ops Q (o :: rest) a W := by
  obtain ⟨i0, hi, hz0, hz1, hz2⟩ := info_parts Tryd.infoFile
  refine wpList_append_lies W hgd s x 91 ho B 127 i0 (.agg #[.string ⟨#[]⟩, .string ⟨#[]⟩, .int .i64 0]) 3 40 Tryd.underlying91 hi hz0 hz1 hz2 rfl (by decide) v l.length (cellsF l) hs hown ⟨k, 0, none⟩ 1 1 (cellsF [F]) hx (by rw [cellsF_length]; rfl)
    (fun j u hj => World.news_of_block hblk j u hj) (cellsF_one [F]) (by omega) (by unfold maxLen; omega) (by omega) hbase W.heap.size rfl ?_
  intro g cap w' hown' hgrow hg hgl
  have hlt := hown.lt
  refine h g cap w' ?_ ((Below.refl B W).grown hgrow hbase (fun k hk => (hlt k hk).1)) ?_ hgl
  · rw [cellsF_append, List.length_append]
    exact hown'
  · rcases hg with hg | rfl
    · exact (hlt g hg).1
    · exact hbase
end Go.Proofs.YtijmlgdeeodehabDoor
