/- Of: FileL FileL2 FileL3 FileL4 DiskP DiskI DiskS DiskK. -/
import Derived.Test.YtjfagmjajpnacabDoorOne
import Derived.Laws.MakeOwn
/- Files as the laws hold them: how great they are. -/
namespace Go.Proofs.YtjfagmjajpnacabDoor
open Go.RowKit

/-- A file: its name, its text, how much of it is kept. -/
structure FileD where
  name : ByteArray
  text : ByteArray
  kept : Int

/-- A row of files in memory. -/
def FilesAt (w : World) (ao : Option Addr) (fs : List FileD) : Prop := ∀ j (h : j < fs.length), ∃ b off : Nat, ao = some ⟨b, off, none⟩ ∧ b < w.heap.size ∧
  w.cell? ⟨b, off + j * 3, none⟩ = some (.string fs[j].name) ∧ w.cell? ⟨b, off + j * 3 + 1, none⟩ = some (.string fs[j].text) ∧ w.cell? ⟨b, off + j * 3 + 2, none⟩ = some (.int .i64 fs[j].kept)

theorem filesAt_keep {w w' : World} {ao : Option Addr} {fs : List FileD} (h : FilesAt w ao fs) (hb : Below w.heap.size w w') : FilesAt w' ao fs := by
  intro j hj
  obtain ⟨b, off, h1, h2, h3, h4, h5⟩ := h j hj
  exact ⟨b, off, h1, Nat.lt_of_lt_of_le h2 hb.size, (hb.cell (p := ⟨b, off + j * 3, none⟩) h2).trans h3, (hb.cell (p := ⟨b, off + j * 3 + 1, none⟩) h2).trans h4, (hb.cell (p := ⟨b, off + j * 3 + 2, none⟩) h2).trans h5⟩

/-- What a file leaves of a measure; below 0: it is too great. -/
def szF (F : FileD) (n : Int) : Int := if n < F.name.size then -1 else if n < F.name.size + F.text.size then -1 else n - F.name.size - F.text.size

end Go.Proofs.YtjfagmjajpnacabDoor

/- Files as the laws hold them: measured, turned into the program's, held against each other. -/
namespace Go.Proofs.YtjfagmjajpnacabDoor
open Go.RowKit

/-- What files leave of a measure. -/
def szFs : List FileD → Int → Int
  | [], n => n
  | F :: r, n => if szF F n < 0 then -1 else szFs r (szF F n)

theorem szF_le (F : FileD) (n : Int) (h : 0 ≤ n) : szF F n ≤ n := by
  unfold szF; split
  · omega
  · split <;> omega

end Go.Proofs.YtjfagmjajpnacabDoor

/- Files as the laws hold them, turned into the program's own: a row of the call's own. -/
namespace Go.Proofs.YtjfagmjajpnacabDoor
open Go.RowKit

/-- The first k files stand in these cells. -/
def FilesIn (C : Array Value) (fs : List FileD) (k : Nat) : Prop := ∀ j (h : j < fs.length), j < k → C[j * 3]? = some (.string fs[j].name) ∧ C[j * 3 + 1]? = some (.string fs[j].text) ∧ C[j * 3 + 2]? = some (.int .i64 fs[j].kept)

theorem Tryd.infoFile : (Tryd.prog.info? 127).map (fun i => (i.zero, i.size, i.bytes)) = some (some (.agg #[.string ⟨#[]⟩, .string ⟨#[]⟩, .int .i64 0]), 3, 40) := by kernel_rfl

/-- A file is put into its three cells. -/
def putFile (C : Array Value) (k : Nat) (F : FileD) : Array Value := ((C.setIfInBounds (k * 3) (.string F.name)).setIfInBounds (k * 3 + 1) (.string F.text)).setIfInBounds (k * 3 + 2) (.int .i64 F.kept)

theorem putFile_size (C : Array Value) (k : Nat) (F : FileD) : (putFile C k F).size = C.size := by simp [putFile]

theorem filesIn_put {C : Array Value} {fs : List FileD} {k : Nat} (h : FilesIn C fs k) (hk : k < fs.length) (hs : C.size = fs.length * 3) : FilesIn (putFile C k fs[k]) fs (k + 1) := by
  intro j hj hjk
  unfold putFile
  by_cases e : j = k
  · subst e
    refine ⟨?_, ?_, ?_⟩ <;> simp [Array.getElem?_setIfInBounds] <;> omega
  · obtain ⟨h1, h2, h3⟩ := h j hj (by omega)
    refine ⟨?_, ?_, ?_⟩
    · rw [Array.getElem?_setIfInBounds_ne (by omega), Array.getElem?_setIfInBounds_ne (by omega), Array.getElem?_setIfInBounds_ne (by omega)]; exact h1
    · rw [Array.getElem?_setIfInBounds_ne (by omega), Array.getElem?_setIfInBounds_ne (by omega), Array.getElem?_setIfInBounds_ne (by omega)]; exact h2
    · rw [Array.getElem?_setIfInBounds_ne (by omega), Array.getElem?_setIfInBounds_ne (by omega), Array.getElem?_setIfInBounds_ne (by omega)]; exact h3

theorem file_stored {w : World} {g k : Nat} {C : Array Value} {t : TypeId} (F : FileD) (h : w.heap[g]? = some (.cells C t (0, 0))) :
    (((w.setCell ⟨g, k * 3, none⟩ (.string F.name)).setCell ⟨g, k * 3 + 1, none⟩ (.string F.text)).setCell ⟨g, k * 3 + 2, none⟩ (.int .i64 F.kept)).heap[g]? = some (.cells (putFile C k F) t (0, 0)) :=
  heap_setCell_same _ g _ _ t _ (heap_setCell_same _ g _ _ t _ (heap_setCell_same w g _ C t _ h))

/-- A row of the call's own is a row. -/
theorem filesAt_own {w : World} {g : Nat} {C : Array Value} {t : TypeId} {fs : List FileD} (h : w.heap[g]? = some (.cells C t (0, 0))) (hC : FilesIn C fs fs.length) : FilesAt w (some ⟨g, 0, none⟩) fs := by
  intro j hj
  obtain ⟨h1, h2, h3⟩ := hC j hj hj
  have hg : g < w.heap.size := (Array.getElem?_eq_some_iff.1 h).1
  refine ⟨g, 0, rfl, hg, ?_, ?_, ?_⟩
  · rw [Nat.zero_add, cell_of_row w g _ C t (0, 0) h, h1]
  · rw [Nat.zero_add, cell_of_row w g _ C t (0, 0) h, h2]
  · rw [Nat.zero_add, cell_of_row w g _ C t (0, 0) h, h3]
end Go.Proofs.YtjfagmjajpnacabDoor

/- Disks as the laws hold them: turned into the program's, held against each other. -/
namespace Go.Proofs.YtjfagmjajpnacabDoor
open Go.RowKit

end Go.Proofs.YtjfagmjajpnacabDoor

/- Right disks, plainly; the small tests of the program and of the specification. -/
namespace Go.Proofs.YtjfagmjajpnacabDoor
open Go.RowKit

/-- A name of 1 to 8 bytes. -/
def nameOkD (s : ByteArray) : Bool := decide (1 ≤ s.size) && decide (s.size ≤ 8)
def fileOkD (F : FileD) : Bool := nameOkD F.name && (decide (F.text.size ≤ 20000) && (decide (0 ≤ F.kept) && decide (F.kept ≤ F.text.size)))

/-- Files in order behind a name, each right. -/
def okFrom : Option ByteArray → List FileD → Bool
  | _, [] => true
  | none, F :: r => fileOkD F && okFrom (some F.name) r
  | some p, F :: r => fileOkD F && (Op.bytesLess p.toList F.name.toList && okFrom (some F.name) r)

/-- A right disk. -/
def diskOkD (fs : List FileD) : Bool := decide (fs.length ≤ 30) && okFrom none fs

/-- The name ahead of the place k. -/
def prevOf (fs : List FileD) : Nat → Option ByteArray
  | 0 => none
  | k + 1 => fs[k]?.map FileD.name

theorem okFrom_bad {fs : List FileD} {k : Nat} (h : k < fs.length) (hF : fileOkD fs[k] = false) : okFrom (prevOf fs k) (fs.drop k) = false := by
  rw [List.drop_eq_getElem_cons h]
  cases prevOf fs k <;> simp [okFrom, hF]
theorem okFrom_first {fs : List FileD} (h : 0 < fs.length) (hF : fileOkD fs[0] = true) : okFrom (prevOf fs 0) (fs.drop 0) = okFrom (prevOf fs 1) (fs.drop 1) := by
  rw [List.drop_eq_getElem_cons h]
  simp [okFrom, prevOf, hF, h]
theorem okFrom_more {fs : List FileD} {k : Nat} (h : k < fs.length) (hk : 0 < k) (hF : fileOkD fs[k] = true) : okFrom (prevOf fs k) (fs.drop k) = (Op.bytesLess fs[k - 1].name.toList fs[k].name.toList && okFrom (prevOf fs (k + 1)) (fs.drop (k + 1))) := by
  obtain ⟨j, rfl⟩ : ∃ j, k = j + 1 := ⟨k - 1, by omega⟩
  rw [List.drop_eq_getElem_cons h]
  have e1 : prevOf fs (j + 1) = some fs[j].name := by simp [prevOf, show j < fs.length from by omega]
  have e2 : prevOf fs (j + 1 + 1) = some fs[j + 1].name := by simp [prevOf, h]
  rw [e1, e2]
  simp [okFrom, hF]
theorem okFrom_end {fs : List FileD} {k : Nat} (h : fs.length ≤ k) : okFrom (prevOf fs k) (fs.drop k) = true := by
  rw [List.drop_eq_nil_of_le h]
  cases prevOf fs k <;> simp [okFrom]

set_option maxRecDepth 100000 in
theorem l03Name_any (s : ByteArray) (w : World) (hs : s.size ≤ maxLen) : Calls Tryd.prog 111 #[.string s] w fun e w' => e = .returned (.bool (nameOkD s)) ∧ w' = w := by
  unfold maxLen at hs
  have e : nameOkD s = (decide ((1 : Int) ≤ (s.size : Int)) && decide ((s.size : Int) ≤ 8)) := by
    unfold nameOkD
    congr 1
    · rw [decide_eq_decide]; omega
    · rw [decide_eq_decide]; omega
  rw [e]
  go_enter Tryd.func111, Tryd.ntmps111
  go_wp2_with fail
  refine (l01In_any _ _ _ _).mono ?_
  rintro e w' ⟨rfl, rfl⟩
  go_wp2
  go_ret
  exact ⟨rfl, rfl⟩

end Go.Proofs.YtjfagmjajpnacabDoor

/- The program's DiskOk. -/
namespace Go.Proofs.YtjfagmjajpnacabDoor
open Go.RowKit

end Go.Proofs.YtjfagmjajpnacabDoor

/- The specification's DiskOk. -/
namespace Go.Proofs.YtjfagmjajpnacabDoor
open Go.RowKit

theorem l03Name_val (s : ByteArray) (c : Bool) (w : World) (hs : s.size ≤ maxLen) (h : nameOkD s = c) : Calls Tryd.prog 111 #[.string s] w fun e w' => e = .returned (.bool c) ∧ w' = w := h ▸ l03Name_any s w hs

set_option maxRecDepth 100000 in
set_option maxHeartbeats 1600000 in
theorem specDiskOk_any (fs : List FileD) (ao : Option Addr) (cap : Nat) (w : World) (hl : fs.length ≤ 1048576) (hfs : FilesAt w ao fs) (hsz : ∀ F ∈ fs, F.name.size ≤ maxLen ∧ F.text.size ≤ maxLen) :
    Calls Tryd.prog 99 #[.agg #[.slice ao fs.length cap]] w fun e w' => e = .returned (.bool (diskOkD fs)) ∧ Below w.heap.size w w' := by
  have HF := hide hfs
  have HS := hide hsz
  clear hfs hsz
  obtain ⟨R, HR⟩ : ∃ R, Hid (diskOkD fs = R) := ⟨_, hide rfl⟩
  rw [HR.out]
  by_cases h30 : (30 : Int) < (fs.length : Int)
  · have h30' : decide ((30 : Int) < (fs.length : Int)) = true := by simp; omega
    have hR : R = false := by rw [← HR.out, diskOkD, show decide (fs.length ≤ 30) = false from by simp; omega]; rfl
    subst hR
    go_enter Tryd.func99, Tryd.ntmps99
    go_wp2
    go_ret
    exact ⟨rfl, (Below.refl _ w).alloc (Nat.le_refl _) _⟩
  · have h30' : decide ((30 : Int) < (fs.length : Int)) = false := by simp; omega
    have HR0 : Hid (okFrom (prevOf fs 0) (fs.drop 0) = R) := by show _ = _; rw [← HR.out, diskOkD, show decide (fs.length ≤ 30) = true from by simp; omega]; rfl
    go_enter Tryd.func99, Tryd.ntmps99
    go_wp2
    go_loopw [3] (fun ii wr => ∃ (k : Nat), ii = .int .i64 k ∧ k ≤ fs.length ∧ Hid (okFrom (prevOf fs k) (fs.drop k) = R) ∧ Hid (Below (w.heap.size + 1) (w.alloc (.cells #[.slice ao fs.length cap] 93)) wr)) (fun ii _ => fs.length - (intOf ii).toNat)
    case atStart => exact ⟨0, rfl, Nat.zero_le _, HR0, Below.refl _ _⟩
    case round =>
      obtain ⟨k, rfl, hk, HK, HB⟩ := hrel
      have HB0 : Hid (Below w.heap.size w wr) := ((Below.refl _ w).alloc (Nat.le_refl _) _).trans (HB.out.mono (by omega))
      have hbox : wr.cell? ⟨w.heap.size, 0, none⟩ = some (.slice ao fs.length cap) := (HB.out.cell (p := ⟨w.heap.size, 0, none⟩) (by simp)).trans (by rw [cell_of_row _ _ _ _ _ (0, 0) (heap_alloc_new w _)]; rfl)
      by_cases hlt : k < fs.length
      · have hlt' : decide ((k : Int) < (fs.length : Int)) = true := by simp; omega
        have hsw : w.heap.size + 1 ≤ wr.heap.size := by have := HB.out.size; simpa using this
        obtain ⟨b, off, rfl, hbw, hc0, hc1, hc2⟩ := filesAt_keep HF.out HB0.out k hlt
        obtain ⟨hs1, hs2⟩ := HS.out fs[k] (List.getElem_mem hlt)
        obtain ⟨F, HFk⟩ : ∃ F, Hid (fs[k] = F) := ⟨fs[k], hide rfl⟩
        rw [HFk.out] at hc0 hc1 hc2 hs1 hs2
        have hi0 : (0 : Int) ≤ (k : Int) := by omega
        have hi1 : (k : Int) < (fs.length : Int) := by omega
        have b2 : Below wr.heap.size wr (wr.alloc (.cells #[.string F.name, .string F.text, .int .i64 F.kept] 127)) := (Below.refl _ wr).alloc (Nat.le_refl _) _
        have HB1 : Hid (Below (w.heap.size + 1) (w.alloc (.cells #[.slice (some ⟨b, off, none⟩) fs.length cap] 93)) (wr.alloc (.cells #[.string F.name, .string F.text, .int .i64 F.kept] 127))) := HB.out.trans (b2.mono hsw)
        have HB2 : Hid (Below w.heap.size w (wr.alloc (.cells #[.string F.name, .string F.text, .int .i64 F.kept] 127))) := HB0.out.trans (b2.mono (by omega))
        have hs2' := hs2
        unfold maxLen at hs2'
        go_wp2_with fail
        have hbox1 : (wr.alloc (.cells #[.string F.name, .string F.text, .int .i64 F.kept] 127)).cell? ⟨w.heap.size, 0, none⟩ = some (.slice (some ⟨b, off, none⟩) fs.length cap) := (b2.cell (p := ⟨w.heap.size, 0, none⟩) (by show w.heap.size < _; omega)).trans hbox
        have hfile := heap_alloc_new wr (.cells #[.string F.name, .string F.text, .int .i64 F.kept] 127)
        obtain ⟨W, hW⟩ : ∃ W, W = wr.alloc (.cells #[.string F.name, .string F.text, .int .i64 F.kept] 127) := ⟨_, rfl⟩
        rw [← hW] at HB1 HB2 hbox1 hfile ⊢
        have hg0 : W.cell? ⟨wr.heap.size, 0, none⟩ = some (.string F.name) := (cell_of_row W wr.heap.size 0 _ _ (0, 0) hfile).trans rfl
        have hg1 : W.cell? ⟨wr.heap.size, 1, none⟩ = some (.string F.text) := (cell_of_row W wr.heap.size 1 _ _ (0, 0) hfile).trans rfl
        have hg2 : W.cell? ⟨wr.heap.size, 2, none⟩ = some (.int .i64 F.kept) := (cell_of_row W wr.heap.size 2 _ _ (0, 0) hfile).trans rfl
        clear hW hfile b2 hbox hc0 hc1 hc2
        cases h1 : nameOkD F.name
        · have hR : Hid (R = false) := by show _ = _; rw [← HK.out, okFrom_bad hlt (by rw [HFk.out, fileOkD]; simp [h1])]
          go_quiet ((go_at_call 111; exact Calls.quiet_of_same (l03Name_val _ _ _ hs1 h1)))
          go_wp2
          go_ret
          rw [hR.out]
          exact ⟨rfl, below_drewN HB2.out _⟩
        · by_cases h2 : 20000 < F.text.size
          · have h2a : decide (20000 < F.text.size) = true := by simp; omega
            have h2b : decide ((20000 : Int) < (F.text.size : Int)) = true := by simp; omega
            have hR : Hid (R = false) := by show _ = _; rw [← HK.out, okFrom_bad hlt (by rw [HFk.out, fileOkD]; rw [show decide (F.text.size ≤ 20000) = false from by simp; omega]; simp)]
            go_quiet ((go_at_call 111; exact Calls.quiet_of_same (l03Name_val _ _ _ hs1 h1)))
            go_wp2
            go_ret
            rw [hR.out]
            exact ⟨rfl, below_drewN HB2.out _⟩
          · have h2a : decide (20000 < F.text.size) = false := by simp; omega
            have h2b : decide ((20000 : Int) < (F.text.size : Int)) = false := by simp; omega
            cases h3 : (decide ((0 : Int) ≤ F.kept) && decide (F.kept ≤ (F.text.size : Int)))
            · have hR : Hid (R = false) := by show _ = _; rw [← HK.out, okFrom_bad hlt (by rw [HFk.out, fileOkD]; rw [h3]; simp)]
              go_quiet ((first | (go_at_call 111; exact Calls.quiet_of_same (l03Name_val _ _ _ hs1 h1)) | (go_at_call 65; exact Calls.quiet_of_same (l01In_val _ _ _ _ _ h3))))
              go_wp2
              go_ret
              rw [hR.out]
              exact ⟨rfl, below_drewN HB2.out _⟩
            · have hok : fileOkD F = true := by rw [fileOkD, h3, h1, show decide (F.text.size ≤ 20000) = true from by simp; omega]; rfl
              cases hk0 : decide (0 < k)
              · have hkz : k = 0 := by simpa using hk0
                have HK1 : Hid (okFrom (prevOf fs (k + 1)) (fs.drop (k + 1)) = R) := by show _ = _; rw [← HK.out]; subst hkz; exact (okFrom_first hlt (by rw [HFk.out]; exact hok)).symm
                clear hkz
                go_quiet ((first | (go_at_call 111; exact Calls.quiet_of_same (l03Name_val _ _ _ hs1 h1)) | (go_at_call 65; exact Calls.quiet_of_same (l01In_val _ _ _ _ _ h3))))
                go_wp2
                go_roundw
                case rel => exact ⟨k + 1, by go_num, by omega, HK1, below_drewN HB1.out _⟩
                case measure => simp [intOf]; omega
              · have hkp : 0 < k := by simpa using hk0
                obtain ⟨b', off', hbe, hbw', hd0, hd1, hd2⟩ := filesAt_keep HF.out HB2.out (k - 1) (by omega)
                obtain ⟨rfl, rfl⟩ : b = b' ∧ off = off' := by simpa using hbe
                obtain ⟨F', HFk'⟩ : ∃ F', Hid (fs[k - 1] = F') := ⟨fs[k - 1], hide rfl⟩
                rw [HFk'.out] at hd0
                clear hd1 hd2 hbe
                have HD := hide (okFrom_more hlt hkp (by rw [HFk.out]; exact hok))
                have hw : IntKind.i64.wrap ((k : Int) - 1) = ((k - 1 : Nat) : Int) := by rw [IntKind.wrap_i64]; omega
                have hj0 : (0 : Int) ≤ ((k - 1 : Nat) : Int) := by omega
                have hj1 : ((k - 1 : Nat) : Int) < (fs.length : Int) := by omega
                go_quiet ((first | (go_at_call 111; exact Calls.quiet_of_same (l03Name_val _ _ _ hs1 h1)) | (go_at_call 65; exact Calls.quiet_of_same (l01In_val _ _ _ _ _ h3))))
                cases hless : Op.bytesLess F'.name.toList F.name.toList
                · have hR : Hid (R = false) := by show _ = _; rw [← HK.out, HD.out, HFk.out, HFk'.out, hless]; rfl
                  go_wp2
                  go_ret
                  rw [hR.out]
                  exact ⟨rfl, below_drewN HB2.out _⟩
                · have HK1 : Hid (okFrom (prevOf fs (k + 1)) (fs.drop (k + 1)) = R) := by show _ = _; rw [← HK.out, HD.out, HFk.out, HFk'.out, hless, Bool.true_and]
                  go_wp2
                  go_roundw
                  case rel => exact ⟨k + 1, by go_num, by omega, HK1, below_drewN HB1.out _⟩
                  case measure => simp [intOf]; omega
      · have hlt' : decide ((k : Int) < (fs.length : Int)) = false := by simp; omega
        have hR : Hid (R = true) := by show _ = _; rw [← HK.out, okFrom_end (by omega)]
        go_wp2
        go_ret
        rw [hR.out]
        exact ⟨rfl, HB0.out⟩
end Go.Proofs.YtjfagmjajpnacabDoor

/- What is kept of files, the file of a name: plainly. -/
namespace Go.Proofs.YtjfagmjajpnacabDoor
open Go.RowKit

/-- All of each file is kept. -/
def keptD (fs : List FileD) : Bool := fs.all (fun F => !decide (F.kept < (F.text.size : Int)))
def allKeptD (fs : List FileD) : Bool := diskOkD fs && keptD fs

theorem kept_bad {fs : List FileD} {k : Nat} (h : k < fs.length) (hF : decide (fs[k].kept < (fs[k].text.size : Int)) = true) : keptD (fs.drop k) = false := by
  rw [List.drop_eq_getElem_cons h, keptD, List.all_cons, hF]; rfl
theorem kept_more {fs : List FileD} {k : Nat} (h : k < fs.length) (hF : decide (fs[k].kept < (fs[k].text.size : Int)) = false) : keptD (fs.drop k) = keptD (fs.drop (k + 1)) := by
  rw [List.drop_eq_getElem_cons h, keptD, List.all_cons, hF]; rfl
theorem kept_end {fs : List FileD} {k : Nat} (h : fs.length ≤ k) : keptD (fs.drop k) = true := by
  rw [List.drop_eq_nil_of_le h]; rfl

/-- The place of the first file of a name, from k on; -1 where there is none. -/
def atFrom (name : ByteArray) : Nat → List FileD → Int
  | _, [] => -1
  | k, F :: r => if (F.name.toList == name.toList) = true then (k : Int) else atFrom name (k + 1) r
theorem at_hit {fs : List FileD} {name : ByteArray} {k : Nat} (h : k < fs.length) (hF : (fs[k].name.toList == name.toList) = true) : atFrom name k (fs.drop k) = k := by
  rw [List.drop_eq_getElem_cons h, atFrom, if_pos hF]
theorem at_miss {fs : List FileD} {name : ByteArray} {k : Nat} (h : k < fs.length) (hF : (fs[k].name.toList == name.toList) = false) : atFrom name k (fs.drop k) = atFrom name (k + 1) (fs.drop (k + 1)) := by
  rw [List.drop_eq_getElem_cons h, atFrom, if_neg (by rw [hF]; decide)]
theorem at_end {fs : List FileD} {name : ByteArray} {k : Nat} (h : fs.length ≤ k) : atFrom name k (fs.drop k) = -1 := by
  rw [List.drop_eq_nil_of_le h]; rfl

theorem at_cases (name : ByteArray) : ∀ (fs : List FileD) (k : Nat), (atFrom name k fs = -1 ∧ ∀ F ∈ fs, (F.name.toList == name.toList) = false) ∨ (∃ j, ∃ h : j < fs.length, atFrom name k fs = ((k + j : Nat) : Int) ∧ (fs[j].name.toList == name.toList) = true ∧ fs.find? (fun F => F.name.toList == name.toList) = some fs[j])
  | [], _ => .inl ⟨rfl, fun _ h => absurd h (List.not_mem_nil)⟩
  | F :: r, k => by
    cases hF : (F.name.toList == name.toList)
    · rcases at_cases name r (k + 1) with ⟨h1, h2⟩ | ⟨j, h, h1, h2, h3⟩
      · refine .inl ⟨by rw [atFrom, if_neg (by rw [hF]; decide)]; exact h1, ?_⟩
        intro G hG
        rcases List.mem_cons.1 hG with rfl | hG
        · exact hF
        · exact h2 G hG
      · refine .inr ⟨j + 1, by simp; omega, ?_, ?_, ?_⟩
        · rw [atFrom, if_neg (by rw [hF]; decide), h1]; congr 1; omega
        · simpa using h2
        · rw [List.find?_cons, hF]; simpa using h3
    · refine .inr ⟨0, by simp, by rw [atFrom, if_pos hF]; rfl, hF, by rw [List.find?_cons, hF]; rfl⟩

/-- The first file of a name. -/
def fileD (fs : List FileD) (name : ByteArray) : Option FileD := fs.find? (fun F => F.name.toList == name.toList)
theorem fileD_hit {fs : List FileD} {name : ByteArray} {k : Nat} (h : k < fs.length) (hF : (fs[k].name.toList == name.toList) = true) : fileD (fs.drop k) name = some fs[k] := by
  rw [List.drop_eq_getElem_cons h, fileD, List.find?_cons, hF]
theorem fileD_miss {fs : List FileD} {name : ByteArray} {k : Nat} (h : k < fs.length) (hF : (fs[k].name.toList == name.toList) = false) : fileD (fs.drop k) name = fileD (fs.drop (k + 1)) name := by
  rw [List.drop_eq_getElem_cons h, fileD, List.find?_cons, hF]; rfl
theorem fileD_end {fs : List FileD} {name : ByteArray} {k : Nat} (h : fs.length ≤ k) : fileD (fs.drop k) name = none := by
  rw [List.drop_eq_nil_of_le h]; rfl

theorem small_max {n : Nat} (h : n ≤ 1048576) : n ≤ maxLen := by unfold maxLen; omega
end Go.Proofs.YtjfagmjajpnacabDoor
