import Derived.Lib.Strings
import Derived.Lib.Walk
import Derived.Lib.BufferWrite
import Derived.Lib.UnsafeStr
import Derived.Laws.MakeOwn
import Derived.Test.YtnhfngpegmpcnamGreatDoorEn1
import Derived.Test.YtnhfngpegmpcnamGreatDoorEn0
set_option maxRecDepth 100000
set_option maxHeartbeats 1600000
namespace Go.Proofs.YtnhfngpegmpcnamGreatDoor
open Go.RowKit
theorem l03Name_val (s : ByteArray) (c : Bool) (w : World) (hs : s.size ≤ maxLen) (h : nameOkD s = c) : Calls Tryz.prog 104 #[.string s] w fun e w' => e = .returned (.bool c) ∧ w' = w := h ▸ l03Name_any s w hs
theorem specDiskOk_any (fs : List FileD) (ao : Option Addr) (cap : Nat) (w : World) (hl : fs.length ≤ 1048576) (hfs : FilesAt w ao fs) (hsz : ∀ F ∈ fs, F.name.size ≤ maxLen ∧ F.text.size ≤ maxLen) :
    Calls Tryz.prog 71 #[.agg #[.slice ao fs.length cap]] w fun e w' => e = .returned (.bool (diskOkD fs)) ∧ Below w.heap.size w w' := by
  have HF := hide hfs
  have HS := hide hsz
  clear hfs hsz
  obtain ⟨R, HR⟩ : ∃ R, Hid (diskOkD fs = R) := ⟨_, hide rfl⟩
  rw [HR.out]
  by_cases h30 : (30 : Int) < (fs.length : Int)
  · have h30' : decide ((30 : Int) < (fs.length : Int)) = true := by simp; omega
    have hR : R = false := by rw [← HR.out, diskOkD, show decide (fs.length ≤ 30) = false from by simp; omega]; rfl
    subst hR
    go_enter Tryz.func71, Tryz.ntmps71
    go_wp2
    go_ret
    exact ⟨rfl, (Below.refl _ w).alloc (Nat.le_refl _) _⟩
  · have h30' : decide ((30 : Int) < (fs.length : Int)) = false := by simp; omega
    have HR0 : Hid (okFrom (prevOf fs 0) (fs.drop 0) = R) := by show _ = _; rw [← HR.out, diskOkD, show decide (fs.length ≤ 30) = true from by simp; omega]; rfl
    go_enter Tryz.func71, Tryz.ntmps71
    go_wp2
    go_loopw [3] (fun ii wr => ∃ (k : Nat), ii = .int .i64 k ∧ k ≤ fs.length ∧ Hid (okFrom (prevOf fs k) (fs.drop k) = R) ∧ Hid (Below (w.heap.size + 1) (w.alloc (.cells #[.slice ao fs.length cap] 24)) wr)) (fun ii _ => fs.length - (intOf ii).toNat)
    case atStart => exact ⟨0, rfl, Nat.zero_le _, HR0, Below.refl _ _⟩
    case round =>
      obtain ⟨k, rfl, hk, HK, HB⟩ := hrel
      have HB0 : Hid (Below w.heap.size w wr) := ((Below.refl _ w).alloc (Nat.le_refl _) _).trans (HB.out.mono (by omega))
      have hbox : wr.cell? ⟨w.heap.size, 0, none⟩ = some (.slice ao fs.length cap) := (HB.out.cell (p := ⟨w.heap.size, 0, none⟩) (by simp)).trans (by rw [cell_of_row _ _ _ _ _ (0, 0) (heap_alloc_new w _)]; rfl)
      by_cases hlt : k < fs.length
      · have hlt' : decide ((k : Int) < (fs.length : Int)) = true := by simp; omega
        have hsw : w.heap.size + 1 ≤ wr.heap.size := by have := HB.out.size; simpa using this
        obtain ⟨b, off, rfl, hbw, hc0, hc1, hc2⟩ := filesAt_keep HF.out HB0.out k hlt
        obtain ⟨hs1, hs2⟩ := HS.out fs[k] (List.getElem_mem hlt)
        obtain ⟨F, HFk⟩ : ∃ F, Hid (fs[k] = F) := ⟨fs[k], hide rfl⟩
        rw [HFk.out] at hc0 hc1 hc2 hs1 hs2
        have hi0 : (0 : Int) ≤ (k : Int) := by omega
        have hi1 : (k : Int) < (fs.length : Int) := by omega
        have b2 : Below wr.heap.size wr (wr.alloc (.cells #[.string F.name, .string F.text, .int .i64 F.kept] 61)) := (Below.refl _ wr).alloc (Nat.le_refl _) _
        have HB1 : Hid (Below (w.heap.size + 1) (w.alloc (.cells #[.slice (some ⟨b, off, none⟩) fs.length cap] 24)) (wr.alloc (.cells #[.string F.name, .string F.text, .int .i64 F.kept] 61))) := HB.out.trans (b2.mono hsw)
        have HB2 : Hid (Below w.heap.size w (wr.alloc (.cells #[.string F.name, .string F.text, .int .i64 F.kept] 61))) := HB0.out.trans (b2.mono (by omega))
        have hs2' := hs2
        unfold maxLen at hs2'
        go_wp2_with fail
        have hbox1 : (wr.alloc (.cells #[.string F.name, .string F.text, .int .i64 F.kept] 61)).cell? ⟨w.heap.size, 0, none⟩ = some (.slice (some ⟨b, off, none⟩) fs.length cap) := (b2.cell (p := ⟨w.heap.size, 0, none⟩) (by show w.heap.size < _; omega)).trans hbox
        have hfile := heap_alloc_new wr (.cells #[.string F.name, .string F.text, .int .i64 F.kept] 61)
        obtain ⟨W, hW⟩ : ∃ W, W = wr.alloc (.cells #[.string F.name, .string F.text, .int .i64 F.kept] 61) := ⟨_, rfl⟩
        rw [← hW] at HB1 HB2 hbox1 hfile ⊢
        have hg0 : W.cell? ⟨wr.heap.size, 0, none⟩ = some (.string F.name) := (cell_of_row W wr.heap.size 0 _ _ (0, 0) hfile).trans rfl
        have hg1 : W.cell? ⟨wr.heap.size, 1, none⟩ = some (.string F.text) := (cell_of_row W wr.heap.size 1 _ _ (0, 0) hfile).trans rfl
        have hg2 : W.cell? ⟨wr.heap.size, 2, none⟩ = some (.int .i64 F.kept) := (cell_of_row W wr.heap.size 2 _ _ (0, 0) hfile).trans rfl
        clear hW hfile b2 hbox hc0 hc1 hc2
        cases h1 : nameOkD F.name
        · have hR : Hid (R = false) := by show _ = _; rw [← HK.out, okFrom_bad hlt (by rw [HFk.out, fileOkD]; simp [h1])]
          go_quiet ((go_at_call 104; exact Calls.quiet_of_same (l03Name_val _ _ _ hs1 h1)))
          go_wp2
          go_ret
          rw [hR.out]
          exact ⟨rfl, below_drewN HB2.out _⟩
        · by_cases h2 : 20000 < F.text.size
          · have h2a : decide (20000 < F.text.size) = true := by simp; omega
            have h2b : decide ((20000 : Int) < (F.text.size : Int)) = true := by simp; omega
            have hR : Hid (R = false) := by show _ = _; rw [← HK.out, okFrom_bad hlt (by rw [HFk.out, fileOkD]; rw [show decide (F.text.size ≤ 20000) = false from by simp; omega]; simp)]
            go_quiet ((go_at_call 104; exact Calls.quiet_of_same (l03Name_val _ _ _ hs1 h1)))
            go_wp2
            go_ret
            rw [hR.out]
            exact ⟨rfl, below_drewN HB2.out _⟩
          · have h2a : decide (20000 < F.text.size) = false := by simp; omega
            have h2b : decide ((20000 : Int) < (F.text.size : Int)) = false := by simp; omega
            cases h3 : (decide ((0 : Int) ≤ F.kept) && decide (F.kept ≤ (F.text.size : Int)))
            · have hR : Hid (R = false) := by show _ = _; rw [← HK.out, okFrom_bad hlt (by rw [HFk.out, fileOkD]; rw [h3]; simp)]
              go_quiet ((first | (go_at_call 104; exact Calls.quiet_of_same (l03Name_val _ _ _ hs1 h1)) | (go_at_call 30; exact Calls.quiet_of_same (l01In_val _ _ _ _ _ h3))))
              go_wp2
              go_ret
              rw [hR.out]
              exact ⟨rfl, below_drewN HB2.out _⟩
            · have hok : fileOkD F = true := by rw [fileOkD, h3, h1, show decide (F.text.size ≤ 20000) = true from by simp; omega]; rfl
              cases hk0 : decide (0 < k)
              · have hkz : k = 0 := by simpa using hk0
                have HK1 : Hid (okFrom (prevOf fs (k + 1)) (fs.drop (k + 1)) = R) := by show _ = _; rw [← HK.out]; subst hkz; exact (okFrom_first hlt (by rw [HFk.out]; exact hok)).symm
                clear hkz
                go_quiet ((first | (go_at_call 104; exact Calls.quiet_of_same (l03Name_val _ _ _ hs1 h1)) | (go_at_call 30; exact Calls.quiet_of_same (l01In_val _ _ _ _ _ h3))))
                go_wp2
                go_roundw
                case rel => exact ⟨k + 1, by go_num, by omega, HK1, below_drewN HB1.out _⟩
                case measure => simp [intOf]; omega
              · have hkp : 0 < k := by simpa using hk0
                obtain ⟨b', off', hbe, hbw', hd0, hd1, hd2⟩ := filesAt_keep HF.out HB2.out (k - 1) (by omega)
                obtain ⟨rfl, rfl⟩ : b = b' ∧ off = off' := by simpa using hbe
                obtain ⟨F', HFk'⟩ : ∃ F', Hid (fs[k - 1] = F') := ⟨fs[k - 1], hide rfl⟩
                rw [HFk'.out] at hd0
                clear hd1 hd2 hbe
                have HD := hide (okFrom_more hlt hkp (by rw [HFk.out]; exact hok))
                have hw : IntKind.i64.wrap ((k : Int) - 1) = ((k - 1 : Nat) : Int) := by rw [IntKind.wrap_i64]; omega
                have hj0 : (0 : Int) ≤ ((k - 1 : Nat) : Int) := by omega
                have hj1 : ((k - 1 : Nat) : Int) < (fs.length : Int) := by omega
                go_quiet ((first | (go_at_call 104; exact Calls.quiet_of_same (l03Name_val _ _ _ hs1 h1)) | (go_at_call 30; exact Calls.quiet_of_same (l01In_val _ _ _ _ _ h3))))
                cases hless : Op.bytesLess F'.name.toList F.name.toList
                · have hR : Hid (R = false) := by show _ = _; rw [← HK.out, HD.out, HFk.out, HFk'.out, hless]; rfl
                  go_wp2
                  go_ret
                  rw [hR.out]
                  exact ⟨rfl, below_drewN HB2.out _⟩
                · have HK1 : Hid (okFrom (prevOf fs (k + 1)) (fs.drop (k + 1)) = R) := by show _ = _; rw [← HK.out, HD.out, HFk.out, HFk'.out, hless, Bool.true_and]
                  go_wp2
                  go_roundw
                  case rel => exact ⟨k + 1, by go_num, by omega, HK1, below_drewN HB1.out _⟩
                  case measure => simp [intOf]; omega
      · have hlt' : decide ((k : Int) < (fs.length : Int)) = false := by simp; omega
        have hR : Hid (R = true) := by show _ = _; rw [← HK.out, okFrom_end (by omega)]
        go_wp2
        go_ret
        rw [hR.out]
        exact ⟨rfl, HB0.out⟩
theorem clone_any (s : ByteArray) (w : World) (hs : s.size ≤ 1048576) :
    Calls Tryz.prog 169 #[.string s] w fun e w' => e = .returned (.string s) ∧ Below w.heap.size w w' := by
  by_cases h0 : s.size = 0
  · have e0 : s = ⟨#[]⟩ := ByteArray.ext (Array.eq_empty_of_size_eq_zero h0)
    subst e0
    go_enter Tryz.func169, Tryz.ntmps169
    go_wp2
    go_ret
    exact ⟨rfl, Below.refl _ _⟩
  · obtain ⟨i0, hi, hz0, hz1, hz2⟩ := info_parts Tryz.info5
    have hinfo : (Tryz.prog.info? 5).map (·.size) = some 1 := by rw [hi]; simp [hz1]
    obtain ⟨M, hM⟩ : ∃ M, M = madeCells (Value.int .u8 0).cells (((s.size : Nat) : Int).toNat * i0.size) := ⟨_, rfl⟩
    have hmk : ∀ W : World, (Instr.makeSlice 142 (.int .i64 (s.size : Int)) (.int .i64 (s.size : Int))).run Tryz.prog W = .ok (.slice (some ⟨W.heap.size, 0, none⟩) s.size s.size) (W.alloc (.cells M 5)) := fun W => by
      have h := run_make (P := Tryz.prog) W 142 5 i0 (.int .u8 0) Tryz.underlying142 hi hz0 .i64 .i64 (s.size : Int) (s.size : Int) (by omega) (by omega) (by rw [hz2]; omega) (by omega)
      rw [← hM] at h
      simpa using h
    have hMs : M.size = s.size := by rw [hM, size_madeCells, hz1]; simp
    clear hM
    have hcp := Lib.run_copy_row_string (P := Tryz.prog) (w.alloc (.cells M 5)) 142 9 3 5 w.heap.size 0 s.size s.size s M 5 Tryz.underlying142 hinfo (heap_alloc_new w _) (Nat.le_refl _) (by omega)
    obtain ⟨Y, hY⟩ : ∃ Y, Y = (M.toList.take 0 ++ Lib.byteCells s.data.toList ++ M.toList.drop (0 + s.size)).toArray := ⟨_, rfl⟩
    rw [← hY] at hcp
    have hYl : Y.toList = Lib.byteCells s.data.toList := by
      rw [hY, List.toList_toArray, List.take_zero, List.nil_append, List.drop_of_length_le (by rw [Array.length_toList]; omega), List.append_nil]
    have hYs : Y.size = s.size := by rw [← Array.length_toList, hYl, Lib.byteCells_length, ← Lib.size_eq]
    have hgY : ((w.alloc (.cells M 5)).setRow w.heap.size Y).heap[w.heap.size]? = some (.cells Y 5 (0, 0)) := setRow_heap _ _ M _ 5 (0, 0) (heap_alloc_new w _)
    have hne : s.data.toList ≠ [] := fun e => h0 (by rw [Lib.size_eq, e]; rfl)
    have hUS := Lib.run_unsafeString_row (P := Tryz.prog) ((w.alloc (.cells M 5)).setRow w.heap.size Y) 242 3 9 5 Tryz.underlying242 Tryz.cells5 w.heap.size Y.size (by unfold World.shape?; rw [hgY]) s.data.toList hne (by rw [← Lib.size_eq]; omega) (by rw [← Lib.size_eq]; omega)
      (fun j x hx => Lib.cells_of_row hgY Y.size j _ (by rw [List.take_of_length_le (by rw [Array.length_toList]; exact Nat.le_refl _), hYl]; simp [Lib.byteCells, hx]))
    rw [← Lib.size_eq] at hUS
    clear hY
    go_enter Tryz.func169, Tryz.ntmps169
    go_wp2
    go_ret
    have hb1 : Below w.heap.size w (w.alloc (.cells M 5)) := (Below.refl _ w).alloc (Nat.le_refl _) _
    have hb2 : Below w.heap.size (w.alloc (.cells M 5)) ((w.alloc (.cells M 5)).setRow w.heap.size Y) := ⟨rfl, rfl, rfl, by simp, fun k hk => setRow_other _ _ _ _ (by omega)⟩
    exact ⟨rfl, Lib.below_freeze (hb1.trans hb2) (p := ⟨w.heap.size, 0, none⟩) (Nat.le_refl _) _⟩
theorem ownText_any (s : ByteArray) (w : World) (hs : s.size ≤ 1048576) :
    Calls Tryz.prog 116 #[.string s] w fun e w' => e = .returned (.string s) ∧ Below w.heap.size w w' := by
  go_enter Tryz.func116, Tryz.ntmps116
  go_wp2_with (first | (go_at_call 169; refine (clone_any s _ hs).mono ?_; rintro e w' ⟨rfl, hb⟩) | go_in)
  go_ret
  exact ⟨rfl, hb⟩
def keptD (fs : List FileD) : Bool := fs.all (fun F => !decide (F.kept < (F.text.size : Int)))
def allKeptD (fs : List FileD) : Bool := diskOkD fs && keptD fs
theorem kept_bad {fs : List FileD} {k : Nat} (h : k < fs.length) (hF : decide (fs[k].kept < (fs[k].text.size : Int)) = true) : keptD (fs.drop k) = false := by
  rw [List.drop_eq_getElem_cons h, keptD, List.all_cons, hF]; rfl
theorem kept_more {fs : List FileD} {k : Nat} (h : k < fs.length) (hF : decide (fs[k].kept < (fs[k].text.size : Int)) = false) : keptD (fs.drop k) = keptD (fs.drop (k + 1)) := by
  rw [List.drop_eq_getElem_cons h, keptD, List.all_cons, hF]; rfl
theorem kept_end {fs : List FileD} {k : Nat} (h : fs.length ≤ k) : keptD (fs.drop k) = true := by
  rw [List.drop_eq_nil_of_le h]; rfl
def atFrom (name : ByteArray) : Nat → List FileD → Int
  | _, [] => -1
  | k, F :: r => if (F.name.toList == name.toList) = true then (k : Int) else atFrom name (k + 1) r
theorem at_hit {fs : List FileD} {name : ByteArray} {k : Nat} (h : k < fs.length) (hF : (fs[k].name.toList == name.toList) = true) : atFrom name k (fs.drop k) = k := by
  rw [List.drop_eq_getElem_cons h, atFrom, if_pos hF]
theorem at_miss {fs : List FileD} {name : ByteArray} {k : Nat} (h : k < fs.length) (hF : (fs[k].name.toList == name.toList) = false) : atFrom name k (fs.drop k) = atFrom name (k + 1) (fs.drop (k + 1)) := by
  rw [List.drop_eq_getElem_cons h, atFrom, if_neg (by rw [hF]; decide)]
theorem at_end {fs : List FileD} {name : ByteArray} {k : Nat} (h : fs.length ≤ k) : atFrom name k (fs.drop k) = -1 := by
  rw [List.drop_eq_nil_of_le h]; rfl
theorem at_cases (name : ByteArray) : ∀ (fs : List FileD) (k : Nat), (atFrom name k fs = -1 ∧ ∀ F ∈ fs, (F.name.toList == name.toList) = false) ∨ (∃ j, ∃ h : j < fs.length, atFrom name k fs = ((k + j : Nat) : Int) ∧ (fs[j].name.toList == name.toList) = true ∧ fs.find? (fun F => F.name.toList == name.toList) = some fs[j])
  | [], _ => .inl ⟨rfl, fun _ h => absurd h (List.not_mem_nil)⟩
  | F :: r, k => by
    cases hF : (F.name.toList == name.toList)
    · rcases at_cases name r (k + 1) with ⟨h1, h2⟩ | ⟨j, h, h1, h2, h3⟩
      · refine .inl ⟨by rw [atFrom, if_neg (by rw [hF]; decide)]; exact h1, ?_⟩
        intro G hG
        rcases List.mem_cons.1 hG with rfl | hG
        · exact hF
        · exact h2 G hG
      · refine .inr ⟨j + 1, by simp; omega, ?_, ?_, ?_⟩
        · rw [atFrom, if_neg (by rw [hF]; decide), h1]; congr 1; omega
        · simpa using h2
        · rw [List.find?_cons, hF]; simpa using h3
    · refine .inr ⟨0, by simp, by rw [atFrom, if_pos hF]; rfl, hF, by rw [List.find?_cons, hF]; rfl⟩
def fileD (fs : List FileD) (name : ByteArray) : Option FileD := fs.find? (fun F => F.name.toList == name.toList)
theorem fileD_hit {fs : List FileD} {name : ByteArray} {k : Nat} (h : k < fs.length) (hF : (fs[k].name.toList == name.toList) = true) : fileD (fs.drop k) name = some fs[k] := by
  rw [List.drop_eq_getElem_cons h, fileD, List.find?_cons, hF]
theorem fileD_miss {fs : List FileD} {name : ByteArray} {k : Nat} (h : k < fs.length) (hF : (fs[k].name.toList == name.toList) = false) : fileD (fs.drop k) name = fileD (fs.drop (k + 1)) name := by
  rw [List.drop_eq_getElem_cons h, fileD, List.find?_cons, hF]; rfl
theorem fileD_end {fs : List FileD} {name : ByteArray} {k : Nat} (h : fs.length ≤ k) : fileD (fs.drop k) name = none := by
  rw [List.drop_eq_nil_of_le h]; rfl
theorem small_max {n : Nat} (h : n ≤ 1048576) : n ≤ maxLen := by unfold maxLen; omega
theorem szFs_small : ∀ (fs : List FileD) (n : Int), n ≤ 1048576 → 0 ≤ n → 0 ≤ szFs fs n → ∀ F ∈ fs, F.name.size ≤ 1048576 ∧ F.text.size ≤ 1048576
  | [], _, _, _, _, F, h => absurd h List.not_mem_nil
  | G :: r, n, h1, h2, h3, F, h => by
    rw [szFs] at h3
    by_cases hneg : szF G n < 0
    · rw [if_pos hneg] at h3; omega
    · rw [if_neg hneg] at h3
      have hle := szF_le G n h2
      rcases List.mem_cons.1 h with rfl | h
      · unfold szF at hneg
        split at hneg
        · omega
        · split at hneg <;> omega
      · exact szFs_small r _ (by omega) (by omega) h3 F h
theorem conv_byte (W : World) (b : UInt8) (z : Int) (hz : (b.toNat : Int) = z) :
    (convert 142 9 (.slice (some ⟨W.heap.size, 0, none⟩) 1 1)).run Tryz.prog (W.alloc (.cells #[.int .u8 z] 5)) = .ok (.string ⟨#[b]⟩) (W.alloc (.cells #[.int .u8 z] 5)) := by
  refine run_convert_bytes_back (P := Tryz.prog) (W.alloc (.cells #[.int .u8 z] 5)) 142 9 5 ⟨W.heap.size, 0, none⟩ 1 [b] Tryz.underlying142 Tryz.underlying5 Tryz.underlying9 ?_
  intro j hj
  exact cells_new W #[.int .u8 z] 5 j _ (by
    have : j = 0 := by simpa using hj
    subst this
    simp [hz])
def mk (k : Nat) : List UInt8 := 109 :: Wd.decA 20 k []
theorem mark_any (n : Nat) (w : World) (h0 : 0 < n) (h1 : n ≤ 9223372036854775807) :
    Calls Tryz.prog 52 #[.int .i64 n] w fun e w' => e = .returned (.string ⟨(mk n).toArray⟩) ∧ Below w.heap.size w w' := by
  have hz : decide ((n : Int) ≤ 0) = false := by simp; omega
  go_enter Tryz.func52, Tryz.ntmps52
  go_wp2
  go_loopw [0, 3] (fun t v wr => ∃ (f m : Nat) (acc : List UInt8), t = .int .i64 m ∧ v = .string ⟨acc.toArray⟩ ∧ m < 10 ^ f ∧ m ≤ 9223372036854775807 ∧ acc.length + f = 20 ∧ Hid (Wd.decA f m acc = Wd.decA 20 n []) ∧ Below w.heap.size w wr) (fun t _ _ => (intOf t).toNat)
  case atStart => exact ⟨20, n, [], rfl, rfl, by omega, h1, rfl, rfl, Below.refl _ _⟩
  case round =>
    obtain ⟨f, m, acc, rfl, rfl, hm, hm2, hl, hacc, hb⟩ := hrel
    have hbs := hb.size
    by_cases hlt : 0 < m
    · obtain ⟨f, rfl⟩ : ∃ g, f = g + 1 := by
        cases f with
        | zero => simp at hm; omega
        | succ g => exact ⟨g, rfl⟩
      have hfac := hide (Wd.decA_step f m acc (by omega))
      have hdiv : m / 10 < 10 ^ f := Nat.div_lt_of_lt_mul (by rw [Nat.mul_comm, ← Nat.pow_succ]; exact hm)
      have hcv := conv_byte wr (Wd.figB (m % 10)) (48 + (m : Int) % 10) (by rw [Wd.figB_val _ (by omega), Wd.figI_low _ (by omega)]; omega)
      go_wp2
      go_roundw
      case rel =>
        refine ⟨f, m / 10, Wd.figB (m % 10) :: acc, by go_num, congrArg Value.string (cat_list [Wd.figB (m % 10)] acc), hdiv, by omega, by simp; omega, ?_, hb.alloc hbs _⟩
        show _ = _
        rw [← hacc.out, hfac.out]
      case measure => simp [intOf]; omega
    · have hm0 : m = 0 := by omega
      subst hm0
      have hfin := hide ((Wd.decA_zero f acc).symm.trans hacc.out)
      go_wp2
      go_ret
      unfold mk
      rw [← hfin.out]
      exact ⟨congrArg (fun x => Ending.returned (Value.string x)) (cat_list [109] acc), hb⟩
end Go.Proofs.YtnhfngpegmpcnamGreatDoor
