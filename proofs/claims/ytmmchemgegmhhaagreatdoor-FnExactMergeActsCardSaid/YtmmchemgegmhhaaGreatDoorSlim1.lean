import Derived.Laws.MakeOwn
import Derived.Test.YtmmchemgegmhhaaGreatDoorSlim0
set_option maxRecDepth 100000
set_option maxHeartbeats 1600000
namespace Go.Proofs.YtmmchemgegmhhaaGreatDoor
open Go.RowKit
structure FileD where
  name : ByteArray
  text : ByteArray
  kept : Int
def FilesAt (w : World) (ao : Option Addr) (fs : List FileD) : Prop := ∀ j (h : j < fs.length), ∃ b off : Nat, ao = some ⟨b, off, none⟩ ∧ b < w.heap.size ∧
  w.cell? ⟨b, off + j * 3, none⟩ = some (.string fs[j].name) ∧ w.cell? ⟨b, off + j * 3 + 1, none⟩ = some (.string fs[j].text) ∧ w.cell? ⟨b, off + j * 3 + 2, none⟩ = some (.int .i64 fs[j].kept)
theorem filesAt_keep {w w' : World} {ao : Option Addr} {fs : List FileD} (h : FilesAt w ao fs) (hb : Below w.heap.size w w') : FilesAt w' ao fs := by
  intro j hj
  obtain ⟨b, off, h1, h2, h3, h4, h5⟩ := h j hj
  exact ⟨b, off, h1, Nat.lt_of_lt_of_le h2 hb.size, (hb.cell (p := ⟨b, off + j * 3, none⟩) h2).trans h3, (hb.cell (p := ⟨b, off + j * 3 + 1, none⟩) h2).trans h4, (hb.cell (p := ⟨b, off + j * 3 + 2, none⟩) h2).trans h5⟩
def szF (F : FileD) (n : Int) : Int := if n < F.name.size then -1 else if n < F.name.size + F.text.size then -1 else n - F.name.size - F.text.size
theorem szFile_any (F : FileD) (n : Int) (w : World) (h0 : 0 ≤ n) (h1 : n ≤ 1048576) (hN : F.name.size ≤ maxLen) (hX : F.text.size ≤ maxLen) :
    Calls Tryz.prog 143 #[.agg #[.string F.name, .string F.text, .int .i64 F.kept], .int .i64 n] w fun e w' => e = .returned (.int .i64 (szF F n)) ∧ Below w.heap.size w w' := by
  obtain ⟨a, b, k⟩ := F
  simp only [szF] at hN hX ⊢
  unfold maxLen at hN hX
  by_cases h2 : n < a.size
  · have h2' : decide (n - (a.size : Int) < 0) = true := by simp; omega
    rw [if_pos h2]
    go_enter Tryz.func143, Tryz.ntmps143
    go_wp2
    go_ret
    exact ⟨rfl, (Below.refl _ w).alloc (Nat.le_refl _) _⟩
  · have h2' : decide (n - (a.size : Int) < 0) = false := by simp; omega
    rw [if_neg h2]
    by_cases h3 : n < a.size + b.size
    · have h3' : decide (n - (a.size : Int) - (b.size : Int) < 0) = true := by simp; omega
      rw [if_pos h3]
      go_enter Tryz.func143, Tryz.ntmps143
      go_wp2
      go_ret
      exact ⟨rfl, (Below.refl _ w).alloc (Nat.le_refl _) _⟩
    · have h3' : decide (n - (a.size : Int) - (b.size : Int) < 0) = false := by simp; omega
      rw [if_neg h3]
      go_enter Tryz.func143, Tryz.ntmps143
      go_wp2
      go_ret
      exact ⟨rfl, (Below.refl _ w).alloc (Nat.le_refl _) _⟩
theorem eqFile_same (F : FileD) (w : World) :
    Calls Tryz.prog 146 #[.agg #[.string F.name, .string F.text, .int .i64 F.kept], .agg #[.string F.name, .string F.text, .int .i64 F.kept]] w fun e w' => e = .returned (.bool true) ∧ Below w.heap.size w w' := by
  obtain ⟨a, b, k⟩ := F
  have h1 : (a.toList == a.toList) = true := beq_self_eq_true _
  have h2 : (b.toList == b.toList) = true := beq_self_eq_true _
  have h3 : (k == k) = true := beq_self_eq_true _
  go_enter Tryz.func146, Tryz.ntmps146
  go_wp2
  go_ret
  exact ⟨rfl, ((Below.refl _ w).alloc (Nat.le_refl _) _).alloc (by simp) _⟩
theorem toFile_any (F : FileD) (w : World) :
    Calls Tryz.prog 145 #[.agg #[.string F.name, .string F.text, .int .i64 F.kept]] w fun e w' => e = .returned (.agg #[.string F.name, .string F.text, .int .i64 F.kept]) ∧ Below w.heap.size w w' := by
  obtain ⟨a, b, k⟩ := F
  go_enter Tryz.func145, Tryz.ntmps145
  go_wp2
  refine bodyPost_ret (v := .agg #[.string a, .string b, .int .i64 k]) (by simp [results, Tryz.results145, go_sem]) rfl ⟨rfl, ?_⟩
  exact (((Below.refl _ w).alloc (Nat.le_refl _) _).alloc (by simp) _).alloc (by simp; omega) _
def szFs : List FileD → Int → Int
  | [], n => n
  | F :: r, n => if szF F n < 0 then -1 else szFs r (szF F n)
theorem szF_le (F : FileD) (n : Int) (h : 0 ≤ n) : szF F n ≤ n := by
  unfold szF; split
  · omega
  · split <;> omega
theorem szFileS_any (fs : List FileD) (ao : Option Addr) (cap : Nat) (n : Int) (w : World) (h0 : 0 ≤ n) (h1 : n ≤ 1048576) (hl : fs.length ≤ maxLen) (hfs : FilesAt w ao fs) (hsz : ∀ F ∈ fs, F.name.size ≤ maxLen ∧ F.text.size ≤ maxLen) :
    Calls Tryz.prog 95 #[.slice ao fs.length cap, .int .i64 n] w fun e w' => e = .returned (.int .i64 (if n < fs.length then -1 else szFs fs (n - fs.length))) ∧ Below w.heap.size w w' := by
  have HF := hide hfs
  have HS := hide hsz
  clear hfs hsz
  unfold maxLen at hl
  by_cases hn : n < fs.length
  · have hn' : decide (n - (fs.length : Int) < 0) = true := by simp; omega
    rw [if_pos hn]
    go_enter Tryz.func95, Tryz.ntmps95
    go_wp2
    go_ret
    exact ⟨rfl, Below.refl _ _⟩
  · have hn' : decide (n - (fs.length : Int) < 0) = false := by simp; omega
    rw [if_neg hn]
    obtain ⟨R, HR⟩ : ∃ R, Hid (szFs fs (n - fs.length) = R) := ⟨_, rfl⟩
    rw [HR.out]
    go_enter Tryz.func95, Tryz.ntmps95
    go_wp2
    go_loopw [1, 5] (fun m ii wr => ∃ (k : Nat) (x : Int), ii = .int .i64 k ∧ m = .int .i64 x ∧ k ≤ fs.length ∧ 0 ≤ x ∧ x ≤ 1048576 ∧ Hid (szFs (fs.drop k) x = R) ∧ Hid (Below w.heap.size w wr)) (fun _ ii _ => fs.length - (intOf ii).toNat)
    case atStart => exact ⟨0, n - fs.length, rfl, rfl, Nat.zero_le _, by omega, by omega, HR.out, Below.refl _ _⟩
    case round =>
      obtain ⟨k, x, rfl, rfl, hk, hx0, hx1, HX, HB⟩ := hrel
      by_cases hlt : k < fs.length
      · have hlt' : decide ((k : Int) < (fs.length : Int)) = true := by simp; omega
        obtain ⟨b, off, rfl, hbw, hc0, hc1, hc2⟩ := filesAt_keep HF.out HB.out k hlt
        obtain ⟨hs1, hs2⟩ := HS.out fs[k] (List.getElem_mem hlt)
        have HD : Hid (szFs (fs.drop k) x = if szF fs[k] x < 0 then -1 else szFs (fs.drop (k + 1)) (szF fs[k] x)) := by show _ = _; rw [List.drop_eq_getElem_cons hlt]; rfl
        have hle := szF_le fs[k] x hx0
        generalize fs[k] = F at hc0 hc1 hc2 hs1 hs2 HD hle
        have hi0 : (0 : Int) ≤ (k : Int) := by omega
        have hi1 : (k : Int) < (fs.length : Int) := by omega
        go_wp2_with fail
        refine (szFile_any F x _ hx0 hx1 hs1 hs2).mono ?_
        rintro e w1 ⟨rfl, b1⟩
        have HB1 := hide (HB.out.trans (b1.mono HB.out.size))
        clear b1 hc0 hc1 hc2
        generalize szF F x = y at HD hle
        by_cases hneg : y < 0
        · have hneg' : decide (y < 0) = true := by simp; omega
          have hR : Hid (R = -1) := by show _ = _; rw [← HX.out, HD.out, if_pos hneg]
          go_wp2
          go_ret
          rw [hR.out]
          exact ⟨rfl, HB1.out⟩
        · have hneg' : decide (y < 0) = false := by simp; omega
          have hR : Hid (szFs (fs.drop (k + 1)) y = R) := by show _ = _; rw [← HX.out, HD.out, if_neg hneg]
          go_wp2
          go_roundw
          case rel => exact ⟨k + 1, y, by go_num, rfl, by omega, by omega, by omega, hR, HB1⟩
          case measure => simp [intOf]; omega
      · have hlt' : decide ((k : Int) < (fs.length : Int)) = false := by simp; omega
        have hR : Hid (x = R) := by show _ = _; rw [← HX.out, List.drop_eq_nil_of_le (by omega)]; rfl
        go_wp2
        go_ret
        rw [← hR.out]
        exact ⟨rfl, HB.out⟩
theorem szDisk_any (fs : List FileD) (ao : Option Addr) (cap : Nat) (n : Int) (w : World) (h0 : 0 ≤ n) (h1 : n ≤ 1048576) (hl : fs.length ≤ maxLen) (hfs : FilesAt w ao fs) (hsz : ∀ F ∈ fs, F.name.size ≤ maxLen ∧ F.text.size ≤ maxLen) :
    Calls Tryz.prog 50 #[.agg #[.slice ao fs.length cap], .int .i64 n] w fun e w' => (∃ r : Int, e = .returned (.int .i64 r) ∧ (0 ≤ r → r = szFs fs (n - fs.length) ∧ (fs.length : Int) ≤ n)) ∧ Below w.heap.size w w' := by
  have HF := hide hfs
  have HS := hide hsz
  clear hfs hsz
  go_enter Tryz.func50, Tryz.ntmps50
  go_wp2_with fail
  refine (szFileS_any fs ao cap n _ h0 h1 hl (filesAt_keep HF.out ((Below.refl _ w).alloc (Nat.le_refl _) _)) HS.out).mono ?_
  rintro e w1 ⟨rfl, b1⟩
  obtain ⟨R, HR⟩ : ∃ R : Int, Hid ((if n < fs.length then -1 else szFs fs (n - fs.length)) = R) := ⟨_, rfl⟩
  rw [HR.out]
  have B1 : Hid (Below w.heap.size w w1) := ((Below.refl _ w).alloc (Nat.le_refl _) _).trans (b1.mono (by simp))
  clear b1
  by_cases hneg : R < 0
  · have hneg' : decide (R < 0) = true := by simp; omega
    go_wp2
    go_ret
    exact ⟨⟨-1, rfl, fun h => absurd h (by decide)⟩, B1.out⟩
  · have hneg' : decide (R < 0) = false := by simp; omega
    go_wp2
    go_ret
    refine ⟨⟨R, rfl, fun _ => ?_⟩, B1.out⟩
    have := HR.out
    split at this
    · omega
    · exact ⟨this.symm, by omega⟩
def FilesIn (C : Array Value) (fs : List FileD) (k : Nat) : Prop := ∀ j (h : j < fs.length), j < k → C[j * 3]? = some (.string fs[j].name) ∧ C[j * 3 + 1]? = some (.string fs[j].text) ∧ C[j * 3 + 2]? = some (.int .i64 fs[j].kept)
theorem Tryz.infoFile : (Tryz.prog.info? 74).map (fun i => (i.zero, i.size, i.bytes)) = some (some (.agg #[.string ⟨#[]⟩, .string ⟨#[]⟩, .int .i64 0]), 3, 40) := by kernel_rfl
def putFile (C : Array Value) (k : Nat) (F : FileD) : Array Value := ((C.setIfInBounds (k * 3) (.string F.name)).setIfInBounds (k * 3 + 1) (.string F.text)).setIfInBounds (k * 3 + 2) (.int .i64 F.kept)
theorem putFile_size (C : Array Value) (k : Nat) (F : FileD) : (putFile C k F).size = C.size := by simp [putFile]
theorem filesIn_put {C : Array Value} {fs : List FileD} {k : Nat} (h : FilesIn C fs k) (hk : k < fs.length) (hs : C.size = fs.length * 3) : FilesIn (putFile C k fs[k]) fs (k + 1) := by
  intro j hj hjk
  unfold putFile
  by_cases e : j = k
  · subst e
    refine ⟨?_, ?_, ?_⟩ <;> simp [Array.getElem?_setIfInBounds] <;> omega
  · obtain ⟨h1, h2, h3⟩ := h j hj (by omega)
    refine ⟨?_, ?_, ?_⟩
    · rw [Array.getElem?_setIfInBounds_ne (by omega), Array.getElem?_setIfInBounds_ne (by omega), Array.getElem?_setIfInBounds_ne (by omega)]; exact h1
    · rw [Array.getElem?_setIfInBounds_ne (by omega), Array.getElem?_setIfInBounds_ne (by omega), Array.getElem?_setIfInBounds_ne (by omega)]; exact h2
    · rw [Array.getElem?_setIfInBounds_ne (by omega), Array.getElem?_setIfInBounds_ne (by omega), Array.getElem?_setIfInBounds_ne (by omega)]; exact h3
theorem file_stored {w : World} {g k : Nat} {C : Array Value} {t : TypeId} (F : FileD) (h : w.heap[g]? = some (.cells C t (0, 0))) :
    (((w.setCell ⟨g, k * 3, none⟩ (.string F.name)).setCell ⟨g, k * 3 + 1, none⟩ (.string F.text)).setCell ⟨g, k * 3 + 2, none⟩ (.int .i64 F.kept)).heap[g]? = some (.cells (putFile C k F) t (0, 0)) :=
  heap_setCell_same _ g _ _ t _ (heap_setCell_same _ g _ _ t _ (heap_setCell_same w g _ C t _ h))
theorem toFileS_any (fs : List FileD) (ao : Option Addr) (cap : Nat) (w : World) (hl : fs.length ≤ 1048576) (hfs : FilesAt w ao fs) :
    Calls Tryz.prog 98 #[.slice ao fs.length cap] w fun e w' => (∃ C : Array Value, e = .returned (.slice (some ⟨w.heap.size, 0, none⟩) fs.length fs.length) ∧ w'.heap[w.heap.size]? = some (.cells C 74 (0, 0)) ∧ C.size = fs.length * 3 ∧ FilesIn C fs fs.length) ∧ Below w.heap.size w w' := by
  have HF := hide hfs
  clear hfs
  obtain ⟨i0, hi, hz0, hz1, hz2⟩ := info_parts Tryz.infoFile
  obtain ⟨M, hM⟩ : ∃ M, M = madeCells (Value.agg #[.string ⟨#[]⟩, .string ⟨#[]⟩, .int .i64 0]).cells (((fs.length : Nat) : Int).toNat * i0.size) := ⟨_, rfl⟩
  have hmk : ∀ W : World, (Instr.makeSlice 25 (.int .i64 (fs.length : Int)) (.int .i64 (fs.length : Int))).run Tryz.prog W = .ok (.slice (some ⟨W.heap.size, 0, none⟩) fs.length fs.length) (W.alloc (.cells M 74)) := fun W => by
    have h := run_make (P := Tryz.prog) W 25 74 i0 (.agg #[.string ⟨#[]⟩, .string ⟨#[]⟩, .int .i64 0]) Tryz.underlying25 hi hz0 .i64 .i64 (fs.length : Int) (fs.length : Int) (by omega) (by omega) (by rw [hz2]; omega) (by omega)
    rw [← hM] at h
    simpa using h
  have hMs : M.size = fs.length * 3 := by rw [hM, size_madeCells, hz1]; simp
  clear hM
  go_enter Tryz.func98, Tryz.ntmps98
  go_wp2
  go_loopw [4] (fun ii wr => ∃ (k : Nat) (C : Array Value), ii = .int .i64 k ∧ k ≤ fs.length ∧ Hid (wr.heap[w.heap.size]? = some (.cells C 74 (0, 0))) ∧ C.size = fs.length * 3 ∧ Hid (FilesIn C fs k) ∧ Hid (Below w.heap.size w wr)) (fun ii _ => fs.length - (intOf ii).toNat)
  case atStart => exact ⟨0, M, rfl, Nat.zero_le _, heap_alloc_new w _, hMs, fun j _ hj => absurd hj (by omega), (Below.refl _ w).alloc (Nat.le_refl _) _⟩
  case round =>
    obtain ⟨k, C, rfl, hk, HC, hCs, HI, HB⟩ := hrel
    by_cases hlt : k < fs.length
    · have hlt' : decide ((k : Int) < (fs.length : Int)) = true := by simp; omega
      obtain ⟨b, off, rfl, hbw, hc0, hc1, hc2⟩ := filesAt_keep HF.out HB.out k hlt
      obtain ⟨F, HFk⟩ : ∃ F, Hid (fs[k] = F) := ⟨fs[k], hide rfl⟩
      rw [HFk.out] at hc0 hc1 hc2
      have hi0 : (0 : Int) ≤ (k : Int) := by omega
      have hi1 : (k : Int) < (fs.length : Int) := by omega
      go_wp2_with fail
      refine (toFile_any F _).mono ?_
      rintro e w1 ⟨rfl, b1⟩
      have HB1 := hide (HB.out.trans (b1.mono HB.out.size))
      have hlt1 : w.heap.size < wr.heap.size := by
        rcases Nat.lt_or_ge w.heap.size wr.heap.size with h | h
        · exact h
        · have := HC.out; rw [Array.getElem?_eq_none h] at this; cases this
      have hC1 : w1.heap[w.heap.size]? = some (.cells C 74 (0, 0)) := (b1.block _ hlt1).trans HC.out
      clear b1 hc0 hc1 hc2
      have hq0 := cell_of_row w1 w.heap.size (k * 3) C 74 (0, 0) hC1
      have hq1 := cell_of_row w1 w.heap.size (k * 3 + 1) C 74 (0, 0) hC1
      have hq2 := cell_of_row w1 w.heap.size (k * 3 + 2) C 74 (0, 0) hC1
      have hf0 := frozen_of_row w1 w.heap.size (k * 3) C 74 hC1
      have hf1 := frozen_of_row w1 w.heap.size (k * 3 + 1) C 74 hC1
      have hf2 := frozen_of_row w1 w.heap.size (k * 3 + 2) C 74 hC1
      rw [Array.getElem?_eq_getElem (by omega)] at hq0 hq1 hq2
      have HC1 := hide hC1
      clear hC1
      have HN : Hid (FilesIn (putFile C k F) fs (k + 1)) := by have := filesIn_put HI.out hlt hCs; rw [HFk.out] at this; exact this
      have HC2 := hide (file_stored (k := k) F HC1.out)
      have HB2 := hide (((HB1.out.setCell (p := ⟨w.heap.size, k * 3, none⟩) (Nat.le_refl _) (.string F.name)).setCell (p := ⟨w.heap.size, k * 3 + 1, none⟩) (Nat.le_refl _) (.string F.text)).setCell (p := ⟨w.heap.size, k * 3 + 2, none⟩) (Nat.le_refl _) (.int .i64 F.kept))
      go_wp2_with fail
      go_roundw
      case rel => exact ⟨k + 1, putFile C k F, by go_num, by omega, HC2, by rw [putFile_size]; exact hCs, HN, HB2⟩
      case measure => simp [intOf]; omega
    · have hlt' : decide ((k : Int) < (fs.length : Int)) = false := by simp; omega
      have hke : k = fs.length := by omega
      subst hke
      go_wp2
      go_ret
      exact ⟨⟨C, rfl, HC.out, hCs, HI.out⟩, HB.out⟩
theorem filesAt_own {w : World} {g : Nat} {C : Array Value} {t : TypeId} {fs : List FileD} (h : w.heap[g]? = some (.cells C t (0, 0))) (hC : FilesIn C fs fs.length) : FilesAt w (some ⟨g, 0, none⟩) fs := by
  intro j hj
  obtain ⟨h1, h2, h3⟩ := hC j hj hj
  have hg : g < w.heap.size := (Array.getElem?_eq_some_iff.1 h).1
  refine ⟨g, 0, rfl, hg, ?_, ?_, ?_⟩
  · rw [Nat.zero_add, cell_of_row w g _ C t (0, 0) h, h1]
  · rw [Nat.zero_add, cell_of_row w g _ C t (0, 0) h, h2]
  · rw [Nat.zero_add, cell_of_row w g _ C t (0, 0) h, h3]
theorem toDisk_any (fs : List FileD) (ao : Option Addr) (cap : Nat) (w : World) (hl : fs.length ≤ 1048576) (hfs : FilesAt w ao fs) :
    Calls Tryz.prog 54 #[.agg #[.slice ao fs.length cap]] w fun e w' => (∃ (g : Nat) (C : Array Value), e = .returned (.agg #[.slice (some ⟨g, 0, none⟩) fs.length fs.length]) ∧ w.heap.size ≤ g ∧ w'.heap[g]? = some (.cells C 74 (0, 0)) ∧ C.size = fs.length * 3 ∧ FilesIn C fs fs.length) ∧ Below w.heap.size w w' := by
  have HF := hide hfs
  clear hfs
  go_enter Tryz.func54, Tryz.ntmps54
  go_wp2_with fail
  refine (toFileS_any fs ao cap _ hl (filesAt_keep HF.out ((((Below.refl _ w).alloc (Nat.le_refl _) _).alloc (by simp) _).alloc (by simp; omega) _))).mono ?_
  rintro e w1 ⟨⟨C, rfl, hC, hCs, hI⟩, b1⟩
  have hs1 : w.heap.size + 1 + 1 + 1 ≤ w1.heap.size := by have := b1.size; simpa using this
  have hq : w1.heap[w.heap.size + 1 + 1]? = some (.cells #[.slice none 0 0] 27 (0, 0)) := (b1.block _ (by simp)).trans (by rw [show w.heap.size + 1 + 1 = ((w.alloc (.cells #[.slice ao fs.length cap] 42)).alloc (.cells #[.slice none 0 0] 27)).heap.size from by simp]; exact heap_alloc_new _ _)
  have hr : w1.heap[w.heap.size + 1]? = some (.cells #[.slice none 0 0] 27 (0, 0)) := (b1.block _ (by simp)).trans (by rw [World.alloc, Array.getElem?_push_lt (by simp), ← Array.getElem?_eq_getElem, show w.heap.size + 1 = (w.alloc (.cells #[.slice ao fs.length cap] 42)).heap.size from by simp]; exact heap_alloc_new _ _)
  obtain ⟨G, hG⟩ : ∃ G, G = (((w.alloc (.cells #[.slice ao fs.length cap] 42)).alloc (.cells #[.slice none 0 0] 27)).alloc (.cells #[.slice none 0 0] 27)).heap.size := ⟨_, rfl⟩
  have hGn : G = w.heap.size + 1 + 1 + 1 := by rw [hG]; simp
  rw [← hG] at hC b1 ⊢
  have HBB : Hid (Below w.heap.size w w1) := (((((Below.refl _ w).alloc (Nat.le_refl _) _).alloc (by simp) _).alloc (by simp; omega) _)).trans (b1.mono (by omega))
  clear b1 hG
  have hq0 := cell_of_row w1 (w.heap.size + 1 + 1) 0 _ _ (0, 0) hq
  have hf0 := frozen_of_row w1 (w.heap.size + 1 + 1) 0 _ _ hq
  have hr0 := cell_of_row w1 (w.heap.size + 1) 0 _ _ (0, 0) hr
  have hg0 := frozen_of_row w1 (w.heap.size + 1) 0 _ _ hr
  have HC := hide hC
  have HI := hide hI
  have HGn := hide hGn
  clear hC hI hGn hq hr
  go_wp2_with fail
  have hne : (w.heap.size + 1 + 1) ≠ (w.heap.size + 1) := by omega
  refine bodyPost_ret (v := .agg #[.slice (some ⟨G, 0, none⟩) fs.length fs.length]) (by simp [results, Tryz.results54, go_sem, hr0]) rfl ⟨⟨G, C, rfl, by have := HGn.out; omega, ?_, hCs, HI.out⟩, ?_⟩
  · rw [Below.heap_setCell _ _ _ _ (by have := HGn.out; simp; omega), Below.heap_setCell _ _ _ _ (by have := HGn.out; simp; omega)]; exact HC.out
  · exact (HBB.out.setCell (p := ⟨w.heap.size + 1 + 1, 0, none⟩) (by simp; omega) _).setCell (p := ⟨w.heap.size + 1, 0, none⟩) (by simp) _
theorem eqFileS_same (fs : List FileD) (ao ao2 : Option Addr) (cap cap2 : Nat) (w : World) (hl : fs.length ≤ maxLen) (h1 : FilesAt w ao fs) (h2 : FilesAt w ao2 fs) :
    Calls Tryz.prog 100 #[.slice ao fs.length cap, .slice ao2 fs.length cap2] w fun e w' => e = .returned (.bool true) ∧ Below w.heap.size w w' := by
  have H1 := hide h1
  have H2 := hide h2
  clear h1 h2
  unfold maxLen at hl
  have hne : (!((fs.length : Int) == (fs.length : Int))) = false := by simp
  go_enter Tryz.func100, Tryz.ntmps100
  go_wp2
  go_loopw [5] (fun ii wr => ∃ (k : Nat), ii = .int .i64 k ∧ k ≤ fs.length ∧ Hid (Below w.heap.size w wr)) (fun ii _ => fs.length - (intOf ii).toNat)
  case atStart => exact ⟨0, rfl, Nat.zero_le _, Below.refl _ _⟩
  case round =>
    obtain ⟨k, rfl, hk, HB⟩ := hrel
    by_cases hlt : k < fs.length
    · have hlt' : decide ((k : Int) < (fs.length : Int)) = true := by simp; omega
      obtain ⟨b, off, rfl, hbw, hc0, hc1, hc2⟩ := filesAt_keep H1.out HB.out k hlt
      obtain ⟨b', off', rfl, hbw', hd0, hd1, hd2⟩ := filesAt_keep H2.out HB.out k hlt
      generalize fs[k] = F at hc0 hc1 hc2 hd0 hd1 hd2
      have hi0 : (0 : Int) ≤ (k : Int) := by omega
      have hi1 : (k : Int) < (fs.length : Int) := by omega
      have hi2 : decide ((k : Int) < (fs.length : Int)) = true := by simp; omega
      have HBw := hide hbw
      have HBw' := hide hbw'
      clear hbw hbw'
      go_wp2_with fail
      go_region_held3 (fun w' => w'.cell? ⟨b, off + k * 3, none⟩ = some (.string F.name) ∧ w'.cell? ⟨b, off + k * 3 + 1, none⟩ = some (.string F.text) ∧ w'.cell? ⟨b, off + k * 3 + 2, none⟩ = some (.int .i64 F.kept) ∧ w'.cell? ⟨b', off' + k * 3, none⟩ = some (.string F.name) ∧ w'.cell? ⟨b', off' + k * 3 + 1, none⟩ = some (.string F.text) ∧ w'.cell? ⟨b', off' + k * 3 + 2, none⟩ = some (.int .i64 F.kept)) (first | go_keep | (exact ⟨(b1.cell (p := ⟨b, off + k * 3, none⟩) HBw.out).trans hc0, (b1.cell (p := ⟨b, off + k * 3 + 1, none⟩) HBw.out).trans hc1, (b1.cell (p := ⟨b, off + k * 3 + 2, none⟩) HBw.out).trans hc2, (b1.cell (p := ⟨b', off' + k * 3, none⟩) HBw'.out).trans hd0, (b1.cell (p := ⟨b', off' + k * 3 + 1, none⟩) HBw'.out).trans hd1, (b1.cell (p := ⟨b', off' + k * 3 + 2, none⟩) HBw'.out).trans hd2⟩)) ((go_at_call 146; refine (eqFile_same F _).mono ?_; rintro e w1 ⟨rfl, b1⟩))
      go_wp2
      go_roundw
      case rel => exact ⟨k + 1, by go_num, by omega, HB.out.trans (((Below.refl _ _).drew.trans b1).mono HB.out.size)⟩
      case measure => simp [intOf]; omega
    · have hlt' : decide ((k : Int) < (fs.length : Int)) = false := by simp; omega
      go_wp2
      go_ret
      exact ⟨rfl, HB.out⟩
theorem eqDisk_same (fs : List FileD) (ao ao2 : Option Addr) (cap cap2 : Nat) (w : World) (hl : fs.length ≤ maxLen) (h1 : FilesAt w ao fs) (h2 : FilesAt w ao2 fs) :
    Calls Tryz.prog 56 #[.agg #[.slice ao fs.length cap], .agg #[.slice ao2 fs.length cap2]] w fun e w' => e = .returned (.bool true) ∧ Below w.heap.size w w' := by
  have H1 := hide h1
  have H2 := hide h2
  clear h1 h2
  go_enter Tryz.func56, Tryz.ntmps56
  go_wp2_with fail
  have b0 := ((Below.refl _ w).alloc (Nat.le_refl _) (.cells #[.slice ao fs.length cap] 27)).alloc (by simp) (.cells #[.slice ao2 fs.length cap2] 27)
  refine (eqFileS_same fs ao ao2 cap cap2 _ hl (filesAt_keep H1.out b0) (filesAt_keep H2.out b0)).mono ?_
  rintro e w1 ⟨rfl, b1⟩
  have HB := hide (b0.trans (b1.mono b0.size))
  clear b0 b1
  go_wp2
  go_ret
  exact ⟨rfl, HB.out⟩
def nameOkD (s : ByteArray) : Bool := decide (1 ≤ s.size) && decide (s.size ≤ 8)
def fileOkD (F : FileD) : Bool := nameOkD F.name && (decide (F.text.size ≤ 20000) && (decide (0 ≤ F.kept) && decide (F.kept ≤ F.text.size)))
def okFrom : Option ByteArray → List FileD → Bool
  | _, [] => true
  | none, F :: r => fileOkD F && okFrom (some F.name) r
  | some p, F :: r => fileOkD F && (Op.bytesLess p.toList F.name.toList && okFrom (some F.name) r)
def diskOkD (fs : List FileD) : Bool := decide (fs.length ≤ 30) && okFrom none fs
def prevOf (fs : List FileD) : Nat → Option ByteArray
  | 0 => none
  | k + 1 => fs[k]?.map FileD.name
theorem okFrom_bad {fs : List FileD} {k : Nat} (h : k < fs.length) (hF : fileOkD fs[k] = false) : okFrom (prevOf fs k) (fs.drop k) = false := by
  rw [List.drop_eq_getElem_cons h]
  cases prevOf fs k <;> simp [okFrom, hF]
theorem okFrom_first {fs : List FileD} (h : 0 < fs.length) (hF : fileOkD fs[0] = true) : okFrom (prevOf fs 0) (fs.drop 0) = okFrom (prevOf fs 1) (fs.drop 1) := by
  rw [List.drop_eq_getElem_cons h]
  simp [okFrom, prevOf, hF, h]
theorem okFrom_more {fs : List FileD} {k : Nat} (h : k < fs.length) (hk : 0 < k) (hF : fileOkD fs[k] = true) : okFrom (prevOf fs k) (fs.drop k) = (Op.bytesLess fs[k - 1].name.toList fs[k].name.toList && okFrom (prevOf fs (k + 1)) (fs.drop (k + 1))) := by
  obtain ⟨j, rfl⟩ : ∃ j, k = j + 1 := ⟨k - 1, by omega⟩
  rw [List.drop_eq_getElem_cons h]
  have e1 : prevOf fs (j + 1) = some fs[j].name := by simp [prevOf, show j < fs.length from by omega]
  have e2 : prevOf fs (j + 1 + 1) = some fs[j + 1].name := by simp [prevOf, h]
  rw [e1, e2]
  simp [okFrom, hF]
theorem okFrom_end {fs : List FileD} {k : Nat} (h : fs.length ≤ k) : okFrom (prevOf fs k) (fs.drop k) = true := by
  rw [List.drop_eq_nil_of_le h]
  cases prevOf fs k <;> simp [okFrom]
theorem l03Name_any (s : ByteArray) (w : World) (hs : s.size ≤ maxLen) : Calls Tryz.prog 144 #[.string s] w fun e w' => e = .returned (.bool (nameOkD s)) ∧ w' = w := by
  unfold maxLen at hs
  have e : nameOkD s = (decide ((1 : Int) ≤ (s.size : Int)) && decide ((s.size : Int) ≤ 8)) := by
    unfold nameOkD
    congr 1
    · rw [decide_eq_decide]; omega
    · rw [decide_eq_decide]; omega
  rw [e]
  go_enter Tryz.func144, Tryz.ntmps144
  go_wp2_with fail
  refine (l01In_any _ _ _ _).mono ?_
  rintro e w' ⟨rfl, rfl⟩
  go_wp2
  go_ret
  exact ⟨rfl, rfl⟩
theorem nameOk_any (s : ByteArray) (w : World) (hs : s.size ≤ maxLen) : Calls Tryz.prog 213 #[.string s] w fun e w' => e = .returned (.bool (nameOkD s)) ∧ w' = w := by
  unfold maxLen at hs
  have e : nameOkD s = (decide ((1 : Int) ≤ (s.size : Int)) && decide ((s.size : Int) ≤ 8)) := by
    unfold nameOkD
    congr 1
    · rw [decide_eq_decide]; omega
    · rw [decide_eq_decide]; omega
  rw [e]
  by_cases h : (1 : Int) ≤ (s.size : Int)
  · have h' : decide ((1 : Int) ≤ (s.size : Int)) = true := by simp; omega
    rw [h', Bool.true_and]
    go_enter Tryz.func213, Tryz.ntmps213
    go_wp2
    go_ret
    exact ⟨rfl, rfl⟩
  · have h' : decide ((1 : Int) ≤ (s.size : Int)) = false := by simp; omega
    rw [h', Bool.false_and]
    go_enter Tryz.func213, Tryz.ntmps213
    go_wp2
    go_ret
    exact ⟨rfl, rfl⟩
theorem fileOk_any (F : FileD) (w : World) (hs : F.name.size ≤ maxLen) (ht : F.text.size ≤ maxLen) : Calls Tryz.prog 190 #[.agg #[.string F.name, .string F.text, .int .i64 F.kept]] w fun e w' => e = .returned (.bool (fileOkD F)) ∧ Below w.heap.size w w' := by
  obtain ⟨a, b, k⟩ := F
  simp only [fileOkD] at *
  unfold maxLen at ht
  have et : decide (b.size ≤ 20000) = decide ((b.size : Int) ≤ 20000) := by rw [decide_eq_decide]; omega
  rw [et]
  cases h1 : nameOkD a
  · rw [Bool.false_and]
    go_enter Tryz.func190, Tryz.ntmps190
    go_wp2_with fail
    refine (nameOk_any _ _ hs).mono ?_
    rintro e w' ⟨rfl, rfl⟩
    rw [h1]
    go_wp2
    go_ret
    exact ⟨rfl, (Below.refl _ w).alloc (Nat.le_refl _) _⟩
  · rw [Bool.true_and]
    cases h2 : decide ((b.size : Int) ≤ 20000)
    · rw [Bool.false_and]
      go_enter Tryz.func190, Tryz.ntmps190
      go_wp2_with fail
      refine (nameOk_any _ _ hs).mono ?_
      rintro e w' ⟨rfl, rfl⟩
      rw [h1]
      go_wp2
      go_ret
      exact ⟨rfl, (Below.refl _ w).alloc (Nat.le_refl _) _⟩
    · rw [Bool.true_and]
      cases h3 : decide (0 ≤ k)
      · rw [Bool.false_and]
        go_enter Tryz.func190, Tryz.ntmps190
        go_wp2_with fail
        refine (nameOk_any _ _ hs).mono ?_
        rintro e w' ⟨rfl, rfl⟩
        rw [h1]
        go_wp2
        go_ret
        exact ⟨rfl, (Below.refl _ w).alloc (Nat.le_refl _) _⟩
      · rw [Bool.true_and]
        go_enter Tryz.func190, Tryz.ntmps190
        go_wp2_with fail
        refine (nameOk_any _ _ hs).mono ?_
        rintro e w' ⟨rfl, rfl⟩
        rw [h1]
        go_wp2
        go_ret
        exact ⟨rfl, (Below.refl _ w).alloc (Nat.le_refl _) _⟩
theorem diskOk_any (fs : List FileD) (ao : Option Addr) (cap : Nat) (w : World) (hl : fs.length ≤ 1048576) (hfs : FilesAt w ao fs) (hsz : ∀ F ∈ fs, F.name.size ≤ maxLen ∧ F.text.size ≤ maxLen) :
    Calls Tryz.prog 158 #[.agg #[.slice ao fs.length cap]] w fun e w' => e = .returned (.bool (diskOkD fs)) ∧ Below w.heap.size w w' := by
  have HF := hide hfs
  have HS := hide hsz
  clear hfs hsz
  obtain ⟨R, HR⟩ : ∃ R, Hid (diskOkD fs = R) := ⟨_, hide rfl⟩
  rw [HR.out]
  by_cases h30 : (30 : Int) < (fs.length : Int)
  · have h30' : decide ((30 : Int) < (fs.length : Int)) = true := by simp; omega
    have hR : R = false := by rw [← HR.out, diskOkD, show decide (fs.length ≤ 30) = false from by simp; omega]; rfl
    subst hR
    go_enter Tryz.func158, Tryz.ntmps158
    go_wp2
    go_ret
    exact ⟨rfl, (Below.refl _ w).alloc (Nat.le_refl _) _⟩
  · have h30' : decide ((30 : Int) < (fs.length : Int)) = false := by simp; omega
    have HR0 : Hid (okFrom (prevOf fs 0) (fs.drop 0) = R) := by show _ = _; rw [← HR.out, diskOkD, show decide (fs.length ≤ 30) = true from by simp; omega]; rfl
    go_enter Tryz.func158, Tryz.ntmps158
    go_wp2
    go_loopw [12] (fun ii wr => ∃ (k : Nat), ii = .int .i64 k ∧ k ≤ fs.length ∧ Hid (okFrom (prevOf fs k) (fs.drop k) = R) ∧ Hid (Below (w.heap.size + 1) (w.alloc (.cells #[.slice ao fs.length cap] 27)) wr)) (fun ii _ => fs.length - (intOf ii).toNat)
    case atStart => exact ⟨0, rfl, Nat.zero_le _, HR0, Below.refl _ _⟩
    case round =>
      obtain ⟨k, rfl, hk, HK, HB⟩ := hrel
      have HB0 : Hid (Below w.heap.size w wr) := ((Below.refl _ w).alloc (Nat.le_refl _) _).trans (HB.out.mono (by omega))
      by_cases hlt : k < fs.length
      · have hlt' : decide ((k : Int) < (fs.length : Int)) = true := by simp; omega
        have hsw : w.heap.size + 1 ≤ wr.heap.size := by have := HB.out.size; simpa using this
        obtain ⟨b, off, rfl, hbw, hc0, hc1, hc2⟩ := filesAt_keep HF.out HB0.out k hlt
        have hbox : wr.cell? ⟨w.heap.size, 0, none⟩ = some (.slice (some ⟨b, off, none⟩) fs.length cap) := (HB.out.cell (p := ⟨w.heap.size, 0, none⟩) (by simp)).trans (by rw [cell_of_row _ _ _ _ _ (0, 0) (heap_alloc_new w _)]; rfl)
        obtain ⟨hs1, hs2⟩ := HS.out fs[k] (List.getElem_mem hlt)
        obtain ⟨F, HFk⟩ : ∃ F, Hid (fs[k] = F) := ⟨fs[k], hide rfl⟩
        rw [HFk.out] at hc0 hc1 hc2 hs1 hs2
        have hi0 : (0 : Int) ≤ (k : Int) := by omega
        have hi1 : (k : Int) < (fs.length : Int) := by omega
        go_wp2_with fail
        refine (fileOk_any F _ hs1 hs2).mono ?_
        rintro e w1 ⟨rfl, b1⟩
        have b2 : Below wr.heap.size wr w1 := ((Below.refl _ wr).alloc (Nat.le_refl _) _).trans (b1.mono (by simp))
        have hbox1 : w1.cell? ⟨w.heap.size, 0, none⟩ = some (.slice (some ⟨b, off, none⟩) fs.length cap) := (b2.cell (p := ⟨w.heap.size, 0, none⟩) (by show w.heap.size < _; omega)).trans hbox
        have hfile1 : w1.heap[wr.heap.size]? = some (.cells #[.string F.name, .string F.text, .int .i64 F.kept] 74 (0, 0)) := (b1.block _ (by simp)).trans (heap_alloc_new wr _)
        have hg0 : w1.cell? ⟨wr.heap.size, 0, none⟩ = some (.string F.name) := (cell_of_row w1 wr.heap.size 0 _ _ (0, 0) hfile1).trans rfl
        have HB1 : Hid (Below (w.heap.size + 1) (w.alloc (.cells #[.slice (some ⟨b, off, none⟩) fs.length cap] 27)) w1) := HB.out.trans (b2.mono hsw)
        have HB2 : Hid (Below w.heap.size w w1) := HB0.out.trans (b2.mono (by omega))
        clear b1 hfile1 hbox hc0 hc1 hc2
        cases hok : fileOkD F
        · have hR : Hid (R = false) := by show _ = _; rw [← HK.out, okFrom_bad hlt (by rw [HFk.out]; exact hok)]
          go_wp2
          go_ret
          rw [hR.out]
          exact ⟨rfl, HB2.out⟩
        · cases hk0 : decide (0 < k)
          · have hkz : k = 0 := by simpa using hk0
            have HK1 : Hid (okFrom (prevOf fs (k + 1)) (fs.drop (k + 1)) = R) := by show _ = _; rw [← HK.out]; subst hkz; exact (okFrom_first hlt (by rw [HFk.out]; exact hok)).symm
            clear hkz
            go_wp2_with fail
            go_quiet (fail)
            go_wp2
            go_roundw
            case rel => exact ⟨k + 1, by go_num, by omega, HK1, below_drewN HB1.out _⟩
            case measure => simp [intOf]; omega
          · have hkp : 0 < k := by simpa using hk0
            obtain ⟨b', off', hbe, hbw', hd0, hd1, hd2⟩ := filesAt_keep HF.out HB2.out (k - 1) (by omega)
            obtain ⟨rfl, rfl⟩ : b = b' ∧ off = off' := by simpa using hbe
            obtain ⟨F', HFk'⟩ : ∃ F', Hid (fs[k - 1] = F') := ⟨fs[k - 1], hide rfl⟩
            rw [HFk'.out] at hd0
            clear hd1 hd2 hbe
            have HD := hide (okFrom_more hlt hkp (by rw [HFk.out]; exact hok))
            have hw : IntKind.i64.wrap ((k : Int) - 1) = ((k - 1 : Nat) : Int) := by rw [IntKind.wrap_i64]; omega
            have hj0 : (0 : Int) ≤ ((k - 1 : Nat) : Int) := by omega
            have hj1 : ((k - 1 : Nat) : Int) < (fs.length : Int) := by omega
            go_wp2_with fail
            go_quiet (fail)
            cases hless : Op.bytesLess F'.name.toList F.name.toList
            · have hR : Hid (R = false) := by show _ = _; rw [← HK.out, HD.out, HFk.out, HFk'.out, hless]; rfl
              go_wp2
              go_ret
              rw [hR.out]
              exact ⟨rfl, below_drewN HB2.out _⟩
            · have HK1 : Hid (okFrom (prevOf fs (k + 1)) (fs.drop (k + 1)) = R) := by show _ = _; rw [← HK.out, HD.out, HFk.out, HFk'.out, hless, Bool.true_and]
              go_wp2
              go_roundw
              case rel => exact ⟨k + 1, by go_num, by omega, HK1, below_drewN HB1.out _⟩
              case measure => simp [intOf]; omega
      · have hlt' : decide ((k : Int) < (fs.length : Int)) = false := by simp; omega
        have hR : Hid (R = true) := by show _ = _; rw [← HK.out, okFrom_end (by omega)]
        go_wp2
        go_ret
        rw [hR.out]
        exact ⟨rfl, HB0.out⟩
theorem l03Name_val (s : ByteArray) (c : Bool) (w : World) (hs : s.size ≤ maxLen) (h : nameOkD s = c) : Calls Tryz.prog 144 #[.string s] w fun e w' => e = .returned (.bool c) ∧ w' = w := h ▸ l03Name_any s w hs
theorem specDiskOk_any (fs : List FileD) (ao : Option Addr) (cap : Nat) (w : World) (hl : fs.length ≤ 1048576) (hfs : FilesAt w ao fs) (hsz : ∀ F ∈ fs, F.name.size ≤ maxLen ∧ F.text.size ≤ maxLen) :
    Calls Tryz.prog 97 #[.agg #[.slice ao fs.length cap]] w fun e w' => e = .returned (.bool (diskOkD fs)) ∧ Below w.heap.size w w' := by
  have HF := hide hfs
  have HS := hide hsz
  clear hfs hsz
  obtain ⟨R, HR⟩ : ∃ R, Hid (diskOkD fs = R) := ⟨_, hide rfl⟩
  rw [HR.out]
  by_cases h30 : (30 : Int) < (fs.length : Int)
  · have h30' : decide ((30 : Int) < (fs.length : Int)) = true := by simp; omega
    have hR : R = false := by rw [← HR.out, diskOkD, show decide (fs.length ≤ 30) = false from by simp; omega]; rfl
    subst hR
    go_enter Tryz.func97, Tryz.ntmps97
    go_wp2
    go_ret
    exact ⟨rfl, (Below.refl _ w).alloc (Nat.le_refl _) _⟩
  · have h30' : decide ((30 : Int) < (fs.length : Int)) = false := by simp; omega
    have HR0 : Hid (okFrom (prevOf fs 0) (fs.drop 0) = R) := by show _ = _; rw [← HR.out, diskOkD, show decide (fs.length ≤ 30) = true from by simp; omega]; rfl
    go_enter Tryz.func97, Tryz.ntmps97
    go_wp2
    go_loopw [3] (fun ii wr => ∃ (k : Nat), ii = .int .i64 k ∧ k ≤ fs.length ∧ Hid (okFrom (prevOf fs k) (fs.drop k) = R) ∧ Hid (Below (w.heap.size + 1) (w.alloc (.cells #[.slice ao fs.length cap] 27)) wr)) (fun ii _ => fs.length - (intOf ii).toNat)
    case atStart => exact ⟨0, rfl, Nat.zero_le _, HR0, Below.refl _ _⟩
    case round =>
      obtain ⟨k, rfl, hk, HK, HB⟩ := hrel
      have HB0 : Hid (Below w.heap.size w wr) := ((Below.refl _ w).alloc (Nat.le_refl _) _).trans (HB.out.mono (by omega))
      have hbox : wr.cell? ⟨w.heap.size, 0, none⟩ = some (.slice ao fs.length cap) := (HB.out.cell (p := ⟨w.heap.size, 0, none⟩) (by simp)).trans (by rw [cell_of_row _ _ _ _ _ (0, 0) (heap_alloc_new w _)]; rfl)
      by_cases hlt : k < fs.length
      · have hlt' : decide ((k : Int) < (fs.length : Int)) = true := by simp; omega
        have hsw : w.heap.size + 1 ≤ wr.heap.size := by have := HB.out.size; simpa using this
        obtain ⟨b, off, rfl, hbw, hc0, hc1, hc2⟩ := filesAt_keep HF.out HB0.out k hlt
        obtain ⟨hs1, hs2⟩ := HS.out fs[k] (List.getElem_mem hlt)
        obtain ⟨F, HFk⟩ : ∃ F, Hid (fs[k] = F) := ⟨fs[k], hide rfl⟩
        rw [HFk.out] at hc0 hc1 hc2 hs1 hs2
        have hi0 : (0 : Int) ≤ (k : Int) := by omega
        have hi1 : (k : Int) < (fs.length : Int) := by omega
        have b2 : Below wr.heap.size wr (wr.alloc (.cells #[.string F.name, .string F.text, .int .i64 F.kept] 74)) := (Below.refl _ wr).alloc (Nat.le_refl _) _
        have HB1 : Hid (Below (w.heap.size + 1) (w.alloc (.cells #[.slice (some ⟨b, off, none⟩) fs.length cap] 27)) (wr.alloc (.cells #[.string F.name, .string F.text, .int .i64 F.kept] 74))) := HB.out.trans (b2.mono hsw)
        have HB2 : Hid (Below w.heap.size w (wr.alloc (.cells #[.string F.name, .string F.text, .int .i64 F.kept] 74))) := HB0.out.trans (b2.mono (by omega))
        have hs2' := hs2
        unfold maxLen at hs2'
        go_wp2_with fail
        have hbox1 : (wr.alloc (.cells #[.string F.name, .string F.text, .int .i64 F.kept] 74)).cell? ⟨w.heap.size, 0, none⟩ = some (.slice (some ⟨b, off, none⟩) fs.length cap) := (b2.cell (p := ⟨w.heap.size, 0, none⟩) (by show w.heap.size < _; omega)).trans hbox
        have hfile := heap_alloc_new wr (.cells #[.string F.name, .string F.text, .int .i64 F.kept] 74)
        obtain ⟨W, hW⟩ : ∃ W, W = wr.alloc (.cells #[.string F.name, .string F.text, .int .i64 F.kept] 74) := ⟨_, rfl⟩
        rw [← hW] at HB1 HB2 hbox1 hfile ⊢
        have hg0 : W.cell? ⟨wr.heap.size, 0, none⟩ = some (.string F.name) := (cell_of_row W wr.heap.size 0 _ _ (0, 0) hfile).trans rfl
        have hg1 : W.cell? ⟨wr.heap.size, 1, none⟩ = some (.string F.text) := (cell_of_row W wr.heap.size 1 _ _ (0, 0) hfile).trans rfl
        have hg2 : W.cell? ⟨wr.heap.size, 2, none⟩ = some (.int .i64 F.kept) := (cell_of_row W wr.heap.size 2 _ _ (0, 0) hfile).trans rfl
        clear hW hfile b2 hbox hc0 hc1 hc2
        cases h1 : nameOkD F.name
        · have hR : Hid (R = false) := by show _ = _; rw [← HK.out, okFrom_bad hlt (by rw [HFk.out, fileOkD]; simp [h1])]
          go_quiet ((go_at_call 144; exact Calls.quiet_of_same (l03Name_val _ _ _ hs1 h1)))
          go_wp2
          go_ret
          rw [hR.out]
          exact ⟨rfl, below_drewN HB2.out _⟩
        · by_cases h2 : 20000 < F.text.size
          · have h2a : decide (20000 < F.text.size) = true := by simp; omega
            have h2b : decide ((20000 : Int) < (F.text.size : Int)) = true := by simp; omega
            have hR : Hid (R = false) := by show _ = _; rw [← HK.out, okFrom_bad hlt (by rw [HFk.out, fileOkD]; rw [show decide (F.text.size ≤ 20000) = false from by simp; omega]; simp)]
            go_quiet ((go_at_call 144; exact Calls.quiet_of_same (l03Name_val _ _ _ hs1 h1)))
            go_wp2
            go_ret
            rw [hR.out]
            exact ⟨rfl, below_drewN HB2.out _⟩
          · have h2a : decide (20000 < F.text.size) = false := by simp; omega
            have h2b : decide ((20000 : Int) < (F.text.size : Int)) = false := by simp; omega
            cases h3 : (decide ((0 : Int) ≤ F.kept) && decide (F.kept ≤ (F.text.size : Int)))
            · have hR : Hid (R = false) := by show _ = _; rw [← HK.out, okFrom_bad hlt (by rw [HFk.out, fileOkD]; rw [h3]; simp)]
              go_quiet ((first | (go_at_call 144; exact Calls.quiet_of_same (l03Name_val _ _ _ hs1 h1)) | (go_at_call 43; exact Calls.quiet_of_same (l01In_val _ _ _ _ _ h3))))
              go_wp2
              go_ret
              rw [hR.out]
              exact ⟨rfl, below_drewN HB2.out _⟩
            · have hok : fileOkD F = true := by rw [fileOkD, h3, h1, show decide (F.text.size ≤ 20000) = true from by simp; omega]; rfl
              cases hk0 : decide (0 < k)
              · have hkz : k = 0 := by simpa using hk0
                have HK1 : Hid (okFrom (prevOf fs (k + 1)) (fs.drop (k + 1)) = R) := by show _ = _; rw [← HK.out]; subst hkz; exact (okFrom_first hlt (by rw [HFk.out]; exact hok)).symm
                clear hkz
                go_quiet ((first | (go_at_call 144; exact Calls.quiet_of_same (l03Name_val _ _ _ hs1 h1)) | (go_at_call 43; exact Calls.quiet_of_same (l01In_val _ _ _ _ _ h3))))
                go_wp2
                go_roundw
                case rel => exact ⟨k + 1, by go_num, by omega, HK1, below_drewN HB1.out _⟩
                case measure => simp [intOf]; omega
              · have hkp : 0 < k := by simpa using hk0
                obtain ⟨b', off', hbe, hbw', hd0, hd1, hd2⟩ := filesAt_keep HF.out HB2.out (k - 1) (by omega)
                obtain ⟨rfl, rfl⟩ : b = b' ∧ off = off' := by simpa using hbe
                obtain ⟨F', HFk'⟩ : ∃ F', Hid (fs[k - 1] = F') := ⟨fs[k - 1], hide rfl⟩
                rw [HFk'.out] at hd0
                clear hd1 hd2 hbe
                have HD := hide (okFrom_more hlt hkp (by rw [HFk.out]; exact hok))
                have hw : IntKind.i64.wrap ((k : Int) - 1) = ((k - 1 : Nat) : Int) := by rw [IntKind.wrap_i64]; omega
                have hj0 : (0 : Int) ≤ ((k - 1 : Nat) : Int) := by omega
                have hj1 : ((k - 1 : Nat) : Int) < (fs.length : Int) := by omega
                go_quiet ((first | (go_at_call 144; exact Calls.quiet_of_same (l03Name_val _ _ _ hs1 h1)) | (go_at_call 43; exact Calls.quiet_of_same (l01In_val _ _ _ _ _ h3))))
                cases hless : Op.bytesLess F'.name.toList F.name.toList
                · have hR : Hid (R = false) := by show _ = _; rw [← HK.out, HD.out, HFk.out, HFk'.out, hless]; rfl
                  go_wp2
                  go_ret
                  rw [hR.out]
                  exact ⟨rfl, below_drewN HB2.out _⟩
                · have HK1 : Hid (okFrom (prevOf fs (k + 1)) (fs.drop (k + 1)) = R) := by show _ = _; rw [← HK.out, HD.out, HFk.out, HFk'.out, hless, Bool.true_and]
                  go_wp2
                  go_roundw
                  case rel => exact ⟨k + 1, by go_num, by omega, HK1, below_drewN HB1.out _⟩
                  case measure => simp [intOf]; omega
      · have hlt' : decide ((k : Int) < (fs.length : Int)) = false := by simp; omega
        have hR : Hid (R = true) := by show _ = _; rw [← HK.out, okFrom_end (by omega)]
        go_wp2
        go_ret
        rw [hR.out]
        exact ⟨rfl, HB0.out⟩
def keptD (fs : List FileD) : Bool := fs.all (fun F => !decide (F.kept < (F.text.size : Int)))
def allKeptD (fs : List FileD) : Bool := diskOkD fs && keptD fs
theorem kept_bad {fs : List FileD} {k : Nat} (h : k < fs.length) (hF : decide (fs[k].kept < (fs[k].text.size : Int)) = true) : keptD (fs.drop k) = false := by
  rw [List.drop_eq_getElem_cons h, keptD, List.all_cons, hF]; rfl
theorem kept_more {fs : List FileD} {k : Nat} (h : k < fs.length) (hF : decide (fs[k].kept < (fs[k].text.size : Int)) = false) : keptD (fs.drop k) = keptD (fs.drop (k + 1)) := by
  rw [List.drop_eq_getElem_cons h, keptD, List.all_cons, hF]; rfl
theorem kept_end {fs : List FileD} {k : Nat} (h : fs.length ≤ k) : keptD (fs.drop k) = true := by
  rw [List.drop_eq_nil_of_le h]; rfl
def atFrom (name : ByteArray) : Nat → List FileD → Int
  | _, [] => -1
  | k, F :: r => if (F.name.toList == name.toList) = true then (k : Int) else atFrom name (k + 1) r
theorem at_hit {fs : List FileD} {name : ByteArray} {k : Nat} (h : k < fs.length) (hF : (fs[k].name.toList == name.toList) = true) : atFrom name k (fs.drop k) = k := by
  rw [List.drop_eq_getElem_cons h, atFrom, if_pos hF]
theorem at_miss {fs : List FileD} {name : ByteArray} {k : Nat} (h : k < fs.length) (hF : (fs[k].name.toList == name.toList) = false) : atFrom name k (fs.drop k) = atFrom name (k + 1) (fs.drop (k + 1)) := by
  rw [List.drop_eq_getElem_cons h, atFrom, if_neg (by rw [hF]; decide)]
theorem at_end {fs : List FileD} {name : ByteArray} {k : Nat} (h : fs.length ≤ k) : atFrom name k (fs.drop k) = -1 := by
  rw [List.drop_eq_nil_of_le h]; rfl
theorem at_cases (name : ByteArray) : ∀ (fs : List FileD) (k : Nat), (atFrom name k fs = -1 ∧ ∀ F ∈ fs, (F.name.toList == name.toList) = false) ∨ (∃ j, ∃ h : j < fs.length, atFrom name k fs = ((k + j : Nat) : Int) ∧ (fs[j].name.toList == name.toList) = true ∧ fs.find? (fun F => F.name.toList == name.toList) = some fs[j])
  | [], _ => .inl ⟨rfl, fun _ h => absurd h (List.not_mem_nil)⟩
  | F :: r, k => by
    cases hF : (F.name.toList == name.toList)
    · rcases at_cases name r (k + 1) with ⟨h1, h2⟩ | ⟨j, h, h1, h2, h3⟩
      · refine .inl ⟨by rw [atFrom, if_neg (by rw [hF]; decide)]; exact h1, ?_⟩
        intro G hG
        rcases List.mem_cons.1 hG with rfl | hG
        · exact hF
        · exact h2 G hG
      · refine .inr ⟨j + 1, by simp; omega, ?_, ?_, ?_⟩
        · rw [atFrom, if_neg (by rw [hF]; decide), h1]; congr 1; omega
        · simpa using h2
        · rw [List.find?_cons, hF]; simpa using h3
    · refine .inr ⟨0, by simp, by rw [atFrom, if_pos hF]; rfl, hF, by rw [List.find?_cons, hF]; rfl⟩
def fileD (fs : List FileD) (name : ByteArray) : Option FileD := fs.find? (fun F => F.name.toList == name.toList)
theorem fileD_hit {fs : List FileD} {name : ByteArray} {k : Nat} (h : k < fs.length) (hF : (fs[k].name.toList == name.toList) = true) : fileD (fs.drop k) name = some fs[k] := by
  rw [List.drop_eq_getElem_cons h, fileD, List.find?_cons, hF]
theorem fileD_miss {fs : List FileD} {name : ByteArray} {k : Nat} (h : k < fs.length) (hF : (fs[k].name.toList == name.toList) = false) : fileD (fs.drop k) name = fileD (fs.drop (k + 1)) name := by
  rw [List.drop_eq_getElem_cons h, fileD, List.find?_cons, hF]; rfl
theorem fileD_end {fs : List FileD} {name : ByteArray} {k : Nat} (h : fs.length ≤ k) : fileD (fs.drop k) name = none := by
  rw [List.drop_eq_nil_of_le h]; rfl
theorem small_max {n : Nat} (h : n ≤ 1048576) : n ≤ maxLen := by unfold maxLen; omega
theorem szFs_small : ∀ (fs : List FileD) (n : Int), n ≤ 1048576 → 0 ≤ n → 0 ≤ szFs fs n → ∀ F ∈ fs, F.name.size ≤ 1048576 ∧ F.text.size ≤ 1048576
  | [], _, _, _, _, F, h => absurd h List.not_mem_nil
  | G :: r, n, h1, h2, h3, F, h => by
    rw [szFs] at h3
    by_cases hneg : szF G n < 0
    · rw [if_pos hneg] at h3; omega
    · rw [if_neg hneg] at h3
      have hle := szF_le G n h2
      rcases List.mem_cons.1 h with rfl | h
      · unfold szF at hneg
        split at hneg
        · omega
        · split at hneg <;> omega
      · exact szFs_small r _ (by omega) (by omega) h3 F h
theorem l03At_any (fs : List FileD) (ao : Option Addr) (cap : Nat) (nm : ByteArray) (w : World) (hl : fs.length ≤ 1048576) (hfs : FilesAt w ao fs) :
    Calls Tryz.prog 106 #[.agg #[.slice ao fs.length cap], .string nm] w fun e w' => e = .returned (.int .i64 (atFrom nm 0 fs)) ∧ Below w.heap.size w w' := by
  have HF := hide hfs
  clear hfs
  obtain ⟨R, HR⟩ : ∃ R, Hid (atFrom nm 0 (fs.drop 0) = R) := ⟨_, hide rfl⟩
  have e : atFrom nm 0 fs = R := HR.out
  rw [e]
  clear e
  have HB0 : Hid (Below w.heap.size w (w.alloc (.cells #[.slice ao fs.length cap] 27))) := (Below.refl _ w).alloc (Nat.le_refl _) _
  go_enter Tryz.func106, Tryz.ntmps106
  go_wp2
  go_loop [5] (fun ii => ∃ (k : Nat), ii = .int .i64 k ∧ k ≤ fs.length ∧ Hid (atFrom nm k (fs.drop k) = R)) (fun ii => fs.length - (intOf ii).toNat)
  case atStart => exact ⟨0, rfl, Nat.zero_le _, HR⟩
  case round =>
    obtain ⟨k, rfl, hk, HK⟩ := hrel
    by_cases hlt : k < fs.length
    · have hlt' : decide ((k : Int) < (fs.length : Int)) = true := by simp; omega
      obtain ⟨b, off, rfl, hbw, hc0, hc1, hc2⟩ := filesAt_keep HF.out HB0.out k hlt
      obtain ⟨F, HFk⟩ : ∃ F, Hid (fs[k] = F) := ⟨fs[k], hide rfl⟩
      rw [HFk.out] at hc0
      clear hc1 hc2
      have hi0 : (0 : Int) ≤ (k : Int) := by omega
      have hi1 : (k : Int) < (fs.length : Int) := by omega
      cases hq : (F.name.toList == nm.toList)
      · have HK1 : Hid (atFrom nm (k + 1) (fs.drop (k + 1)) = R) := by show _ = _; rw [← HK.out]; exact (at_miss hlt (by rw [HFk.out]; exact hq)).symm
        go_wp2
        go_round
        case rel => exact ⟨k + 1, by go_num, by omega, HK1⟩
        case measure => simp [intOf]; omega
      · have hR : Hid (R = (k : Int)) := by show _ = _; rw [← HK.out]; exact at_hit hlt (by rw [HFk.out]; exact hq)
        go_wp2
        go_ret
        rw [hR.out]
        exact ⟨rfl, HB0.out⟩
    · have hlt' : decide ((k : Int) < (fs.length : Int)) = false := by simp; omega
      have hR : Hid (R = -1) := by show _ = _; rw [← HK.out]; exact at_end (by omega)
      go_wp2
      go_ret
      rw [hR.out]
      exact ⟨rfl, HB0.out⟩
theorem specFileAt_any (fs : List FileD) (ao : Option Addr) (cap : Nat) (nm : ByteArray) (w : World) (hl : fs.length ≤ 1048576) (hfs : FilesAt w ao fs) :
    Calls Tryz.prog 62 #[.agg #[.slice ao fs.length cap], .string nm] w fun e w' => ((fileD fs nm = none ∧ e = .returned (.tuple #[.string ⟨#[]⟩, .bool false])) ∨ ∃ F, fileD fs nm = some F ∧ F ∈ fs ∧ e = .returned (.tuple #[.string F.text, .bool true])) ∧ Below w.heap.size w w' := by
  have HF := hide hfs
  clear hfs
  have HB0 : Hid (Below w.heap.size w (w.alloc (.cells #[.slice ao fs.length cap] 27))) := (Below.refl _ w).alloc (Nat.le_refl _) _
  have HA := hide (at_cases nm fs 0)
  go_enter Tryz.func62, Tryz.ntmps62
  go_wp2_with fail
  refine (l03At_any fs ao cap nm _ hl (filesAt_keep HF.out HB0.out)).mono ?_
  rintro e w1 ⟨rfl, b1⟩
  have hbox : w1.cell? ⟨w.heap.size, 0, none⟩ = some (.slice ao fs.length cap) := (b1.cell (p := ⟨w.heap.size, 0, none⟩) (by simp)).trans (by rw [cell_of_row _ _ _ _ _ (0, 0) (heap_alloc_new w _)]; rfl)
  have HB1 := hide (HB0.out.trans (b1.mono HB0.out.size))
  clear b1
  rcases HA.out with ⟨h1, h2⟩ | ⟨j, hj, h1, h2, h3⟩
  · rw [h1]
    have HN : Hid (fileD fs nm = none) := List.find?_eq_none.2 (fun F hF => by rw [h2 F hF]; decide)
    clear h1 h2
    have hd : decide ((-1 : Int) < 0) = true := by decide
    go_wp2
    go_ret2
    exact ⟨.inl ⟨HN.out, rfl⟩, HB1.out⟩
  · rw [h1, Nat.zero_add]
    have HN : Hid (fileD fs nm = some fs[j]) := h3
    clear h1 h2 h3
    have hd : decide ((j : Int) < 0) = false := by simp
    obtain ⟨b, off, rfl, hbw, hc0, hc1, hc2⟩ := filesAt_keep HF.out HB1.out j hj
    have HM := hide (List.getElem_mem hj)
    obtain ⟨F, HFk⟩ : ∃ F, Hid (fs[j] = F) := ⟨fs[j], hide rfl⟩
    rw [HFk.out] at hc1 HN HM
    clear hc0 hc2
    have hi0 : (0 : Int) ≤ (j : Int) := by omega
    have hi1 : (j : Int) < (fs.length : Int) := by omega
    go_wp2
    go_ret2
    exact ⟨.inr ⟨F, HN.out, HM.out, rfl⟩, HB1.out⟩
theorem fileAt_any (fs : List FileD) (ao : Option Addr) (cap : Nat) (nm : ByteArray) (w : World) (hl : fs.length ≤ 1048576) (hfs : FilesAt w ao fs) (hsz : ∀ F ∈ fs, F.name.size ≤ 1048576 ∧ F.text.size ≤ 1048576) :
    Calls Tryz.prog 171 #[.agg #[.slice ao fs.length cap], .string nm] w fun e w' => ((fileD fs nm = none ∧ e = .returned (.tuple #[.string ⟨#[]⟩, .bool false])) ∨ ∃ F, fileD fs nm = some F ∧ F ∈ fs ∧ e = .returned (.tuple #[.string F.text, .bool true])) ∧ Below w.heap.size w w' := by
  have HF := hide hfs
  have HS := hide hsz
  clear hfs hsz
  have HR : Hid (fileD (fs.drop 0) nm = fileD fs nm) := rfl
  have HB0 : Hid (Below w.heap.size w (w.alloc (.cells #[.slice ao fs.length cap] 27))) := (Below.refl _ w).alloc (Nat.le_refl _) _
  go_enter Tryz.func171, Tryz.ntmps171
  go_wp2
  go_loopw [11] (fun ii wr => ∃ (k : Nat), ii = .int .i64 k ∧ k ≤ fs.length ∧ Hid (fileD (fs.drop k) nm = fileD fs nm) ∧ Hid (Below w.heap.size w wr)) (fun ii _ => fs.length - (intOf ii).toNat)
  case atStart => exact ⟨0, rfl, Nat.zero_le _, HR, HB0⟩
  case round =>
    obtain ⟨k, rfl, hk, HK, HB⟩ := hrel
    by_cases hlt : k < fs.length
    · have hlt' : decide ((k : Int) < (fs.length : Int)) = true := by simp; omega
      obtain ⟨b, off, rfl, hbw, hc0, hc1, hc2⟩ := filesAt_keep HF.out HB.out k hlt
      have HM := hide (List.getElem_mem hlt)
      obtain ⟨F, HFk⟩ : ∃ F, Hid (fs[k] = F) := ⟨fs[k], hide rfl⟩
      rw [HFk.out] at hc0 hc1 hc2 HM
      have hi0 : (0 : Int) ≤ (k : Int) := by omega
      have hi1 : (k : Int) < (fs.length : Int) := by omega
      cases hq : (F.name.toList == nm.toList)
      · have HK1 : Hid (fileD (fs.drop (k + 1)) nm = fileD fs nm) := by show _ = _; rw [← HK.out]; exact (fileD_miss hlt (by rw [HFk.out]; exact hq)).symm
        go_wp2
        go_roundw
        case rel => exact ⟨k + 1, by go_num, by omega, HK1, HB.out.alloc HB.out.size _⟩
        case measure => simp [intOf]; omega
      · have HK1 : Hid (fileD fs nm = some F) := by show _ = _; rw [← HK.out, fileD_hit hlt (by rw [HFk.out]; exact hq), HFk.out]
        have hs2 := (HS.out F HM.out).2
        go_wp2_with fail
        refine (ownText_any F.text _ hs2).mono ?_
        rintro e w1 ⟨rfl, b1⟩
        have HB1 : Hid (Below w.heap.size w w1) := (HB.out.alloc HB.out.size _).trans (b1.mono (by have := HB.out.size; simp; omega))
        clear b1 hc0 hc1 hc2
        go_wp2
        go_ret2
        exact ⟨.inr ⟨F, HK1.out, HM.out, rfl⟩, HB1.out⟩
    · have hlt' : decide ((k : Int) < (fs.length : Int)) = false := by simp; omega
      have hR : Hid (fileD fs nm = none) := by show _ = _; rw [← HK.out]; exact fileD_end (by omega)
      go_wp2
      go_ret2
      exact ⟨.inl ⟨hR.out, rfl⟩, HB.out⟩
theorem okFrom_mem : ∀ (fs : List FileD) (p : Option ByteArray), okFrom p fs = true → ∀ F ∈ fs, fileOkD F = true
  | [], _, _, _, h => absurd h List.not_mem_nil
  | G :: r, none, h, F, hF => by
    simp only [okFrom, Bool.and_eq_true] at h
    rcases List.mem_cons.1 hF with rfl | hF
    · exact h.1
    · exact okFrom_mem r _ h.2 F hF
  | G :: r, some p, h, F, hF => by
    simp only [okFrom, Bool.and_eq_true] at h
    rcases List.mem_cons.1 hF with rfl | hF
    · exact h.1
    · exact okFrom_mem r _ h.2.2 F hF
theorem ok_file {F : FileD} (h : fileOkD F = true) : 1 ≤ F.name.size ∧ F.name.size ≤ 8 ∧ F.text.size ≤ 20000 ∧ 0 ≤ F.kept ∧ F.kept ≤ F.text.size := by
  simp only [fileOkD, nameOkD, Bool.and_eq_true, decide_eq_true_eq] at h
  omega
theorem disk_files {fs : List FileD} (h : diskOkD fs = true) : fs.length ≤ 30 ∧ ∀ F ∈ fs, 1 ≤ F.name.size ∧ F.name.size ≤ 8 ∧ F.text.size ≤ 20000 ∧ 0 ≤ F.kept ∧ F.kept ≤ F.text.size := by
  simp only [diskOkD, Bool.and_eq_true, decide_eq_true_eq] at h
  exact ⟨h.1, fun F hF => ok_file (okFrom_mem fs none h.2 F hF)⟩
def cellsF : List FileD → List Value
  | [] => []
  | F :: r => .string F.name :: .string F.text :: .int .i64 F.kept :: cellsF r
theorem cellsF_append : ∀ (a b : List FileD), cellsF (a ++ b) = cellsF a ++ cellsF b
  | [], _ => rfl
  | F :: r, b => by simp [cellsF, cellsF_append r b]
theorem cellsF_length : ∀ a : List FileD, (cellsF a).length = a.length * 3
  | [] => rfl
  | F :: r => by simp [cellsF, cellsF_length r]; omega
theorem cellsF_one : ∀ (a : List FileD), ∀ u ∈ cellsF a, u.oneCell' = true
  | [], u, h => absurd h List.not_mem_nil
  | F :: r, u, h => by
    simp only [cellsF, List.mem_cons] at h
    rcases h with rfl | rfl | rfl | h
    · rfl
    · rfl
    · rfl
    · exact cellsF_one r u h
theorem cellsF_get : ∀ (a : List FileD) (j : Nat) (h : j < a.length), (cellsF a)[j * 3]? = some (.string a[j].name) ∧ (cellsF a)[j * 3 + 1]? = some (.string a[j].text) ∧ (cellsF a)[j * 3 + 2]? = some (.int .i64 a[j].kept)
  | [], _, h => absurd h (by simp)
  | F :: r, 0, _ => by simp [cellsF]
  | F :: r, j + 1, h => by
    have := cellsF_get r j (by simpa using h)
    have e : (j + 1) * 3 = j * 3 + 3 := by omega
    simp only [cellsF, e]
    simpa using this
def RowF (w : World) (B : Nat) (v : Value) (fs : List FileD) : Prop := (v = .slice none 0 0 ∧ fs = []) ∨
  ∃ (g cap : Nat) (C : Array Value), v = .slice (some ⟨g, 0, none⟩) fs.length cap ∧ B ≤ g ∧ w.heap[g]? = some (.cells C 74 (0, 0)) ∧ fs.length * 3 ≤ C.size ∧ FilesIn C fs fs.length
theorem rowF_at {w : World} {B : Nat} {v : Value} {fs : List FileD} (h : RowF w B v fs) : ∃ ao cap, v = .slice ao fs.length cap ∧ FilesAt w ao fs := by
  rcases h with ⟨rfl, rfl⟩ | ⟨g, cap, C, rfl, _, hC, _, hI⟩
  · exact ⟨none, 0, rfl, fun j hj => absurd hj (by simp)⟩
  · exact ⟨_, cap, rfl, filesAt_own hC hI⟩
theorem rowF_lt {w : World} {B : Nat} {v : Value} {fs : List FileD} (h : RowF w B v fs) : ∀ g, v.ownBlock = some g → B ≤ g ∧ g < w.heap.size := by
  rcases h with ⟨rfl, rfl⟩ | ⟨g, cap, C, rfl, hB, hC, _, hI⟩
  · intro g h; cases h
  · intro g' h
    obtain rfl : g = g' := by simpa [Value.ownBlock] using h
    exact ⟨hB, (Array.getElem?_eq_some_iff.1 hC).1⟩
theorem rowF_keep {w w' : World} {B : Nat} {v : Value} {fs : List FileD} (h : RowF w B v fs) (hk : ∀ g, v.ownBlock = some g → w'.heap[g]? = w.heap[g]?) : RowF w' B v fs := by
  rcases h with ⟨rfl, rfl⟩ | ⟨g, cap, C, rfl, hB, hC, hs, hI⟩
  · exact .inl ⟨rfl, rfl⟩
  · exact .inr ⟨g, cap, C, rfl, hB, (hk g rfl).trans hC, hs, hI⟩
theorem rowF_below {w w' : World} {B : Nat} {v : Value} {fs : List FileD} (h : RowF w B v fs) (hb : Below w.heap.size w w') : RowF w' B v fs :=
  rowF_keep h (fun g hg => hb.block g (rowF_lt h g hg).2)
theorem rowF_grown {w w' : World} {B : Nat} {v : Value} {fs : List FileD} {r : Option Nat} (h : RowF w B v fs) (hb : w.grownBy w' r) (hr : ∀ g, v.ownBlock = some g → some g ≠ r) : RowF w' B v fs :=
  rowF_keep h (fun g hg => hb.block g (rowF_lt h g hg).2 (hr g hg))
theorem rowF_le {w : World} {B B' : Nat} {v : Value} {fs : List FileD} (h : RowF w B v fs) (hB : B' ≤ B) : RowF w B' v fs := by
  rcases h with h | ⟨g, cap, C, h1, h2, h3⟩
  · exact .inl h
  · exact .inr ⟨g, cap, C, h1, by omega, h3⟩
theorem take_get {C : Array Value} {xs : List Value} {n : Nat} (h : C.toList.take n = xs) {j : Nat} {u : Value} (hj : j < n) (hu : xs[j]? = some u) : C[j]? = some u := by
  rw [← h, List.getElem?_take_of_lt hj] at hu
  simpa using hu
theorem rowF_own {w : World} {B : Nat} {v : Value} {fs : List FileD} (h : w.ownsRow B 74 3 v fs.length (cellsF fs)) : RowF w B v fs := by
  rcases h.2 with ⟨rfl, hn⟩ | ⟨g, cap, cur, rfl, hB, hC, hle, _, hs, ht⟩
  · exact .inl ⟨rfl, List.eq_nil_of_length_eq_zero hn⟩
  · refine .inr ⟨g, cap, cur, rfl, hB, hC, by omega, ?_⟩
    intro j hj _
    obtain ⟨h1, h2, h3⟩ := cellsF_get fs j hj
    exact ⟨take_get ht (by omega) h1, take_get ht (by omega) h2, take_get ht (by omega) h3⟩
theorem step_app_file {ops : Array Oper} {o : Oper} {a : Act} {K : Act → World → Prop} {Q : Exit → Act → World → Prop} {E : Prop} (W : World) (B : Nat) (hgd : o.guard = none) (s x : Operand)
    (ho : o.op = .call { callee := .builtin .append, args := #[s, x], argTypes := #[25, 25] }) (v : Value) (l : List FileD) (F : FileD) (hs : a.eval s = v)
    (hown : W.ownsRow B 74 3 v l.length (cellsF l)) (k : Nat) (hx : a.eval x = .slice (some ⟨k, 0, none⟩) 1 1) (hblk : W.heap[k]? = some (.cells #[.string F.name, .string F.text, .int .i64 F.kept] 74 (0, 0)))
    (hlen : l.length ≤ 1048576) (hbase : B ≤ W.heap.size)
    (h : ∀ g cap w', w'.ownsRow B 74 3 (.slice (some ⟨g, 0, none⟩) (l.length + 1) cap) (l ++ [F]).length (cellsF (l ++ [F])) → Below B W w' → B ≤ g → g < w'.heap.size → K (a.put o.dst (.slice (some ⟨g, 0, none⟩) (l.length + 1) cap)) w') :
    if Region.wanted o (yielded ops a.tmps) = true then Oper.wp Tryz.prog o a W K Q else E := by
  obtain ⟨i0, hi, hz0, hz1, hz2⟩ := info_parts Tryz.infoFile
  refine step_append_lies W hgd s x 25 ho B 74 i0 (.agg #[.string ⟨#[]⟩, .string ⟨#[]⟩, .int .i64 0]) 3 40 Tryz.underlying25 hi hz0 hz1 hz2 rfl (by decide) v l.length (cellsF l) hs hown ⟨k, 0, none⟩ 1 1 (cellsF [F]) hx (by rw [cellsF_length]; rfl)
    (fun j u hj => World.news_of_block hblk j u hj) (cellsF_one [F]) (by omega) (by unfold maxLen; omega) (by omega) hbase W.heap.size rfl ?_
  intro g cap w' hown' hgrow hg hgl
  have hlt := hown.lt
  refine h g cap w' ?_ ((Below.refl B W).grown hgrow hbase (fun k hk => (hlt k hk).1)) ?_ hgl
  · rw [cellsF_append, List.length_append]
    exact hown'
  · rcases hg with hg | rfl
    · exact (hlt g hg).1
    · exact hbase
theorem app_file {ops : Array Oper} {rest : List Oper} {o : Oper} {a : Act} {Q : Exit → Act → World → Prop} (W : World) (B : Nat) (hgd : o.guard = none) (s x : Operand)
    (ho : o.op = .call { callee := .builtin .append, args := #[s, x], argTypes := #[25, 25] }) (v : Value) (l : List FileD) (F : FileD) (hs : a.eval s = v)
    (hown : W.ownsRow B 74 3 v l.length (cellsF l)) (k : Nat) (hx : a.eval x = .slice (some ⟨k, 0, none⟩) 1 1) (hblk : W.heap[k]? = some (.cells #[.string F.name, .string F.text, .int .i64 F.kept] 74 (0, 0)))
    (hlen : l.length ≤ 1048576) (hbase : B ≤ W.heap.size)
    (h : ∀ g cap w', w'.ownsRow B 74 3 (.slice (some ⟨g, 0, none⟩) (l.length + 1) cap) (l ++ [F]).length (cellsF (l ++ [F])) → Below B W w' → B ≤ g → g < w'.heap.size → wpList Tryz.prog ops Q rest (a.put o.dst (.slice (some ⟨g, 0, none⟩) (l.length + 1) cap)) w') :
    wpList Tryz.prog ops Q (o :: rest) a W := by
  obtain ⟨i0, hi, hz0, hz1, hz2⟩ := info_parts Tryz.infoFile
  refine wpList_append_lies W hgd s x 25 ho B 74 i0 (.agg #[.string ⟨#[]⟩, .string ⟨#[]⟩, .int .i64 0]) 3 40 Tryz.underlying25 hi hz0 hz1 hz2 rfl (by decide) v l.length (cellsF l) hs hown ⟨k, 0, none⟩ 1 1 (cellsF [F]) hx (by rw [cellsF_length]; rfl)
    (fun j u hj => World.news_of_block hblk j u hj) (cellsF_one [F]) (by omega) (by unfold maxLen; omega) (by omega) hbase W.heap.size rfl ?_
  intro g cap w' hown' hgrow hg hgl
  have hlt := hown.lt
  refine h g cap w' ?_ ((Below.refl B W).grown hgrow hbase (fun k hk => (hlt k hk).1)) ?_ hgl
  · rw [cellsF_append, List.length_append]
    exact hown'
  · rcases hg with hg | rfl
    · exact (hlt g hg).1
    · exact hbase
end Go.Proofs.YtmmchemgegmhhaaGreatDoor
