import Derived.Deep.RegionHeld3
import Derived.Deep.CutRange
import Derived.Deep.RegionLaw
import Derived.Test.YtmmchemgegmhhaaGreatDoorSlim2
import Derived.Test.YtmmchemgegmhhaaGreatDoorSlim0
set_option maxRecDepth 100000
set_option maxHeartbeats 1600000
namespace Go.Proofs.YtmmchemgegmhhaaGreatDoor
open Go.RowKit
theorem list_nil_of_size {s : ByteArray} (h : s.size = 0) : s.toList = [] := List.eq_nil_of_length_eq_zero (by rw [ByteArray.toList_eq, Array.length_toList]; exact h)
theorem list_ne_of_size {s : ByteArray} (h : ¬ s.size = 0) : ¬ s.toList = [] := fun e => h (by have h0 := congrArg List.length e; rw [ByteArray.toList_eq, Array.length_toList] at h0; exact h0)
theorem specBatchOk_any (q : Int) (fs : List ChangeD) (ao : Option Addr) (cap : Nat) (w : World) (hl : fs.length ≤ 1048576) (hfs : ChangesAt w ao fs) (hsz : ∀ A ∈ fs, A.key.size ≤ maxLen ∧ A.value.size ≤ maxLen) :
    Calls Tryz.prog 108 #[.agg #[.int .i64 q, .slice ao fs.length cap]] w fun e w' => e = .returned (.bool (batchOkD q fs)) ∧ Below w.heap.size w w' := by
  have HF := hide hfs
  have HS := hide hsz
  clear hfs hsz
  obtain ⟨R, HR⟩ : ∃ R, Hid (batchOkD q fs = R) := ⟨_, hide rfl⟩
  rw [HR.out]
  have eN : (decide ((1 : Int) ≤ (fs.length : Int)) && decide ((fs.length : Int) ≤ 40)) = (decide (1 ≤ fs.length) && decide (fs.length ≤ 40)) := by
    congr 1
    · rw [decide_eq_decide]; omega
    · rw [decide_eq_decide]; omega
  cases hq : (decide ((0 : Int) ≤ q) && decide (q ≤ 1000000000))
  · have hR : R = false := by rw [← HR.out, batchOkD, hq]; rfl
    subst hR
    go_enter Tryz.func108, Tryz.ntmps108
    go_wp2_with fail
    refine (l01In_val _ _ _ _ _ hq).mono ?_
    rintro e w1 ⟨rfl, rfl⟩
    go_wp2
    go_ret
    exact ⟨rfl, (Below.refl _ w).alloc (Nat.le_refl _) _⟩
  cases hn : (decide (1 ≤ fs.length) && decide (fs.length ≤ 40))
  · have hR : R = false := by rw [← HR.out, batchOkD, hq, hn]; rfl
    subst hR
    go_enter Tryz.func108, Tryz.ntmps108
    go_wp2_with fail
    refine (l01In_val _ _ _ _ _ hq).mono ?_
    rintro e w1 ⟨rfl, rfl⟩
    go_wp2_with fail
    refine (l01In_val _ _ _ _ _ (eN.trans hn)).mono ?_
    rintro e w1 ⟨rfl, rfl⟩
    go_wp2
    go_ret
    exact ⟨rfl, (Below.refl _ w).alloc (Nat.le_refl _) _⟩
  have HR0 : Hid (okChg (prevChg fs 0) (fs.drop 0) = R) := by show _ = _; rw [← HR.out, batchOkD, hq, hn]; rfl
  go_enter Tryz.func108, Tryz.ntmps108
  go_wp2_with fail
  refine (l01In_val _ _ _ _ _ hq).mono ?_
  rintro e w1 ⟨rfl, rfl⟩
  go_wp2_with fail
  refine (l01In_val _ _ _ _ _ (eN.trans hn)).mono ?_
  rintro e w1 ⟨rfl, rfl⟩
  go_wp2
  go_loopw [3] (fun ii wr => ∃ (k : Nat), ii = .int .i64 k ∧ k ≤ fs.length ∧ Hid (okChg (prevChg fs k) (fs.drop k) = R) ∧ Hid (Below (w.heap.size + 1) (w.alloc (.cells #[.int .i64 q, .slice ao fs.length cap] 96)) wr)) (fun ii _ => fs.length - (intOf ii).toNat)
  case atStart => exact ⟨0, rfl, Nat.zero_le _, HR0, Below.refl _ _⟩
  case round =>
    obtain ⟨k, rfl, hk, HK, HB⟩ := hrel
    have HB0 : Hid (Below w.heap.size w wr) := ((Below.refl _ w).alloc (Nat.le_refl _) _).trans (HB.out.mono (by omega))
    have hbox : wr.cell? ⟨w.heap.size, 1, none⟩ = some (.slice ao fs.length cap) := (HB.out.cell (p := ⟨w.heap.size, 1, none⟩) (by simp)).trans (by rw [cell_of_row _ _ _ _ _ (0, 0) (heap_alloc_new w _)]; rfl)
    by_cases hlt : k < fs.length
    · have hlt' : decide ((k : Int) < (fs.length : Int)) = true := by simp; omega
      have hsw : w.heap.size + 1 ≤ wr.heap.size := by have := HB.out.size; simpa using this
      obtain ⟨b, off, rfl, hbw, hc0, hc1, hc2⟩ := changesAt_keep HF.out HB0.out k hlt
      obtain ⟨hs1, hs2⟩ := HS.out fs[k] (List.getElem_mem hlt)
      obtain ⟨F, HFk⟩ : ∃ F, Hid (fs[k] = F) := ⟨fs[k], hide rfl⟩
      rw [HFk.out] at hc0 hc1 hc2 hs1 hs2
      have hi0 : (0 : Int) ≤ (k : Int) := by omega
      have hi1 : (k : Int) < (fs.length : Int) := by omega
      have b2 : Below wr.heap.size wr (wr.alloc (.cells #[.string F.key, .string F.value, .bool F.gone] 144)) := (Below.refl _ wr).alloc (Nat.le_refl _) _
      have HB1 : Hid (Below (w.heap.size + 1) (w.alloc (.cells #[.int .i64 q, .slice (some ⟨b, off, none⟩) fs.length cap] 96)) (wr.alloc (.cells #[.string F.key, .string F.value, .bool F.gone] 144))) := HB.out.trans (b2.mono hsw)
      have HB2 : Hid (Below w.heap.size w (wr.alloc (.cells #[.string F.key, .string F.value, .bool F.gone] 144))) := HB0.out.trans (b2.mono (by omega))
      unfold maxLen at hs1 hs2
      go_wp2_with fail
      have hbox1 : (wr.alloc (.cells #[.string F.key, .string F.value, .bool F.gone] 144)).cell? ⟨w.heap.size, 1, none⟩ = some (.slice (some ⟨b, off, none⟩) fs.length cap) := (b2.cell (p := ⟨w.heap.size, 1, none⟩) (by show w.heap.size < _; omega)).trans hbox
      have hfile := heap_alloc_new wr (.cells #[.string F.key, .string F.value, .bool F.gone] 144)
      obtain ⟨W, hW⟩ : ∃ W, W = wr.alloc (.cells #[.string F.key, .string F.value, .bool F.gone] 144) := ⟨_, rfl⟩
      rw [← hW] at HB1 HB2 hbox1 hfile ⊢
      have hg0 : W.cell? ⟨wr.heap.size, 0, none⟩ = some (.string F.key) := (cell_of_row W wr.heap.size 0 _ _ (0, 0) hfile).trans rfl
      have hg1 : W.cell? ⟨wr.heap.size, 1, none⟩ = some (.string F.value) := (cell_of_row W wr.heap.size 1 _ _ (0, 0) hfile).trans rfl
      have hg2 : W.cell? ⟨wr.heap.size, 2, none⟩ = some (.bool F.gone) := (cell_of_row W wr.heap.size 2 _ _ (0, 0) hfile).trans rfl
      clear hW hfile b2 hbox hc0 hc1 hc2
      have e1 : (decide ((1 : Int) ≤ (F.key.size : Int)) && decide ((F.key.size : Int) ≤ 20)) = (decide (1 ≤ F.key.size) && decide (F.key.size ≤ 20)) := by congr 1 <;> rw [decide_eq_decide] <;> omega
      cases h1k : (decide (1 ≤ F.key.size) && decide (F.key.size ≤ 20))
      · have h1 := e1.trans h1k
        have hR : Hid (R = false) := by show _ = _; rw [← HK.out]; exact okChg_bad hlt (by rw [HFk.out, changeOkD]; rw [h1k]; rfl)
        go_quiet ((go_at_call 43; exact Calls.quiet_of_same (l01In_val _ _ _ _ _ h1)))
        go_wp2
        go_ret
        rw [hR.out]
        exact ⟨rfl, below_drewN HB2.out _⟩
      · have h1 := e1.trans h1k
        cases hk0 : decide (0 < k)
        · have hkz : k = 0 := by simpa using hk0
          by_cases h2 : 2000 < F.value.size
          · have h2a : decide (2000 < F.value.size) = true := by simp; omega
            have h2b : decide ((2000 : Int) < (F.value.size : Int)) = true := by simp; omega
            have hR : Hid (R = false) := by show _ = _; rw [← HK.out]; exact okChg_bad hlt (by rw [HFk.out, changeOkD]; rw [show decide (F.value.size ≤ 2000) = false from by simp; omega]; simp)
            go_quiet ((go_at_call 43; exact Calls.quiet_of_same (l01In_val _ _ _ _ _ h1)))
            go_wp2
            go_ret
            rw [hR.out]
            exact ⟨rfl, below_drewN HB2.out _⟩
          · have h2a : decide (2000 < F.value.size) = false := by simp; omega
            have h2b : decide ((2000 : Int) < (F.value.size : Int)) = false := by simp; omega
            have h2c : decide (F.value.size ≤ 2000) = true := by simp; omega
            cases h3 : F.gone
            · have hok : changeOkD F = true := by rw [changeOkD, h1k, h2c, h3]; rfl
              have h3' := h3
              have HK1 : Hid (okChg (prevChg fs (k + 1)) (fs.drop (k + 1)) = R) := by show _ = _; rw [← HK.out]; subst hkz; exact (okChg_first hlt (by rw [HFk.out]; exact hok)).symm
              go_quiet ((go_at_call 43; exact Calls.quiet_of_same (l01In_val _ _ _ _ _ h1)))
              go_wp2
              go_roundw
              case rel => exact ⟨k + 1, by go_num, by omega, HK1, below_drewN HB1.out _⟩
              case measure => simp [intOf]; omega
            · by_cases h4 : F.value.size = 0
              · have h4a : (F.value.toList == []) = true := by simpa using list_nil_of_size h4
                have hok : changeOkD F = true := by rw [changeOkD, h1k, h2c, h3, show decide (F.value.size = 0) = true from by simp [h4]]; rfl
                have HK1 : Hid (okChg (prevChg fs (k + 1)) (fs.drop (k + 1)) = R) := by show _ = _; rw [← HK.out]; subst hkz; exact (okChg_first hlt (by rw [HFk.out]; exact hok)).symm
                go_quiet ((go_at_call 43; exact Calls.quiet_of_same (l01In_val _ _ _ _ _ h1)))
                go_wp2
                go_roundw
                case rel => exact ⟨k + 1, by go_num, by omega, HK1, below_drewN HB1.out _⟩
                case measure => simp [intOf]; omega
              · have h4a : (F.value.toList == []) = false := by simpa using list_ne_of_size h4
                have hR : Hid (R = false) := by show _ = _; rw [← HK.out]; exact okChg_bad hlt (by rw [HFk.out, changeOkD]; rw [h3, show decide (F.value.size = 0) = false from by simp [h4]]; simp)
                go_quiet ((go_at_call 43; exact Calls.quiet_of_same (l01In_val _ _ _ _ _ h1)))
                go_wp2
                go_ret
                rw [hR.out]
                exact ⟨rfl, below_drewN HB2.out _⟩
        · have hkp : 0 < k := by simpa using hk0
          obtain ⟨b', off', hbe, hbw', hd0, hd1, hd2⟩ := changesAt_keep HF.out HB2.out (k - 1) (by omega)
          obtain ⟨rfl, rfl⟩ : b = b' ∧ off = off' := by simpa using hbe
          obtain ⟨F', HFk'⟩ : ∃ F', Hid (fs[k - 1] = F') := ⟨fs[k - 1], hide rfl⟩
          rw [HFk'.out] at hd0
          clear hd1 hd2 hbe
          have hw : IntKind.i64.wrap ((k : Int) - 1) = ((k - 1 : Nat) : Int) := by rw [IntKind.wrap_i64]; omega
          have hj0 : (0 : Int) ≤ ((k - 1 : Nat) : Int) := by omega
          have hj1 : ((k - 1 : Nat) : Int) < (fs.length : Int) := by omega
          cases hless : Op.bytesLess F'.key.toList F.key.toList
          · have hno := hless
            have hR : Hid (R = false) := by show _ = _; rw [← HK.out]; exact okChg_less hlt hkp (by rw [HFk.out, HFk'.out]; exact hless)
            go_quiet ((go_at_call 43; exact Calls.quiet_of_same (l01In_val _ _ _ _ _ h1)))
            go_wp2
            go_ret
            rw [hR.out]
            exact ⟨rfl, below_drewN HB2.out _⟩
          · have hyes := hless
            by_cases h2 : 2000 < F.value.size
            · have h2a : decide (2000 < F.value.size) = true := by simp; omega
              have h2b : decide ((2000 : Int) < (F.value.size : Int)) = true := by simp; omega
              have hR : Hid (R = false) := by show _ = _; rw [← HK.out]; exact okChg_bad hlt (by rw [HFk.out, changeOkD]; rw [show decide (F.value.size ≤ 2000) = false from by simp; omega]; simp)
              go_quiet ((go_at_call 43; exact Calls.quiet_of_same (l01In_val _ _ _ _ _ h1)))
              go_wp2
              go_ret
              rw [hR.out]
              exact ⟨rfl, below_drewN HB2.out _⟩
            · have h2a : decide (2000 < F.value.size) = false := by simp; omega
              have h2b : decide ((2000 : Int) < (F.value.size : Int)) = false := by simp; omega
              have h2c : decide (F.value.size ≤ 2000) = true := by simp; omega
              cases h3 : F.gone
              · have hok : changeOkD F = true := by rw [changeOkD, h1k, h2c, h3]; rfl
                have h3' := h3
                have HK1 : Hid (okChg (prevChg fs (k + 1)) (fs.drop (k + 1)) = R) := by show _ = _; rw [← HK.out]; exact (okChg_more hlt hkp (by rw [HFk.out]; exact hok) (by rw [HFk.out, HFk'.out]; exact hless)).symm
                go_quiet ((go_at_call 43; exact Calls.quiet_of_same (l01In_val _ _ _ _ _ h1)))
                go_wp2
                go_roundw
                case rel => exact ⟨k + 1, by go_num, by omega, HK1, below_drewN HB1.out _⟩
                case measure => simp [intOf]; omega
              · by_cases h4 : F.value.size = 0
                · have h4a : (F.value.toList == []) = true := by simpa using list_nil_of_size h4
                  have hok : changeOkD F = true := by rw [changeOkD, h1k, h2c, h3, show decide (F.value.size = 0) = true from by simp [h4]]; rfl
                  have HK1 : Hid (okChg (prevChg fs (k + 1)) (fs.drop (k + 1)) = R) := by show _ = _; rw [← HK.out]; exact (okChg_more hlt hkp (by rw [HFk.out]; exact hok) (by rw [HFk.out, HFk'.out]; exact hless)).symm
                  go_quiet ((go_at_call 43; exact Calls.quiet_of_same (l01In_val _ _ _ _ _ h1)))
                  go_wp2
                  go_roundw
                  case rel => exact ⟨k + 1, by go_num, by omega, HK1, below_drewN HB1.out _⟩
                  case measure => simp [intOf]; omega
                · have h4a : (F.value.toList == []) = false := by simpa using list_ne_of_size h4
                  have hR : Hid (R = false) := by show _ = _; rw [← HK.out]; exact okChg_bad hlt (by rw [HFk.out, changeOkD]; rw [h3, show decide (F.value.size = 0) = false from by simp [h4]]; simp)
                  go_quiet ((go_at_call 43; exact Calls.quiet_of_same (l01In_val _ _ _ _ _ h1)))
                  go_wp2
                  go_ret
                  rw [hR.out]
                  exact ⟨rfl, below_drewN HB2.out _⟩
    · have hlt' : decide ((k : Int) < (fs.length : Int)) = false := by simp; omega
      have hR : Hid (R = true) := by show _ = _; rw [← HK.out, okChg_end (by omega)]
      go_wp2
      go_ret
      rw [hR.out]
      exact ⟨rfl, HB0.out⟩
def shortB (s : ByteArray) : ByteArray := ⟨(Wd.varF 5 s.size).toArray⟩ ++ s
def flagB (g : Bool) : ByteArray := if g then ⟨#[1]⟩ else ⟨#[0]⟩
def changeB (A : ChangeD) : ByteArray := shortB A.key ++ flagB A.gone ++ shortB A.value
def headB (q n : Nat) : ByteArray := ⟨#[66]⟩ ++ ⟨(Wd.varF 5 q).toArray⟩ ++ ⟨(Wd.varF 5 n).toArray⟩
def changesL : List ChangeD → List UInt8
  | [] => []
  | A :: r => (changeB A).data.toList ++ changesL r
def batchL (q : Nat) (fs : List ChangeD) : List UInt8 := (headB q fs.length).data.toList ++ changesL fs
theorem changesL_snoc : ∀ (a : List ChangeD) (A : ChangeD), changesL (a ++ [A]) = changesL a ++ (changeB A).data.toList
  | [], A => by simp [changesL]
  | B :: r, A => by simp [changesL, changesL_snoc r A, List.append_assoc]
theorem size_of_list (l : List UInt8) : (⟨l.toArray⟩ : ByteArray).size = l.length := rfl
theorem shortB_size (s : ByteArray) : (shortB s).size ≤ s.size + 5 := by
  have h := Wd.varF_length 5 s.size
  rw [shortB, ByteArray.size_append, size_of_list]
  omega
theorem flagB_size (g : Bool) : (flagB g).size = 1 := by cases g <;> rfl
theorem changeB_size (A : ChangeD) : (changeB A).size ≤ A.key.size + A.value.size + 11 := by
  have h1 := shortB_size A.key
  have h2 := shortB_size A.value
  rw [changeB, ByteArray.size_append, ByteArray.size_append, flagB_size]
  omega
theorem headB_size (q n : Nat) : (headB q n).size ≤ 11 := by
  have h1 := Wd.varF_length 5 q
  have h2 := Wd.varF_length 5 n
  have e1 : (⟨#[66]⟩ : ByteArray).size = 1 := rfl
  rw [headB, ByteArray.size_append, ByteArray.size_append, e1, size_of_list, size_of_list]
  omega
theorem l05Short_any (s : ByteArray) (w : World) (hs : s.size ≤ 1048576) :
    Calls Tryz.prog 109 #[.string s] w fun e w' => e = .returned (.string (shortB s)) ∧ Below w.heap.size w w' := by
  have HE : Hid (shortB s = ⟨(Wd.varF 5 s.size).toArray⟩ ++ s) := rfl
  have hv := Wd.varF_length 5 s.size
  go_enter Tryz.func109, Tryz.ntmps109
  go_wp2_with (first | (go_at_call 87; refine (l01Var_any s.size _ (by omega)).mono ?_; rintro e w1 ⟨rfl, b1⟩))
  go_ret
  rw [HE.out]
  exact ⟨rfl, b1⟩
theorem l05Flag_any (g : Bool) (w : World) : Calls Tryz.prog 110 #[.bool g] w fun e w' => e = .returned (.string (flagB g)) ∧ w' = w := by
  cases g <;>
  · go_enter Tryz.func110, Tryz.ntmps110
    go_wp2
    go_ret
    exact ⟨rfl, rfl⟩
def textOkD (q : Int) (fs : List ChangeD) : Bool := batchOkD q fs && decide ((batchL q.toNat fs).length ≤ 9000)
def textD (q : Int) (fs : List ChangeD) : ByteArray := if textOkD q fs then ⟨(batchL q.toNat fs).toArray⟩ else ⟨#[]⟩
theorem batchOkD_bounds {q : Int} {fs : List ChangeD} (h : batchOkD q fs = true) : 0 ≤ q ∧ q ≤ 1000000000 ∧ 1 ≤ fs.length ∧ fs.length ≤ 40 := by
  simp only [batchOkD, Bool.and_eq_true, decide_eq_true_eq] at h
  omega
theorem changesL_len : ∀ (a : List ChangeD), (∀ A ∈ a, A.key.size ≤ 1048576 ∧ A.value.size ≤ 1048576) → (changesL a).length ≤ a.length * 2097163
  | [], _ => by simp [changesL]
  | A :: r, h => by
    have h1 := h A (List.mem_cons_self ..)
    have h2 := changesL_len r (fun B hB => h B (List.mem_cons_of_mem _ hB))
    have h3 := changeB_size A
    have e : (changeB A).data.toList.length = (changeB A).size := rfl
    simp only [changesL, List.length_append, List.length_cons]
    omega
theorem three_below {w w' : World} {b n : Nat} {x y : ByteArray} {z : Bool} (h : w.cell? ⟨b, 0, none⟩ = some (.string x) ∧ w.cell? ⟨b, 1, none⟩ = some (.string y) ∧ w.cell? ⟨b, 2, none⟩ = some (.bool z)) (hb : Below n w w') (hlt : b < n) :
    w'.cell? ⟨b, 0, none⟩ = some (.string x) ∧ w'.cell? ⟨b, 1, none⟩ = some (.string y) ∧ w'.cell? ⟨b, 2, none⟩ = some (.bool z) :=
  ⟨(hb.cell (p := ⟨b, 0, none⟩) hlt).trans h.1, (hb.cell (p := ⟨b, 1, none⟩) hlt).trans h.2.1, (hb.cell (p := ⟨b, 2, none⟩) hlt).trans h.2.2⟩
theorem specBatchText_any (q : Int) (fs : List ChangeD) (ao : Option Addr) (cap : Nat) (w : World) (hl : fs.length ≤ 1048576) (hfs : ChangesAt w ao fs) (hsz : ∀ A ∈ fs, A.key.size ≤ 1048576 ∧ A.value.size ≤ 1048576) :
    Calls Tryz.prog 65 #[.agg #[.int .i64 q, .slice ao fs.length cap]] w fun e w' => e = .returned (.tuple #[.string (textD q fs), .bool (textOkD q fs)]) ∧ Below w.heap.size w w' := by
  have HF := hide hfs
  have HS := hide hsz
  have HS2 : Hid (∀ A ∈ fs, A.key.size ≤ maxLen ∧ A.value.size ≤ maxLen) := fun A hA => by have := hsz A hA; unfold maxLen; omega
  clear hfs hsz
  have b0 : Hid (Below w.heap.size w (w.alloc (.cells #[.int .i64 q, .slice ao fs.length cap] 96))) := (Below.refl _ w).alloc (Nat.le_refl _) _
  cases hok : batchOkD q fs
  · have hT : Hid (textOkD q fs = false) := by show _ = _; rw [textOkD, hok]; rfl
    have hX : Hid (textD q fs = ⟨#[]⟩) := by show _ = _; rw [textD, hT.out]; rfl
    go_enter Tryz.func65, Tryz.ntmps65
    go_wp2_with fail
    refine (specBatchOk_any q fs ao cap _ hl (changesAt_keep HF.out b0.out) HS2.out).mono ?_
    rintro e w1 ⟨rfl, b1⟩
    rw [hok]
    go_wp2
    go_ret2
    rw [hT.out, hX.out]
    exact ⟨rfl, b0.out.trans (b1.mono b0.out.size)⟩
  · obtain ⟨hq0, hq1, hn1, hn2⟩ := batchOkD_bounds hok
    obtain ⟨m, rfl⟩ := Int.eq_ofNat_of_zero_le hq0
    have HT : Hid (textOkD (m : Int) fs = decide ((batchL m fs).length ≤ 9000)) := by show _ = _; rw [textOkD, hok]; rfl
    have hbs : (w.alloc (.cells #[.int .i64 (m : Int), .slice ao fs.length cap] 96)).heap.size = w.heap.size + 1 := by simp
    have hbox := heap_alloc_new w (.cells #[.int .i64 (m : Int), .slice ao fs.length cap] 96)
    go_enter Tryz.func65, Tryz.ntmps65
    go_wp2_with fail
    refine (specBatchOk_any (m : Int) fs ao cap _ hl (changesAt_keep HF.out b0.out) HS2.out).mono ?_
    rintro e w1 ⟨rfl, b1⟩
    rw [hok]
    generalize w.alloc (.cells #[.int .i64 (m : Int), .slice ao fs.length cap] 96) = wb at b0 hbs hbox b1
    have HB1 : Hid (Below (w.heap.size + 1) wb w1) := hbs ▸ b1
    have HBX : Hid (wb.heap[w.heap.size]? = some (.cells #[.int .i64 (m : Int), .slice ao fs.length cap] 96 (0, 0))) := hbox
    have hbx1 := (HB1.out.block w.heap.size (by omega)).trans hbox
    have hc0 : w1.cell? ⟨w.heap.size, 0, none⟩ = some (.int .i64 (m : Int)) := (cell_of_row w1 _ 0 _ _ (0, 0) hbx1).trans rfl
    have hc1 : w1.cell? ⟨w.heap.size, 1, none⟩ = some (.slice ao fs.length cap) := (cell_of_row w1 _ 1 _ _ (0, 0) hbx1).trans rfl
    have hw1 : w.heap.size + 1 ≤ w1.heap.size := by have := HB1.out.size; omega
    have HBS := hide hbs
    clear b1 hbox hbx1 hbs
    obtain ⟨V, HV⟩ : ∃ V : Nat → ByteArray, Hid (∀ n, V n = ⟨(Wd.varF 5 n).toArray⟩) := ⟨_, fun _ => rfl⟩
    have HH : Hid (headB m fs.length = ⟨#[66]⟩ ++ V m ++ V fs.length) := by show _ = _; rw [HV.out, HV.out]; rfl
    have hz1 : (V m).size ≤ 5 := by rw [HV.out]; exact Wd.varF_length 5 m
    have hz2 : (V fs.length).size ≤ 5 := by rw [HV.out]; exact Wd.varF_length 5 fs.length
    have CV : Hid (∀ (n : Nat) (W : World), n < 34359738368 → Calls Tryz.prog 87 #[.int .i64 (n : Int)] W fun e w' => e = .returned (.string (V n)) ∧ Below W.heap.size W w') := fun n W hn => by rw [HV.out]; exact l01Var_any n W hn
    have hA1 : ¬ (9223372036854775807 < (⟨#[66]⟩ : ByteArray).size + (V m).size) := by have e : (⟨#[66]⟩ : ByteArray).size = 1 := rfl; omega
    have hA2 : ¬ (9223372036854775807 < 1 + (V m).size) := by omega
    have hA3 : ¬ (9223372036854775807 < 1 + (V m).size + (V fs.length).size) := by omega
    have hA4 : ¬ (9223372036854775807 < (⟨#[66]⟩ : ByteArray).size + (V m).size + (V fs.length).size) := by have e : (⟨#[66]⟩ : ByteArray).size = 1 := rfl; omega
    have hA5 : Hid ((⟨#[66]⟩ ++ V m ++ V fs.length : ByteArray).size ≤ maxLen) := by show _ ≤ _; rw [← HH.out]; have := headB_size m fs.length; unfold maxLen; omega
    have BB : Hid (Below w1.heap.size w1 w1) := Below.refl _ _
    go_wp2_with fail
    go_cut [4] from 7 (fun vo wx => Hid (OwnsB wx (w.heap.size + 1) 5 vo ((headB m fs.length).data.toList ++ changesL (fs.take 0))) ∧ Hid (Below (w.heap.size + 1) wb wx))
    case first =>
      have KC : Hid (∀ X, Below w1.heap.size w1 X → X.cell? ⟨w.heap.size, 0, none⟩ = some (.int .i64 (m : Int)) ∧ X.cell? ⟨w.heap.size, 1, none⟩ = some (.slice ao fs.length cap)) := fun X hX => ⟨(hX.cell (p := ⟨w.heap.size, 0, none⟩) hw1).trans hc0, (hX.cell (p := ⟨w.heap.size, 1, none⟩) hw1).trans hc1⟩
      obtain ⟨Z, HZ⟩ : ∃ Z : Nat, Hid (Z = (⟨#[66]⟩ ++ V m ++ V fs.length : ByteArray).size) := ⟨_, rfl⟩
      go_region_law ((first | (go_simp; go_at_call 87; refine (CV.out _ _ (by omega)).mono ?_; rintro e w2 ⟨rfl, b2⟩; (first | (have BB := hide (BB.out.trans (b2.mono BB.out.size))) | (have BB := hide (BB.out.trans (((Below.refl _ _).drew.trans b2).mono BB.out.size)))); clear b2; obtain ⟨hc0, hc1⟩ := KC.out _ BB.out; obtain ⟨w4, C, hcv, b4, hs4, ho4⟩ := conv_made (P := Tryz.prog) w2 9 22 5 (⟨#[66]⟩ ++ V m ++ V fs.length) Tryz.underlying9 Tryz.underlying22 Tryz.underlying5 hA5.out; rw [← HZ.out] at hcv ho4; have B4 := hide (BB.out.trans (b4.mono BB.out.size)); have HO4 := hide ho4; clear b4 hs4 ho4) | fail))
      all_goals
        go_wp2
        go_meet
        refine ⟨?_, HB1.out.trans (B4.out.mono hw1)⟩
        show OwnsB _ _ _ _ _
        rw [HH.out, List.take_zero, changesL, List.append_nil]
        exact ownsB_le HO4.out (by have := BB.out.size; omega)
    case rest =>
    obtain ⟨HO4, HB4⟩ := hcut
    clear hA1 hA2 hA3 hA4 hA5 hz1 hz2 CV BB HB1 hc0 hc1
    go_wp2_with fail
    go_loopw [4, 5] (fun vo ii wr => ∃ (k : Nat), ii = .int .i64 k ∧ k ≤ fs.length ∧ Hid (OwnsB wr (w.heap.size + 1) 5 vo ((headB m fs.length).data.toList ++ changesL (fs.take k))) ∧ Hid (Below (w.heap.size + 1) wb wr)) (fun _ ii _ => fs.length - (intOf ii).toNat)
    case atStart => exact ⟨0, rfl, Nat.zero_le _, HO4, HB4⟩
    case round =>
      clear HO4 HB4
      obtain ⟨k, rfl, hk, HO, HB⟩ := hrel
      have hws : w.heap.size + 1 ≤ wr.heap.size := by have h1 := HB.out.size; have h2 := HBS.out; omega
      have hbx := (HB.out.block w.heap.size (by omega)).trans HBX.out
      have hc1 : wr.cell? ⟨w.heap.size, 1, none⟩ = some (.slice ao fs.length cap) := (cell_of_row wr _ 1 _ _ (0, 0) hbx).trans rfl
      have HB0 : Hid (Below w.heap.size w wr) := b0.out.trans (HB.out.mono (by omega))
      clear hbx
      by_cases hlt : k < fs.length
      · have hlt' : decide ((k : Int) < (fs.length : Int)) = true := by simp; omega
        obtain ⟨b, off, rfl, hbw, hd0, hd1, hd2⟩ := changesAt_keep HF.out HB0.out k hlt
        obtain ⟨hs1, hs2⟩ := HS.out fs[k] (List.getElem_mem hlt)
        obtain ⟨F, HFk⟩ : ∃ F, Hid (fs[k] = F) := ⟨fs[k], hide rfl⟩
        rw [HFk.out] at hd0 hd1 hd2 hs1 hs2
        have hi0 : (0 : Int) ≤ (k : Int) := by omega
        have hi1 : (k : Int) < (fs.length : Int) := by omega
        have bx : Hid (Below wr.heap.size wr (wr.alloc (.cells #[.string F.key, .string F.value, .bool F.gone] 144))) := (Below.refl _ wr).alloc (Nat.le_refl _) _
        have hxs : wr.heap.size < (wr.alloc (.cells #[.string F.key, .string F.value, .bool F.gone] 144)).heap.size := by simp
        have hfile := heap_alloc_new wr (.cells #[.string F.key, .string F.value, .bool F.gone] 144)
        go_wp2_with fail
        generalize wr.alloc (.cells #[.string F.key, .string F.value, .bool F.gone] 144) = W at bx hxs hfile
        have hg0 : W.cell? ⟨wr.heap.size, 0, none⟩ = some (.string F.key) := (cell_of_row W wr.heap.size 0 _ _ (0, 0) hfile).trans rfl
        have hg1 : W.cell? ⟨wr.heap.size, 1, none⟩ = some (.string F.value) := (cell_of_row W wr.heap.size 1 _ _ (0, 0) hfile).trans rfl
        have hg2 : W.cell? ⟨wr.heap.size, 2, none⟩ = some (.bool F.gone) := (cell_of_row W wr.heap.size 2 _ _ (0, 0) hfile).trans rfl
        clear hfile hd0 hd1 hd2 hc1
        obtain ⟨G, HG⟩ : ∃ G : ByteArray → ByteArray, Hid (∀ s, G s = shortB s) := ⟨_, fun _ => rfl⟩
        obtain ⟨fb, Hfb⟩ : ∃ fb : ByteArray, Hid (fb = flagB F.gone) := ⟨_, rfl⟩
        have HCB : Hid (changeB F = G F.key ++ fb ++ G F.value) := by show _ = _; rw [HG.out, HG.out, Hfb.out]; rfl
        have hz0 : fb.size = 1 := by rw [Hfb.out]; exact flagB_size _
        have hz1 : (G F.key).size ≤ 1048581 := by rw [HG.out]; have := shortB_size F.key; omega
        have hz2 : (G F.value).size ≤ 1048581 := by rw [HG.out]; have := shortB_size F.value; omega
        have CG : Hid (∀ (s : ByteArray) (W : World), s.size ≤ 1048576 → Calls Tryz.prog 109 #[.string s] W fun e w' => e = .returned (.string (G s)) ∧ Below W.heap.size W w') := fun s W hs => by rw [HG.out]; exact l05Short_any s W hs
        have CF : Hid (∀ (W : World), Calls Tryz.prog 110 #[.bool F.gone] W fun e w' => e = .returned (.string fb) ∧ w' = W) := fun W => by rw [Hfb.out]; exact l05Flag_any _ W
        have hA1 : ¬ (9223372036854775807 < (G F.key).size + fb.size) := by omega
        have hA2 : ¬ (9223372036854775807 < (G F.key).size + fb.size + (G F.value).size) := by omega
        have hA3 : ¬ (9223372036854775807 < (G F.key).size + 1) := by omega
        have hA4 : ¬ (9223372036854775807 < (G F.key).size + 1 + (G F.value).size) := by omega
        have hA5 : Hid ((G F.key ++ fb ++ G F.value : ByteArray).size ≤ maxLen) := by show _ ≤ _; rw [ByteArray.size_append, ByteArray.size_append]; unfold maxLen; omega
        obtain ⟨Z, HZ⟩ : ∃ Z : Nat, Hid (Z = (G F.key ++ fb ++ G F.value : ByteArray).size) := ⟨_, rfl⟩
        have Hz0 := hide hz0
        clear hz0
        have BB : Hid (Below W.heap.size W W) := Below.refl _ _
        obtain ⟨LL, HLL⟩ : ∃ LL, Hid (LL = (headB m fs.length).data.toList ++ changesL (fs.take k)) := ⟨_, rfl⟩
        rw [← HLL.out] at HO
        have hLl : LL.length + (changeB F).data.toList.length ≤ 70368744177664 := by
          have h1 := headB_size m fs.length
          have h2 := changesL_len (fs.take k) (fun A hA => HS.out A (List.mem_of_mem_take hA))
          have h3 : (fs.take k).length ≤ fs.length := by rw [List.length_take]; omega
          have h4 := changeB_size F
          have e1 : (headB m fs.length).data.toList.length = (headB m fs.length).size := rfl
          have e2 : (changeB F).data.toList.length = (changeB F).size := rfl
          rw [HLL.out, List.length_append]
          omega
        have KC : Hid (∀ X, Below W.heap.size W X → X.cell? ⟨wr.heap.size, 0, none⟩ = some (.string F.key) ∧ X.cell? ⟨wr.heap.size, 1, none⟩ = some (.string F.value) ∧ X.cell? ⟨wr.heap.size, 2, none⟩ = some (.bool F.gone)) := fun X hX => three_below ⟨hg0, hg1, hg2⟩ hX hxs
        go_region_law ((first | (refine step_append_made _ 22 5 Tryz.underlying22 Tryz.info5 (w.heap.size + 1) (by rfl) _ _ (by rfl) _ LL (changeB F).data.toList (by rfl) (ownsB_below HO.out (bx.out.trans (B4.out.mono (Nat.le_of_lt hxs)))) ⟨w2.heap.size, 0, none⟩ C (by rw [HCB.out, show (G F.key ++ fb ++ G F.value : ByteArray).data.toList.length = Z from HZ.out.symm]; rfl) (by rw [HCB.out]; exact ownsB_cells HO4.out) hLl (Nat.le_trans hws (Nat.le_trans (Nat.le_of_lt hxs) B4.out.size)) ?_; intro v5 w5 ho5 hg5; have HO5 := hide ho5; have HG5 := hide hg5; clear ho5 hg5) | (go_simp; go_at_call 109; refine (CG.out _ _ (by assumption)).mono ?_; rintro e w2 ⟨rfl, b2⟩; (first | (have BB := hide (BB.out.trans (b2.mono BB.out.size))) | (have BB := hide (BB.out.trans (((Below.refl _ _).drew.trans b2).mono BB.out.size)))); clear b2; obtain ⟨hg0, hg1, hg2⟩ := KC.out _ BB.out; obtain ⟨w4, C, hcv, b4, hs4, ho4⟩ := conv_made (P := Tryz.prog) w2 9 22 5 (G F.key ++ fb ++ G F.value) Tryz.underlying9 Tryz.underlying22 Tryz.underlying5 hA5.out; rw [← HZ.out] at hcv ho4; have B4 := hide (BB.out.trans (b4.mono BB.out.size)); have HO4 := hide ho4; clear b4 hs4 ho4) | (go_simp; go_at_call 110; refine (CF.out _).mono ?_; rintro e w3 ⟨rfl, rfl⟩) | fail))
        all_goals
          go_wp2_with fail
          go_roundw
          case rel =>
            refine ⟨k + 1, by go_num, by omega, ?_, ((HB.out.trans (bx.out.mono hws)).trans (B4.out.mono (by omega))).grown HG5.out (by have := B4.out.size; omega) (fun g hg => (ownsB_lt HO.out g hg).1)⟩
            have e2 : (headB m fs.length).data.toList ++ changesL (fs.take (k + 1)) = LL ++ (changeB F).data.toList := by
              rw [HLL.out, List.take_succ_eq_append_getElem hlt, changesL_snoc, HFk.out, List.append_assoc]
            show OwnsB _ _ _ _ _
            rw [e2]
            exact HO5.out
          case measure => simp [intOf]; omega
      · have hlt' : decide ((k : Int) < (fs.length : Int)) = false := by simp; omega
        obtain ⟨L, HL⟩ : ∃ L, Hid (L = batchL m fs) := ⟨_, rfl⟩
        have HO1 : Hid (OwnsB wr (w.heap.size + 1) 5 u4 L) := by
          have h := HO.out
          rw [List.take_of_length_le (by omega)] at h
          show OwnsB _ _ _ _ _
          rw [HL.out]
          exact h
        have hcv := conv_backB (P := Tryz.prog) wr 22 9 5 _ u4 L Tryz.underlying22 Tryz.underlying5 Tryz.underlying9 HO1.out
        obtain ⟨g, co, cur, fz, rfl, -, -, -, hLc, hcm, -, -⟩ := HO1.out
        unfold maxLen at hcm
        have hm : ((m : Int)).toNat = m := by simp
        by_cases hbig : 9000 < L.length
        · have hbig' : decide ((9000 : Int) < (L.length : Int)) = true := by simp; omega
          have hT : Hid (textOkD (m : Int) fs = false) := by show _ = _; rw [HT.out, ← HL.out]; simp; omega
          have hX : Hid (textD (m : Int) fs = ⟨#[]⟩) := by show _ = _; rw [textD, hT.out]; rfl
          go_wp2
          go_ret2
          rw [hT.out, hX.out]
          exact ⟨rfl, HB0.out⟩
        · have hbig' : decide ((9000 : Int) < (L.length : Int)) = false := by simp; omega
          have hT : Hid (textOkD (m : Int) fs = true) := by show _ = _; rw [HT.out, ← HL.out]; simp; omega
          have hX : Hid (textD (m : Int) fs = ⟨L.toArray⟩) := by show _ = _; rw [textD, hT.out, hm, ← HL.out]; rfl
          go_wp2
          go_ret2
          rw [hT.out, hX.out]
          exact ⟨rfl, HB0.out⟩
def CurB (w : World) (g : Nat) (t : ByteArray) (i : Nat) (bad : Bool) : Prop := w.heap[g]? = some (.cells #[.string t, .int .i64 (i : Int), .bool bad] 205 (0, 0))
def varC (t : ByteArray) (i : Nat) (bad : Bool) : Nat × Nat × Bool :=
  match bad, Wd.rv t i with
  | false, some (n, p) => (n, p, false)
  | _, _ => (0, i, true)
def takeC (t : ByteArray) (n i : Nat) (bad : Bool) : ByteArray × Nat × Bool :=
  if bad = true ∨ t.size < i + n then (⟨#[]⟩, i, true) else (t.extract i (i + n), i + n, false)
def shortC (t : ByteArray) (i : Nat) (bad : Bool) : ByteArray × Nat × Bool := takeC t (varC t i bad).1 (varC t i bad).2.1 (varC t i bad).2.2
theorem varC_le {t : ByteArray} {i : Nat} (bad : Bool) (h : i ≤ t.size) : (varC t i bad).2.1 ≤ t.size ∧ (varC t i bad).1 ≤ 1000000000 := by
  unfold varC
  split
  · rename_i n p hr
    have := Wd.rv_bounds t i n p hr
    exact ⟨this.2.2, this.1⟩
  · exact ⟨h, Nat.zero_le _⟩
theorem takeC_le {t : ByteArray} {n i : Nat} (bad : Bool) (h : i ≤ t.size) : (takeC t n i bad).2.1 ≤ t.size ∧ (takeC t n i bad).1.size ≤ t.size := by
  unfold takeC
  split
  · exact ⟨h, Nat.zero_le _⟩
  · rename_i hc
    rw [ByteArray.size_extract]
    exact ⟨show i + n ≤ t.size by omega, by omega⟩
theorem curB_cells {w : World} {g : Nat} {t : ByteArray} {i : Nat} {bad : Bool} (h : CurB w g t i bad) : w.cell? ⟨g, 0, none⟩ = some (.string t) ∧ w.cell? ⟨g, 1, none⟩ = some (.int .i64 (i : Int)) ∧ w.cell? ⟨g, 2, none⟩ = some (.bool bad) :=
  ⟨(cell_of_row w g 0 _ _ (0, 0) h).trans rfl, (cell_of_row w g 1 _ _ (0, 0) h).trans rfl, (cell_of_row w g 2 _ _ (0, 0) h).trans rfl⟩
theorem curB_lt {w : World} {g : Nat} {t : ByteArray} {i : Nat} {bad : Bool} (h : CurB w g t i bad) : g < w.heap.size := (Array.getElem?_eq_some_iff.1 h).1
theorem curB_below {w w' : World} {g : Nat} {t : ByteArray} {i : Nat} {bad : Bool} (h : CurB w g t i bad) (hb : Below w.heap.size w w') : CurB w' g t i bad := (hb.block g (curB_lt h)).trans h
theorem l05Var_any (t : ByteArray) (g i : Nat) (bad : Bool) (w : World) (ht : t.size ≤ 1048576) (hi : i ≤ t.size) (h : CurB w g t i bad) :
    Calls Tryz.prog 149 #[.pointer (some ⟨g, 0, none⟩)] w fun e w' => e = .returned (.int .i64 ((varC t i bad).1 : Int)) ∧ CurB w' g t (varC t i bad).2.1 (varC t i bad).2.2 ∧ w.grownBy w' (some g) := by
  have HC := hide h
  have hg := curB_lt h
  obtain ⟨hc0, hc1, hc2⟩ := curB_cells h
  clear h
  cases hr : Wd.rv t i with
  | none =>
    have HV : Hid (varC t i bad = (0, i, true)) := by show _ = _; unfold varC; rw [hr]; cases bad <;> rfl
    have HR : Hid (∀ W, Calls Tryz.prog 147 #[.string t, .int .i64 (i : Int)] W fun e w' => e = .returned (.tuple #[.int .i64 0, .int .i64 0, .bool false]) ∧ Below W.heap.size W w') := fun W => by have h := specRead_in t i W ht hi; rw [hr] at h; exact h
    rw [HV.out]
    clear hr
    cases bad <;>
    · go_enter Tryz.func149, Tryz.ntmps149
      go_wp2_with fail
      go_region_held3 (fun w' => w'.cell? ⟨g, 0, none⟩ = some (.string t) ∧ w'.cell? ⟨g, 1, none⟩ = some (.int .i64 (i : Int))) (first | (go_keep; done) | (exact ⟨(B2.out.cell (p := ⟨g, 0, none⟩) hg).trans hc0, (B2.out.cell (p := ⟨g, 1, none⟩) hg).trans hc1⟩) | fail) ((first | (go_at_call 147; refine (HR.out _).mono ?_; rintro e w2 ⟨rfl, b2⟩; have B2 : Hid (Below w.heap.size w w2) := (Below.refl _ _).drew.trans b2; clear b2) | fail))
      have HC2 := hide (curB_below HC.out B2.out)
      obtain ⟨_, _, hd2⟩ := curB_cells HC2.out
      have hf2 := frozen_of_row w2 g 2 _ _ HC2.out
      go_wp2
      go_ret
      exact ⟨rfl, (heap_setCell_same _ g _ _ _ _ HC2.out).trans rfl, grownBy_store (grownBy_below _ B2.out) 2 _⟩
  | some x =>
    obtain ⟨n, p⟩ := x
    have HR : Hid (∀ W, Calls Tryz.prog 147 #[.string t, .int .i64 (i : Int)] W fun e w' => e = .returned (.tuple #[.int .i64 (n : Int), .int .i64 (p : Int), .bool true]) ∧ Below W.heap.size W w') := fun W => by have h := specRead_in t i W ht hi; rw [hr] at h; exact h
    cases bad
    · have HV : Hid (varC t i false = (n, p, false)) := by show _ = _; unfold varC; rw [hr]
      rw [HV.out]
      clear hr
      go_enter Tryz.func149, Tryz.ntmps149
      go_wp2_with fail
      go_region_held3 (fun w' => w'.cell? ⟨g, 0, none⟩ = some (.string t) ∧ w'.cell? ⟨g, 1, none⟩ = some (.int .i64 (i : Int))) (first | (go_keep; done) | (exact ⟨(B2.out.cell (p := ⟨g, 0, none⟩) hg).trans hc0, (B2.out.cell (p := ⟨g, 1, none⟩) hg).trans hc1⟩) | fail) ((first | (go_at_call 147; refine (HR.out _).mono ?_; rintro e w2 ⟨rfl, b2⟩; have B2 : Hid (Below w.heap.size w w2) := (Below.refl _ _).drew.trans b2; clear b2) | fail))
      have HC2 := hide (curB_below HC.out B2.out)
      obtain ⟨_, hd1, hd2⟩ := curB_cells HC2.out
      have hf1 := frozen_of_row w2 g 1 _ _ HC2.out
      go_wp2
      go_ret
      exact ⟨rfl, (heap_setCell_same _ g _ _ _ _ HC2.out).trans rfl, grownBy_store (grownBy_below _ B2.out) 1 _⟩
    · have HV : Hid (varC t i true = (0, i, true)) := by show _ = _; unfold varC; rw [hr]
      rw [HV.out]
      clear hr
      go_enter Tryz.func149, Tryz.ntmps149
      go_wp2_with fail
      go_region_held3 (fun w' => w'.cell? ⟨g, 0, none⟩ = some (.string t) ∧ w'.cell? ⟨g, 1, none⟩ = some (.int .i64 (i : Int))) (first | (go_keep; done) | (exact ⟨(B2.out.cell (p := ⟨g, 0, none⟩) hg).trans hc0, (B2.out.cell (p := ⟨g, 1, none⟩) hg).trans hc1⟩) | fail) ((first | (go_at_call 147; refine (HR.out _).mono ?_; rintro e w2 ⟨rfl, b2⟩; have B2 : Hid (Below w.heap.size w w2) := (Below.refl _ _).drew.trans b2; clear b2) | fail))
      have HC2 := hide (curB_below HC.out B2.out)
      obtain ⟨_, _, hd2⟩ := curB_cells HC2.out
      have hf2 := frozen_of_row w2 g 2 _ _ HC2.out
      go_wp2
      go_ret
      exact ⟨rfl, (heap_setCell_same _ g _ _ _ _ HC2.out).trans rfl, grownBy_store (grownBy_below _ B2.out) 2 _⟩
theorem l05Take_any (t : ByteArray) (g n i : Nat) (bad : Bool) (w : World) (ht : t.size ≤ 1048576) (hi : i ≤ t.size) (hn : n ≤ 1000000000) (h : CurB w g t i bad) :
    Calls Tryz.prog 148 #[.pointer (some ⟨g, 0, none⟩), .int .i64 (n : Int)] w fun e w' => e = .returned (.string (takeC t n i bad).1) ∧ CurB w' g t (takeC t n i bad).2.1 (takeC t n i bad).2.2 ∧ w.grownBy w' (some g) := by
  have HC := hide h
  obtain ⟨hc0, hc1, hc2⟩ := curB_cells h
  have hf1 := frozen_of_row w g 1 _ _ h
  have hf2 := frozen_of_row w g 2 _ _ h
  have hw : IntKind.i64.wrap ((t.size : Int) - (i : Int)) = (t.size : Int) - (i : Int) := by rw [IntKind.wrap_i64]; omega
  clear h
  by_cases hc : bad = true ∨ t.size < i + n
  · have HV : Hid (takeC t n i bad = (⟨#[]⟩, i, true)) := by show _ = _; unfold takeC; rw [if_pos hc]
    rw [HV.out]
    cases bad
    · have hlt : decide ((t.size : Int) - (i : Int) < (n : Int)) = true := by simp at hc; simp; omega
      clear hc
      go_enter Tryz.func148, Tryz.ntmps148
      go_wp2_with fail
      go_quiet (fail)
      go_wp2
      go_ret
      exact ⟨rfl, (heap_setCell_same _ g _ _ _ _ HC.out).trans rfl, grownBy_store (grownBy_below _ (below_drewN (Below.refl _ w) _)) 2 _⟩
    · clear hc
      go_enter Tryz.func148, Tryz.ntmps148
      go_wp2_with fail
      go_quiet (fail)
      go_wp2
      go_ret
      exact ⟨rfl, (heap_setCell_same _ g _ _ _ _ HC.out).trans rfl, grownBy_store (grownBy_below _ (below_drewN (Below.refl _ w) _)) 2 _⟩
  · have HV : Hid (takeC t n i bad = (t.extract i (i + n), i + n, false)) := by show _ = _; unfold takeC; rw [if_neg hc]
    rw [HV.out]
    obtain rfl : bad = false := by cases bad <;> simp at hc ⊢
    obtain ⟨P, hP⟩ : ∃ P : Nat, P = i + n := ⟨_, rfl⟩
    rw [← hP]
    have hlt : decide ((t.size : Int) - (i : Int) < (n : Int)) = false := by simp at hc; simp; omega
    have hw2 : IntKind.i64.wrap ((i : Int) + (n : Int)) = (P : Int) := by rw [IntKind.wrap_i64]; omega
    have hw3 : IntKind.i64.wrap ((P : Int) - (n : Int)) = (i : Int) := by rw [IntKind.wrap_i64]; omega
    obtain ⟨R, hR⟩ : ∃ R, t.extract i P = R := ⟨_, rfl⟩
    have hcut := cut_at t i P (i : Int) (P : Int) R rfl rfl (by omega) (by simp at hc; omega) hR
    rw [hR]
    have HP := hide hP
    clear hc hP hR
    go_enter Tryz.func148, Tryz.ntmps148
    go_wp2_with fail
    go_quiet (fail)
    go_wp2_with fail
    go_quiet (fail)
    go_wp2
    go_ret
    exact ⟨rfl, (heap_setCell_same _ g _ _ _ _ HC.out).trans rfl, grownBy_trans (grownBy_store (grownBy_below _ (below_drewN (Below.refl _ w) _)) 1 _) (grownBy_below _ (below_drewN (Below.refl _ _) _))⟩
theorem l05ReadShort_any (t : ByteArray) (g i : Nat) (bad : Bool) (w : World) (ht : t.size ≤ 1048576) (hi : i ≤ t.size) (h : CurB w g t i bad) :
    Calls Tryz.prog 150 #[.pointer (some ⟨g, 0, none⟩)] w fun e w' => e = .returned (.string (shortC t i bad).1) ∧ CurB w' g t (shortC t i bad).2.1 (shortC t i bad).2.2 ∧ w.grownBy w' (some g) := by
  have HC := hide h
  clear h
  have hv := varC_le bad hi
  have hcall := hide (fun W (hW : CurB W g t i bad) => l05Var_any t g i bad W ht hi hW)
  obtain ⟨x, HX⟩ : ∃ x, Hid (varC t i bad = x) := ⟨_, rfl⟩
  obtain ⟨n, j, b⟩ := x
  have HS : Hid (shortC t i bad = takeC t n j b) := by show _ = _; unfold shortC; rw [HX.out]
  rw [HX.out] at hv hcall
  rw [HS.out]
  go_enter Tryz.func150, Tryz.ntmps150
  go_wp2_with fail
  refine (hcall.out _ HC.out).mono ?_
  rintro e w1 ⟨rfl, hc1, hg1⟩
  have H1 := hide hc1
  have G1 := hide hg1
  clear hc1 hg1
  go_wp2_with fail
  refine (l05Take_any t g n j b _ ht hv.1 hv.2 H1.out).mono ?_
  rintro e w2 ⟨rfl, hc2, hg2⟩
  have H2 := hide hc2
  have G2 := hide hg2
  clear hc2 hg2
  go_wp2
  go_ret
  exact ⟨rfl, H2.out, grownBy_trans G1.out G2.out⟩
end Go.Proofs.YtmmchemgegmhhaaGreatDoor
