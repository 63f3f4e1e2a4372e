/- The law of DoAct. -/
import Derived.Test.YtnbpndnaoihinaiGot
import Derived.Deep.CutRange
import Derived.Deep.RegionHeld3
namespace Go.Proofs.Ytnbpndnaoihinai
open Go.RowKit

set_option maxRecDepth 100000 in
set_option maxHeartbeats 12000000 in
theorem lawDoAct (fs : List FileD) (ao : Option Addr) (cap : Nat) (A : ActD) (w : World) (hl0 : fs.length ≤ maxLen) (hfs : FilesAt w ao fs) (hsz0 : ∀ F ∈ fs, F.name.size ≤ maxLen ∧ F.text.size ≤ maxLen) (hA : A.name.size ≤ maxLen ∧ A.text.size ≤ maxLen ∧ A.to.size ≤ maxLen) :
    Calls Try.prog 5 #[.agg #[.slice ao fs.length cap], .agg #[.int .i64 A.kind, .string A.name, .string A.text, .string A.to]] w fun e w' => e = .returned (.bool true) ∧ Below w.heap.size w w' := by
  have HF := hide hfs
  have HS0 := hide hsz0
  have HAm := hide hA
  clear hfs hsz0 hA
  obtain ⟨wB, hw_wB⟩ : ∃ wq, wq = (w.alloc (.cells #[.slice ao fs.length cap] 24)).alloc (.cells #[.int .i64 A.kind, .string A.name, .string A.text, .string A.to] 37) := ⟨_, rfl⟩
  have hz_wB : w.heap.size + 1 + 1 ≤ wB.heap.size := by rw [hw_wB]; simp
  have HB_wB : Hid (Below w.heap.size w wB) := by rw [hw_wB]; exact ((Below.refl _ w).alloc (Nat.le_refl _) _).alloc (by simp) _
  have bA_wB : Hid (wB.heap[w.heap.size]? = some (.cells #[.slice ao fs.length cap] 24 (0, 0))) := by rw [hw_wB]; exact blk_below (heap_alloc_new _ _) ((Below.refl _ _).alloc (Nat.le_refl _) _)
  have bB_wB : Hid (wB.heap[w.heap.size + 1]? = some (.cells #[.int .i64 A.kind, .string A.name, .string A.text, .string A.to] 37 (0, 0))) := by rw [hw_wB, show w.heap.size + 1 = (w.alloc (.cells #[.slice ao fs.length cap] 24)).heap.size from by simp]; exact heap_alloc_new _ _
  go_enter Try.func5, Try.ntmps5
  go_wp2_with fail
  rw [← hw_wB]
  clear hw_wB
  refine (szDisk_any fs ao cap 1048576 _ (by decide) (by decide) hl0 (filesAt_keep HF.out HB_wB.out) HS0.out).mono ?_
  rintro e w1 ⟨⟨r, rfl, hr⟩, b_w1⟩
  have HR := hide hr
  clear hr
  have hs_w1 : wB.heap.size ≤ w1.heap.size := (b_w1).size
  have HB_w1 : Hid (Below w.heap.size w w1) := HB_wB.out.trans ((b_w1).mono HB_wB.out.size)
  have bA_w1 : Hid (w1.heap[w.heap.size]? = some (.cells #[.slice ao fs.length cap] 24 (0, 0))) := blk_below bA_wB.out (b_w1)
  have bB_w1 : Hid (w1.heap[w.heap.size + 1]? = some (.cells #[.int .i64 A.kind, .string A.name, .string A.text, .string A.to] 37 (0, 0))) := blk_below bB_wB.out (b_w1)
  clear HB_wB bA_wB bB_wB
  clear b_w1
  by_cases hneg : r < 0
  · have hneg' : decide (r < 0) = true := by simp; omega
    go_wp2
    go_ret
    exact ⟨rfl, HB_w1.out⟩
  have hneg' : decide (r < 0) = false := by simp; omega
  obtain ⟨hr1, hr2⟩ := HR.out (by omega)
  have HZ : Hid (∀ F ∈ fs, F.name.size ≤ 1048576 ∧ F.text.size ≤ 1048576) := szFs_small fs (1048576 - fs.length) (by omega) (by omega) (by omega)
  have hl : fs.length ≤ 1048576 := by omega
  have hrm : r ≤ 1048576 := by have := szFs_le fs (1048576 - fs.length) (by omega); omega
  clear hr1 hr2 HR
  have hc := act_cell bB_w1.out
  obtain ⟨hc0, hc1, hc2, hc3⟩ := hc
  go_wp2_with fail
  clear hc0 hc1 hc2 hc3
  refine (szAct_any A r _ (by omega) hrm HAm.out.1 HAm.out.2.1 HAm.out.2.2).mono ?_
  rintro e w2 ⟨rfl, b_w2⟩
  have hs_w2 : w1.heap.size ≤ w2.heap.size := (b_w2).size
  have HB_w2 : Hid (Below w.heap.size w w2) := HB_w1.out.trans ((b_w2).mono HB_w1.out.size)
  have bA_w2 : Hid (w2.heap[w.heap.size]? = some (.cells #[.slice ao fs.length cap] 24 (0, 0))) := blk_below bA_w1.out (b_w2)
  have bB_w2 : Hid (w2.heap[w.heap.size + 1]? = some (.cells #[.int .i64 A.kind, .string A.name, .string A.text, .string A.to] 37 (0, 0))) := blk_below bB_w1.out (b_w2)
  clear HB_w1 bA_w1 bB_w1
  clear b_w2
  obtain ⟨r2, HR2⟩ : ∃ r2, Hid (szA A r = r2) := ⟨_, hide rfl⟩
  rw [HR2.out]
  by_cases hneg2 : r2 < 0
  · have hneg2' : decide (r2 < 0) = true := by simp; omega
    go_wp2
    go_ret
    exact ⟨rfl, HB_w2.out⟩
  have hneg2' : decide (r2 < 0) = false := by simp; omega
  obtain ⟨hA1, hA2, hA3⟩ := szA_small hrm (by rw [HR2.out]; omega)
  clear hrm hneg HAm HS0
  obtain ⟨R, HRR⟩ : ∃ R, Hid ((actD fs A).getD [] = R) := ⟨_, hide rfl⟩
  obtain ⟨okb, HOK⟩ : ∃ okb, Hid ((actD fs A).isSome = okb) := ⟨_, hide rfl⟩
  have hRl : R.length ≤ 1048576 := by rw [← HRR.out]; exact act_len
  have hokb : (okb == okb) = true := beq_self_eq_true _
  go_upto_region 8 with fail
  go_cut [6, 7] from 16 (fun s6 s7 wx => ∃ β a9 c9, s6 = .pointer (some ⟨β, 0, none⟩) ∧ s7 = .bool okb ∧ GotF w2 wx β (.slice a9 R.length c9) R)
  case first =>
    rename_i hJ9 hK9
    have hk := box_of bA_w2.out
    obtain ⟨hk0, hk1, hk2, hk3⟩ := act_cell bB_w2.out
    have hW0 : w.heap.size < w2.heap.size := by omega
    have hW1 : w.heap.size + 1 < w2.heap.size := by omega
    have KS : Hid (∀ X, Below w2.heap.size w2 X → (X.cell? ⟨w.heap.size, 0, none⟩ = some (.slice ao fs.length cap) ∧ X.cell? ⟨w.heap.size + 1, 0, none⟩ = some (.int .i64 A.kind) ∧ X.cell? ⟨w.heap.size + 1, 1, none⟩ = some (.string A.name) ∧ X.cell? ⟨w.heap.size + 1, 2, none⟩ = some (.string A.text) ∧ X.cell? ⟨w.heap.size + 1, 3, none⟩ = some (.string A.to))) := fun X hX => ⟨(hX.cell (p := ⟨w.heap.size, 0, none⟩) hW0).trans hk, (hX.cell (p := ⟨w.heap.size + 1, 0, none⟩) hW1).trans hk0, (hX.cell (p := ⟨w.heap.size + 1, 1, none⟩) hW1).trans hk1, (hX.cell (p := ⟨w.heap.size + 1, 2, none⟩) hW1).trans hk2, (hX.cell (p := ⟨w.heap.size + 1, 3, none⟩) hW1).trans hk3⟩
    have HFk : Hid (∀ X, Below w2.heap.size w2 X → FilesAt X ao fs) := fun X hX => filesAt_keep HF.out (HB_w2.out.trans (hX.mono HB_w2.out.size))
    go_region_held3 (fun w' => w'.cell? ⟨w.heap.size, 0, none⟩ = some (.slice ao fs.length cap) ∧ w'.cell? ⟨w.heap.size + 1, 0, none⟩ = some (.int .i64 A.kind) ∧ w'.cell? ⟨w.heap.size + 1, 1, none⟩ = some (.string A.name) ∧ w'.cell? ⟨w.heap.size + 1, 2, none⟩ = some (.string A.text) ∧ w'.cell? ⟨w.heap.size + 1, 3, none⟩ = some (.string A.to)) (first | (exact KS.out _ ((Below.refl _ _).drew)) | (exact KS.out _ (((Below.refl _ w2).alloc (Nat.le_refl _) _).drew)) | (exact KS.out _ e3) | (exact KS.out _ (e3.alloc e3.size _)) | (exact KS.out _ e4) | (exact KS.out _ (e4.alloc e4.size _)) | (exact KS.out _ e5) | (exact KS.out _ (e5.alloc e5.size _)) | (exact KS.out _ (e5.setCell (p := ⟨_, 0, none⟩) wb _)) | fail) ((first | (go_at_call 8; refine (toDisk_any fs ao cap _ hl (HFk.out _ ((Below.refl _ _).drew))).mono ?_; rintro e w3 ⟨⟨g3, C3, rfl, hg3, hC3, hCs3, hI3⟩, b3⟩; have e3 : Below w2.heap.size w2 w3 := ((Below.refl _ _).drew).trans b3) | (go_at_call 8; refine (toDisk_any fs ao cap _ hl (HFk.out _ (((Below.refl _ w2).alloc (Nat.le_refl _) _).drew))).mono ?_; rintro e w3 ⟨⟨g3, C3, rfl, hg3, hC3, hCs3, hI3⟩, b3⟩; have e3 : Below w2.heap.size w2 w3 := (((Below.refl _ w2).alloc (Nat.le_refl _) _).drew).trans (b3.mono (by simp)); have q3 : Hid (w3.heap[w2.heap.size]? = some (.cells #[.slice none 0 0] 29 (0, 0))) := (b3.block _ (by simp)).trans (heap_alloc_new w2 _); have wb := Nat.le_refl w2.heap.size) | (go_at_call 15; refine (toAct_any A _).mono ?_; rintro e w4 ⟨rfl, b4⟩; have f4 : Below w3.heap.size w3 w4 := b4; have e4 := e3.trans (f4.mono e3.size); have q4 := hide (blk_below q3.out f4)) | (go_at_call 15; refine (toAct_any A _).mono ?_; rintro e w4 ⟨rfl, b4⟩; have f4 : Below w3.heap.size w3 w4 := b4; have e4 := e3.trans (f4.mono e3.size)) | (go_at_call 15; refine (toAct_any A _).mono ?_; rintro e w4 ⟨rfl, b4⟩; have f4 : Below w3.heap.size w3 w4 := ((Below.refl _ w3).alloc (Nat.le_refl _) _).trans (b4.mono (by simp)); have e4 := e3.trans (f4.mono e3.size); have q4 : Hid (w4.heap[w3.heap.size]? = some (.cells #[.slice none 0 0] 29 (0, 0))) := (b4.block _ (by simp)).trans (heap_alloc_new w3 _); have wb := e3.size) | (go_at_call 14; refine (specAct_any fs _ _ A _ hl (filesAt_own (blk_below hC3 f4) hI3) HZ.out hA1 hA2 hA3).mono ?_; rintro e w5 ⟨v5, rfl, hrow5, b5⟩; rw [HRR.out] at hrow5; rw [HOK.out]; obtain ⟨a5, c5, rfl, _⟩ := rowF_at hrow5; have f5 : Below w4.heap.size w4 w5 := b5; have e5 := e4.trans (f5.mono e4.size); have q5 := hide (blk_below q4.out f5); have zb := (Array.getElem?_eq_some_iff.1 q4.out).1; have hq4 := box_of q5.out; have hq5 := frozen_of_row w5 _ 0 _ _ q5.out) | (go_at_call 14; refine (specAct_any fs _ _ A _ hl (filesAt_own (blk_below hC3 f4) hI3) HZ.out hA1 hA2 hA3).mono ?_; rintro e w5 ⟨v5, rfl, hrow5, b5⟩; rw [HRR.out] at hrow5; rw [HOK.out]; obtain ⟨a5, c5, rfl, _⟩ := rowF_at hrow5; have f5 : Below w4.heap.size w4 w5 := b5; have e5 := e4.trans (f5.mono e4.size)) | (go_at_call 14; refine (specAct_any fs _ _ A _ hl (filesAt_own (blk_below hC3 (f4.alloc f4.size _)) hI3) HZ.out hA1 hA2 hA3).mono ?_; rintro e w5 ⟨v5, rfl, hrow5, b5⟩; rw [HRR.out] at hrow5; rw [HOK.out]; obtain ⟨a5, c5, rfl, _⟩ := rowF_at hrow5; have f5 : Below w4.heap.size w4 w5 := ((Below.refl _ w4).alloc (Nat.le_refl _) _).trans (b5.mono (by simp)); have e5 := e4.trans (f5.mono e4.size); have q5 : Hid (w5.heap[w4.heap.size]? = some (.cells #[.slice none 0 0] 29 (0, 0))) := (b5.block _ (by simp)).trans (heap_alloc_new w4 _); have wb := e4.size; have zb : w4.heap.size < (w4.alloc (.cells #[.slice none 0 0] 29)).heap.size := (by simp); have hq4 := box_of q5.out; have hq5 := frozen_of_row w5 _ 0 _ _ q5.out) | fail))
    all_goals (refine hK9 _ _ (Met.intro (hJ9 _ _ ?_)); (repeat apply Exists.intro); refine ⟨?_, rfl⟩)
    all_goals first | (exact ⟨_, _, _, rfl, rfl, got_old hrow5 zb wb e5 q5.out⟩) | (exact ⟨_, _, _, rfl, rfl, got_new hrow5 e4.size e5⟩)
  case rest =>
    obtain ⟨βW, aW, cW, rfl, rfl, hgot⟩ := hcut
    obtain ⟨wW, hwc⟩ : ∃ x, x = wc := ⟨_, rfl⟩
    subst hwc
    obtain ⟨hb0, hrow, hU, b_wW, hβ1, hβ2⟩ := hgot
    have bW_wW := hide hb0
    have rW_wW := hide hrow
    have UrW := hide hU
    clear hb0 hrow hU
    have hs_wW : w2.heap.size ≤ wW.heap.size := (b_wW).size
    have HB_wW : Hid (Below w.heap.size w wW) := HB_w2.out.trans ((b_wW).mono HB_w2.out.size)
    have bA_wW : Hid (wW.heap[w.heap.size]? = some (.cells #[.slice ao fs.length cap] 24 (0, 0))) := blk_below bA_w2.out (b_wW)
    have bB_wW : Hid (wW.heap[w.heap.size + 1]? = some (.cells #[.int .i64 A.kind, .string A.name, .string A.text, .string A.to] 37 (0, 0))) := blk_below bB_w2.out (b_wW)
    clear HB_w2 bA_w2 bB_w2
    clear b_wW
    have hl_bA := box_of bA_wW.out
    go_wp2_with fail
    clear hl_bA
    refine (toDisk_any fs ao cap _ hl (filesAt_keep HF.out HB_wW.out)).mono ?_
    rintro e w6 ⟨⟨gX, CX, rfl, hgX, hCX, hCsX, hIX⟩, b_w6⟩
    have hglX : gX < w6.heap.size := (Array.getElem?_eq_some_iff.1 hCX).1
    have rX_w6 : Hid (RowF w6 wW.heap.size (.slice (some ⟨gX, 0, none⟩) fs.length fs.length) fs) := .inr ⟨gX, fs.length, CX, rfl, hgX, hCX, by omega, hIX⟩
    clear hCX hCsX hIX
    have hs_w6 : wW.heap.size ≤ w6.heap.size := (b_w6).size
    have HB_w6 : Hid (Below w.heap.size w w6) := HB_wW.out.trans ((b_w6).mono HB_wW.out.size)
    have bA_w6 : Hid (w6.heap[w.heap.size]? = some (.cells #[.slice ao fs.length cap] 24 (0, 0))) := blk_below bA_wW.out (b_w6)
    have bB_w6 : Hid (w6.heap[w.heap.size + 1]? = some (.cells #[.int .i64 A.kind, .string A.name, .string A.text, .string A.to] 37 (0, 0))) := blk_below bB_wW.out (b_w6)
    have bW_w6 : Hid (w6.heap[βW]? = some (.cells #[.slice aW R.length cW] 29 (0, 0))) := blk_below bW_wW.out (b_w6)
    have rW_w6 : Hid (RowF w6 w2.heap.size (.slice aW R.length cW) R) := rowF_below rW_wW.out (b_w6)
    clear HB_wW bA_wW bB_wW bW_wW rW_wW
    clear b_w6
    have UrX : Hid (∀ g, (Value.slice (some ⟨gX, 0, none⟩) fs.length fs.length).ownBlock = some g → wW.heap.size ≤ g ∧ g < w6.heap.size ∧ g = gX) := own_slice hgX hglX
    obtain ⟨w7, hw_w7⟩ : ∃ wq, wq = w6.alloc (.cells #[.slice (some ⟨gX, 0, none⟩) fs.length fs.length] 29) := ⟨_, rfl⟩
    have bb_w7 : Below w6.heap.size w6 w7 := by rw [hw_w7]; exact (Below.refl _ _).alloc (Nat.le_refl _) _
    have hz_w7 : w6.heap.size + 1 ≤ w7.heap.size := by rw [hw_w7]; simp
    have bX_w7 : Hid (w7.heap[w6.heap.size]? = some (.cells #[.slice (some ⟨gX, 0, none⟩) fs.length fs.length] 29 (0, 0))) := by rw [hw_w7]; exact heap_alloc_new _ _
    have hs_w7 : w6.heap.size ≤ w7.heap.size := (bb_w7).size
    have HB_w7 : Hid (Below w.heap.size w w7) := HB_w6.out.trans ((bb_w7).mono HB_w6.out.size)
    have bA_w7 : Hid (w7.heap[w.heap.size]? = some (.cells #[.slice ao fs.length cap] 24 (0, 0))) := blk_below bA_w6.out (bb_w7)
    have bB_w7 : Hid (w7.heap[w.heap.size + 1]? = some (.cells #[.int .i64 A.kind, .string A.name, .string A.text, .string A.to] 37 (0, 0))) := blk_below bB_w6.out (bb_w7)
    have bW_w7 : Hid (w7.heap[βW]? = some (.cells #[.slice aW R.length cW] 29 (0, 0))) := blk_below bW_w6.out (bb_w7)
    have rW_w7 : Hid (RowF w7 w2.heap.size (.slice aW R.length cW) R) := rowF_below rW_w6.out (bb_w7)
    have rX_w7 : Hid (RowF w7 wW.heap.size (.slice (some ⟨gX, 0, none⟩) fs.length fs.length) fs) := rowF_below rX_w6.out (bb_w7)
    clear HB_w6 bA_w6 bB_w6 bW_w6 rW_w6 rX_w6
    clear bb_w7
    go_upto_region 10 with fail
    rw [← hw_w7]
    clear hw_w7
    go_cut [9, 10] from 16 (fun s6 s7 wx => ∃ β a9 c9, s6 = .pointer (some ⟨β, 0, none⟩) ∧ s7 = .bool okb ∧ GotF w7 wx β (.slice a9 R.length c9) R)
    case first =>
      rename_i hJ9 hK9
      have hk := box_of bX_w7.out
      obtain ⟨hk0, hk1, hk2, hk3⟩ := act_cell bB_w7.out
      have hW0 : w6.heap.size < w7.heap.size := by omega
      have hW1 : w.heap.size + 1 < w7.heap.size := by omega
      have KS : Hid (∀ X, Below w7.heap.size w7 X → (X.cell? ⟨w6.heap.size, 0, none⟩ = some (.slice (some ⟨gX, 0, none⟩) fs.length fs.length) ∧ X.cell? ⟨w.heap.size + 1, 0, none⟩ = some (.int .i64 A.kind) ∧ X.cell? ⟨w.heap.size + 1, 1, none⟩ = some (.string A.name) ∧ X.cell? ⟨w.heap.size + 1, 2, none⟩ = some (.string A.text) ∧ X.cell? ⟨w.heap.size + 1, 3, none⟩ = some (.string A.to))) := fun X hX => ⟨(hX.cell (p := ⟨w6.heap.size, 0, none⟩) hW0).trans hk, (hX.cell (p := ⟨w.heap.size + 1, 0, none⟩) hW1).trans hk0, (hX.cell (p := ⟨w.heap.size + 1, 1, none⟩) hW1).trans hk1, (hX.cell (p := ⟨w.heap.size + 1, 2, none⟩) hW1).trans hk2, (hX.cell (p := ⟨w.heap.size + 1, 3, none⟩) hW1).trans hk3⟩
      have HFk : Hid (∀ X, Below w7.heap.size w7 X → FilesAt X (some ⟨gX, 0, none⟩) fs) := fun X hX => filesAt_keep (rowF_files rX_w7.out) hX
      go_region_held3 (fun w' => w'.cell? ⟨w6.heap.size, 0, none⟩ = some (.slice (some ⟨gX, 0, none⟩) fs.length fs.length) ∧ w'.cell? ⟨w.heap.size + 1, 0, none⟩ = some (.int .i64 A.kind) ∧ w'.cell? ⟨w.heap.size + 1, 1, none⟩ = some (.string A.name) ∧ w'.cell? ⟨w.heap.size + 1, 2, none⟩ = some (.string A.text) ∧ w'.cell? ⟨w.heap.size + 1, 3, none⟩ = some (.string A.to)) (first | (exact KS.out _ ((Below.refl _ _).drew)) | (exact KS.out _ (((Below.refl _ w7).alloc (Nat.le_refl _) _).drew)) | (exact KS.out _ e3) | (exact KS.out _ (e3.alloc e3.size _)) | (exact KS.out _ e4) | (exact KS.out _ (e4.alloc e4.size _)) | (exact KS.out _ e5) | (exact KS.out _ (e5.alloc e5.size _)) | (exact KS.out _ (e5.setCell (p := ⟨_, 0, none⟩) wb _)) | fail) ((first | (go_at_call 15; refine (toAct_any A _).mono ?_; rintro e w4 ⟨rfl, b4⟩; have e4 : Below w7.heap.size w7 w4 := ((Below.refl _ _).drew).trans b4) | (go_at_call 15; refine (toAct_any A _).mono ?_; rintro e w4 ⟨rfl, b4⟩; have e4 : Below w7.heap.size w7 w4 := (((Below.refl _ w7).alloc (Nat.le_refl _) _).drew).trans (b4.mono (by simp)); have q4 : Hid (w4.heap[w7.heap.size]? = some (.cells #[.slice none 0 0] 29 (0, 0))) := (b4.block _ (by simp)).trans (heap_alloc_new w7 _); have wb := Nat.le_refl w7.heap.size) | (go_at_call 16; refine (act_any fs _ _ A _ hl (HFk.out _ e4) HZ.out hA1 hA2 hA3).mono ?_; rintro e w5 ⟨v5, rfl, hrow5, b5⟩; rw [HRR.out] at hrow5; rw [HOK.out]; obtain ⟨a5, c5, rfl, _⟩ := rowF_at hrow5; have f5 : Below w4.heap.size w4 w5 := b5; have e5 := e4.trans (f5.mono e4.size); have q5 := hide (blk_below q4.out f5); have zb := (Array.getElem?_eq_some_iff.1 q4.out).1; have hq4 := box_of q5.out; have hq5 := frozen_of_row w5 _ 0 _ _ q5.out) | (go_at_call 16; refine (act_any fs _ _ A _ hl (HFk.out _ e4) HZ.out hA1 hA2 hA3).mono ?_; rintro e w5 ⟨v5, rfl, hrow5, b5⟩; rw [HRR.out] at hrow5; rw [HOK.out]; obtain ⟨a5, c5, rfl, _⟩ := rowF_at hrow5; have f5 : Below w4.heap.size w4 w5 := b5; have e5 := e4.trans (f5.mono e4.size)) | (go_at_call 16; refine (act_any fs _ _ A _ hl (HFk.out _ (e4.alloc e4.size _)) HZ.out hA1 hA2 hA3).mono ?_; rintro e w5 ⟨v5, rfl, hrow5, b5⟩; rw [HRR.out] at hrow5; rw [HOK.out]; obtain ⟨a5, c5, rfl, _⟩ := rowF_at hrow5; have f5 : Below w4.heap.size w4 w5 := ((Below.refl _ w4).alloc (Nat.le_refl _) _).trans (b5.mono (by simp)); have e5 := e4.trans (f5.mono e4.size); have q5 : Hid (w5.heap[w4.heap.size]? = some (.cells #[.slice none 0 0] 29 (0, 0))) := (b5.block _ (by simp)).trans (heap_alloc_new w4 _); have wb := e4.size; have zb : w4.heap.size < (w4.alloc (.cells #[.slice none 0 0] 29)).heap.size := (by simp); have hq4 := box_of q5.out; have hq5 := frozen_of_row w5 _ 0 _ _ q5.out) | fail))
      all_goals (refine hK9 _ _ (Met.intro (hJ9 _ _ ?_)); (repeat apply Exists.intro); refine ⟨?_, rfl⟩)
      all_goals first | (exact ⟨_, _, _, rfl, rfl, got_old hrow5 zb wb e5 q5.out⟩) | (exact ⟨_, _, _, rfl, rfl, got_new hrow5 e4.size e5⟩)
    case rest =>
      obtain ⟨βG, aG, cG, rfl, rfl, hgot⟩ := hcut
      obtain ⟨wG, hwc⟩ : ∃ x, x = wc := ⟨_, rfl⟩
      subst hwc
      obtain ⟨hb0, hrow, hU, b_wG, hβ1, hβ2⟩ := hgot
      have bG_wG := hide hb0
      have rG_wG := hide hrow
      have UrG := hide hU
      clear hb0 hrow hU
      have hs_wG : w7.heap.size ≤ wG.heap.size := (b_wG).size
      have HB_wG : Hid (Below w.heap.size w wG) := HB_w7.out.trans ((b_wG).mono HB_w7.out.size)
      have bA_wG : Hid (wG.heap[w.heap.size]? = some (.cells #[.slice ao fs.length cap] 24 (0, 0))) := blk_below bA_w7.out (b_wG)
      have bB_wG : Hid (wG.heap[w.heap.size + 1]? = some (.cells #[.int .i64 A.kind, .string A.name, .string A.text, .string A.to] 37 (0, 0))) := blk_below bB_w7.out (b_wG)
      have bW_wG : Hid (wG.heap[βW]? = some (.cells #[.slice aW R.length cW] 29 (0, 0))) := blk_below bW_w7.out (b_wG)
      have rW_wG : Hid (RowF wG w2.heap.size (.slice aW R.length cW) R) := rowF_below rW_w7.out (b_wG)
      have rX_wG : Hid (RowF wG wW.heap.size (.slice (some ⟨gX, 0, none⟩) fs.length fs.length) fs) := rowF_below rX_w7.out (b_wG)
      have bX_wG : Hid (wG.heap[w6.heap.size]? = some (.cells #[.slice (some ⟨gX, 0, none⟩) fs.length fs.length] 29 (0, 0))) := blk_below bX_w7.out (b_wG)
      clear HB_w7 bA_w7 bB_w7 bW_w7 rW_w7 rX_w7 bX_w7
      clear b_wG
      have hl_bG := box_of bG_wG.out
      have hl_bW := box_of bW_wG.out
      go_wp2_with fail
      clear hl_bG hl_bW
      refine (eqDisk_same R _ _ _ _ _ (small_max hRl) (rowF_files rG_wG.out) (rowF_files rW_wG.out)).mono ?_
      rintro e w11 ⟨rfl, b_w11⟩
      have hs_w11 : wG.heap.size ≤ w11.heap.size := (b_w11).size
      have HB_w11 : Hid (Below w.heap.size w w11) := HB_wG.out.trans ((b_w11).mono HB_wG.out.size)
      have bA_w11 : Hid (w11.heap[w.heap.size]? = some (.cells #[.slice ao fs.length cap] 24 (0, 0))) := blk_below bA_wG.out (b_w11)
      have bB_w11 : Hid (w11.heap[w.heap.size + 1]? = some (.cells #[.int .i64 A.kind, .string A.name, .string A.text, .string A.to] 37 (0, 0))) := blk_below bB_wG.out (b_w11)
      have bW_w11 : Hid (w11.heap[βW]? = some (.cells #[.slice aW R.length cW] 29 (0, 0))) := blk_below bW_wG.out (b_w11)
      have rW_w11 : Hid (RowF w11 w2.heap.size (.slice aW R.length cW) R) := rowF_below rW_wG.out (b_w11)
      have rX_w11 : Hid (RowF w11 wW.heap.size (.slice (some ⟨gX, 0, none⟩) fs.length fs.length) fs) := rowF_below rX_wG.out (b_w11)
      have bX_w11 : Hid (w11.heap[w6.heap.size]? = some (.cells #[.slice (some ⟨gX, 0, none⟩) fs.length fs.length] 29 (0, 0))) := blk_below bX_wG.out (b_w11)
      have bG_w11 : Hid (w11.heap[βG]? = some (.cells #[.slice aG R.length cG] 29 (0, 0))) := blk_below bG_wG.out (b_w11)
      have rG_w11 : Hid (RowF w11 w7.heap.size (.slice aG R.length cG) R) := rowF_below rG_wG.out (b_w11)
      clear HB_wG bA_wG bB_wG bW_wG rW_wG rX_wG bX_wG bG_wG rG_wG
      clear b_w11
      have hl_bX := box_of bX_w11.out
      have hl_bA := box_of bA_w11.out
      have hz1 : w.heap.size < w11.heap.size := by omega
      have hz2 : w6.heap.size < w11.heap.size := by omega
      have HF5 : Hid (FilesAt w11.drew ao fs) := filesAt_keep HF.out (HB_w11.out.drew)
      have HG5 : Hid (FilesAt w11.drew (some ⟨gX, 0, none⟩) fs) := rowF_files rX_w11.out
      go_wp2_with fail
      go_region_held3 (fun w' => w'.cell? ⟨w.heap.size, 0, none⟩ = some (.slice ao fs.length cap) ∧ w'.cell? ⟨w6.heap.size, 0, none⟩ = some (.slice (some ⟨gX, 0, none⟩) fs.length fs.length)) (first | go_keep | (exact ⟨(b6.cell (p := ⟨w.heap.size, 0, none⟩) hz1).trans hl_bA, (b6.cell (p := ⟨w6.heap.size, 0, none⟩) hz2).trans hl_bX⟩) | (exact ⟨((b6.trans (b7.mono b6.size)).cell (p := ⟨w.heap.size, 0, none⟩) hz1).trans hl_bA, ((b6.trans (b7.mono b6.size)).cell (p := ⟨w6.heap.size, 0, none⟩) hz2).trans hl_bX⟩)) ((first | (go_at_call 8; refine (toDisk_any fs ao cap _ hl HF5.out).mono ?_; rintro e w12 ⟨⟨g6, C6, rfl, hg6, hC6, hCs6, hI6⟩, b6⟩) | (go_at_call 10; refine (eqDisk_same fs _ _ _ _ _ hl0 (filesAt_keep HG5.out b6) (filesAt_own hC6 hI6)).mono ?_; rintro e w13 ⟨rfl, b7⟩)))
      have b_w13 : Below w11.heap.size w11 w13 := (Below.refl _ _).drew.trans (b6.trans (b7.mono b6.size))
      clear b6 b7 hC6 hCs6 hI6 hg6 HF5 HG5 hl_bA hl_bX hz1 hz2
      have hs_w13 : w11.heap.size ≤ w13.heap.size := (b_w13).size
      have HB_w13 : Hid (Below w.heap.size w w13) := HB_w11.out.trans ((b_w13).mono HB_w11.out.size)
      have bA_w13 : Hid (w13.heap[w.heap.size]? = some (.cells #[.slice ao fs.length cap] 24 (0, 0))) := blk_below bA_w11.out (b_w13)
      have bB_w13 : Hid (w13.heap[w.heap.size + 1]? = some (.cells #[.int .i64 A.kind, .string A.name, .string A.text, .string A.to] 37 (0, 0))) := blk_below bB_w11.out (b_w13)
      have bW_w13 : Hid (w13.heap[βW]? = some (.cells #[.slice aW R.length cW] 29 (0, 0))) := blk_below bW_w11.out (b_w13)
      have rW_w13 : Hid (RowF w13 w2.heap.size (.slice aW R.length cW) R) := rowF_below rW_w11.out (b_w13)
      have rX_w13 : Hid (RowF w13 wW.heap.size (.slice (some ⟨gX, 0, none⟩) fs.length fs.length) fs) := rowF_below rX_w11.out (b_w13)
      have bX_w13 : Hid (w13.heap[w6.heap.size]? = some (.cells #[.slice (some ⟨gX, 0, none⟩) fs.length fs.length] 29 (0, 0))) := blk_below bX_w11.out (b_w13)
      have bG_w13 : Hid (w13.heap[βG]? = some (.cells #[.slice aG R.length cG] 29 (0, 0))) := blk_below bG_w11.out (b_w13)
      have rG_w13 : Hid (RowF w13 w7.heap.size (.slice aG R.length cG) R) := rowF_below rG_w11.out (b_w13)
      clear HB_w11 bA_w11 bB_w11 bW_w11 rW_w11 rX_w11 bX_w11 bG_w11 rG_w11
      clear b_w13
      have hl_bX := box_of bX_w13.out
      go_wp2_with fail
      clear hl_bX
      refine (markDisk_row _ fs wW.heap.size 1 _ hl (by decide) (by decide) rX_w13.out).mono ?_
      rintro e w16 ⟨rfl, _, hgr⟩
      have hgb : ∀ j, (Value.slice (some ⟨gX, 0, none⟩) fs.length fs.length).ownBlock = some j → wW.heap.size ≤ j ∧ j < w6.heap.size ∧ j = gX := UrX.out
      have hs_w16 : w13.heap.size ≤ w16.heap.size := (hgr).size
      have HB_w16 : Hid (Below w.heap.size w w16) := HB_w13.out.grown (hgr) HB_w13.out.size (fun j hj => by have := hgb j hj; omega)
      have bA_w16 : Hid (w16.heap[w.heap.size]? = some (.cells #[.slice ao fs.length cap] 24 (0, 0))) := blk_grown bA_w13.out (hgr) (fun hj => by have := hgb _ hj.symm; omega)
      have bB_w16 : Hid (w16.heap[w.heap.size + 1]? = some (.cells #[.int .i64 A.kind, .string A.name, .string A.text, .string A.to] 37 (0, 0))) := blk_grown bB_w13.out (hgr) (fun hj => by have := hgb _ hj.symm; omega)
      have bW_w16 : Hid (w16.heap[βW]? = some (.cells #[.slice aW R.length cW] 29 (0, 0))) := blk_grown bW_w13.out (hgr) (fun hj => by have := hgb _ hj.symm; omega)
      have rW_w16 : Hid (RowF w16 w2.heap.size (.slice aW R.length cW) R) := rowF_grown rW_w13.out (hgr) (fun g hg0 e => by have h1 := hgb g e.symm; have h2 := UrW.out g hg0; omega)
      have bX_w16 : Hid (w16.heap[w6.heap.size]? = some (.cells #[.slice (some ⟨gX, 0, none⟩) fs.length fs.length] 29 (0, 0))) := blk_grown bX_w13.out (hgr) (fun hj => by have := hgb _ hj.symm; omega)
      have bG_w16 : Hid (w16.heap[βG]? = some (.cells #[.slice aG R.length cG] 29 (0, 0))) := blk_grown bG_w13.out (hgr) (fun hj => by have := hgb _ hj.symm; omega)
      have rG_w16 : Hid (RowF w16 w7.heap.size (.slice aG R.length cG) R) := rowF_grown rG_w13.out (hgr) (fun g hg0 e => by have h1 := hgb g e.symm; have h2 := UrG.out g hg0; omega)
      clear HB_w13 bA_w13 bB_w13 bW_w13 rW_w13 rX_w13 bX_w13 bG_w13 rG_w13
      clear hgr hgb UrX
      have hk0 : decide ((((1 + 3 * fs.length : Nat)) : Int) < 0) = false := by simp; omega
      have hl_bG := box_of bG_w16.out
      have hl_bW := box_of bW_w16.out
      go_wp2_with fail
      clear hl_bG hl_bW
      refine (eqDisk_same R _ _ _ _ _ (small_max hRl) (rowF_files rG_w16.out) (rowF_files rW_w16.out)).mono ?_
      rintro e w18 ⟨rfl, b_w18⟩
      have hs_w18 : w16.heap.size ≤ w18.heap.size := (b_w18).size
      have HB_w18 : Hid (Below w.heap.size w w18) := HB_w16.out.trans ((b_w18).mono HB_w16.out.size)
      have bA_w18 : Hid (w18.heap[w.heap.size]? = some (.cells #[.slice ao fs.length cap] 24 (0, 0))) := blk_below bA_w16.out (b_w18)
      have bB_w18 : Hid (w18.heap[w.heap.size + 1]? = some (.cells #[.int .i64 A.kind, .string A.name, .string A.text, .string A.to] 37 (0, 0))) := blk_below bB_w16.out (b_w18)
      have bW_w18 : Hid (w18.heap[βW]? = some (.cells #[.slice aW R.length cW] 29 (0, 0))) := blk_below bW_w16.out (b_w18)
      have rW_w18 : Hid (RowF w18 w2.heap.size (.slice aW R.length cW) R) := rowF_below rW_w16.out (b_w18)
      have bX_w18 : Hid (w18.heap[w6.heap.size]? = some (.cells #[.slice (some ⟨gX, 0, none⟩) fs.length fs.length] 29 (0, 0))) := blk_below bX_w16.out (b_w18)
      have bG_w18 : Hid (w18.heap[βG]? = some (.cells #[.slice aG R.length cG] 29 (0, 0))) := blk_below bG_w16.out (b_w18)
      have rG_w18 : Hid (RowF w18 w7.heap.size (.slice aG R.length cG) R) := rowF_below rG_w16.out (b_w18)
      clear HB_w16 bA_w16 bB_w16 bW_w16 rW_w16 bX_w16 bG_w16 rG_w16
      clear b_w18
      have hl_bG := box_of bG_w18.out
      go_wp2_with fail
      clear hl_bG
      refine (markDisk_row _ R w7.heap.size 1 _ hRl (by decide) (by decide) rG_w18.out).mono ?_
      rintro e w19 ⟨rfl, hrM, hgr⟩
      have hgb : ∀ j, (Value.slice aG R.length cG).ownBlock = some j → w7.heap.size ≤ j ∧ j < wG.heap.size ∧ j ≠ βG := UrG.out
      have rM_w19 := hide hrM
      clear hrM
      have hs_w19 : w18.heap.size ≤ w19.heap.size := (hgr).size
      have HB_w19 : Hid (Below w.heap.size w w19) := HB_w18.out.grown (hgr) HB_w18.out.size (fun j hj => by have := hgb j hj; omega)
      have bA_w19 : Hid (w19.heap[w.heap.size]? = some (.cells #[.slice ao fs.length cap] 24 (0, 0))) := blk_grown bA_w18.out (hgr) (fun hj => by have := hgb _ hj.symm; omega)
      have bB_w19 : Hid (w19.heap[w.heap.size + 1]? = some (.cells #[.int .i64 A.kind, .string A.name, .string A.text, .string A.to] 37 (0, 0))) := blk_grown bB_w18.out (hgr) (fun hj => by have := hgb _ hj.symm; omega)
      have bW_w19 : Hid (w19.heap[βW]? = some (.cells #[.slice aW R.length cW] 29 (0, 0))) := blk_grown bW_w18.out (hgr) (fun hj => by have := hgb _ hj.symm; omega)
      have rW_w19 : Hid (RowF w19 w2.heap.size (.slice aW R.length cW) R) := rowF_grown rW_w18.out (hgr) (fun g hg0 e => by have h1 := hgb g e.symm; have h2 := UrW.out g hg0; omega)
      have bX_w19 : Hid (w19.heap[w6.heap.size]? = some (.cells #[.slice (some ⟨gX, 0, none⟩) fs.length fs.length] 29 (0, 0))) := blk_grown bX_w18.out (hgr) (fun hj => by have := hgb _ hj.symm; omega)
      have bG_w19 : Hid (w19.heap[βG]? = some (.cells #[.slice aG R.length cG] 29 (0, 0))) := blk_grown bG_w18.out (hgr) (fun hj => by have := hgb _ hj.symm; omega)
      clear HB_w18 bA_w18 bB_w18 bW_w18 rW_w18 bX_w18 bG_w18 rG_w18
      clear hgr hgb
      have UrM : Hid (∀ g, (Value.slice aG R.length cG).ownBlock = some g → w7.heap.size ≤ g ∧ g < wG.heap.size ∧ g ≠ βG) := UrG.out
      obtain ⟨mm, HMM⟩ : ∃ mm : Int, Hid (((1 + 3 * R.length : Nat) : Int) = mm) := ⟨_, hide rfl⟩
      have hmm0 : decide (mm < 0) = false := by have := HMM.out; simp; omega
      have hmm1 : (mm == mm) = true := beq_self_eq_true _
      rw [HMM.out]
      have hl_bG := box_of bG_w19.out
      go_wp2_with fail
      clear hl_bG
      refine (heldDisk_row _ R.length w7.heap.size 1 _ hRl (by decide) (by decide) rM_w19.out).mono ?_
      rintro e w20 ⟨rfl, b_w20⟩
      rw [HMM.out]
      have hs_w20 : w19.heap.size ≤ w20.heap.size := (b_w20).size
      have HB_w20 : Hid (Below w.heap.size w w20) := HB_w19.out.trans ((b_w20).mono HB_w19.out.size)
      have bA_w20 : Hid (w20.heap[w.heap.size]? = some (.cells #[.slice ao fs.length cap] 24 (0, 0))) := blk_below bA_w19.out (b_w20)
      have bB_w20 : Hid (w20.heap[w.heap.size + 1]? = some (.cells #[.int .i64 A.kind, .string A.name, .string A.text, .string A.to] 37 (0, 0))) := blk_below bB_w19.out (b_w20)
      have bW_w20 : Hid (w20.heap[βW]? = some (.cells #[.slice aW R.length cW] 29 (0, 0))) := blk_below bW_w19.out (b_w20)
      have rW_w20 : Hid (RowF w20 w2.heap.size (.slice aW R.length cW) R) := rowF_below rW_w19.out (b_w20)
      have bX_w20 : Hid (w20.heap[w6.heap.size]? = some (.cells #[.slice (some ⟨gX, 0, none⟩) fs.length fs.length] 29 (0, 0))) := blk_below bX_w19.out (b_w20)
      have bG_w20 : Hid (w20.heap[βG]? = some (.cells #[.slice aG R.length cG] 29 (0, 0))) := blk_below bG_w19.out (b_w20)
      have rM_w20 : Hid (RowF w20 w7.heap.size (.slice aG R.length cG) (marksF 1 R.length)) := rowF_below rM_w19.out (b_w20)
      clear HB_w19 bA_w19 bB_w19 bW_w19 rW_w19 bX_w19 bG_w19 rM_w19
      clear b_w20
      go_upto_region 27 with fail
      go_cut [14, 15] from 16 (fun s6 s7 wx => ∃ β a9 c9, s6 = .pointer (some ⟨β, 0, none⟩) ∧ s7 = .bool okb ∧ GotF w20 wx β (.slice a9 R.length c9) R)
      case first =>
        rename_i hJ9 hK9
        have hk := box_of bA_w20.out
        obtain ⟨hk0, hk1, hk2, hk3⟩ := act_cell bB_w20.out
        have hW0 : w.heap.size < w20.heap.size := by omega
        have hW1 : w.heap.size + 1 < w20.heap.size := by omega
        have KS : Hid (∀ X, Below w20.heap.size w20 X → (X.cell? ⟨w.heap.size, 0, none⟩ = some (.slice ao fs.length cap) ∧ X.cell? ⟨w.heap.size + 1, 0, none⟩ = some (.int .i64 A.kind) ∧ X.cell? ⟨w.heap.size + 1, 1, none⟩ = some (.string A.name) ∧ X.cell? ⟨w.heap.size + 1, 2, none⟩ = some (.string A.text) ∧ X.cell? ⟨w.heap.size + 1, 3, none⟩ = some (.string A.to))) := fun X hX => ⟨(hX.cell (p := ⟨w.heap.size, 0, none⟩) hW0).trans hk, (hX.cell (p := ⟨w.heap.size + 1, 0, none⟩) hW1).trans hk0, (hX.cell (p := ⟨w.heap.size + 1, 1, none⟩) hW1).trans hk1, (hX.cell (p := ⟨w.heap.size + 1, 2, none⟩) hW1).trans hk2, (hX.cell (p := ⟨w.heap.size + 1, 3, none⟩) hW1).trans hk3⟩
        have HFk : Hid (∀ X, Below w20.heap.size w20 X → FilesAt X ao fs) := fun X hX => filesAt_keep HF.out (HB_w20.out.trans (hX.mono HB_w20.out.size))
        go_region_held3 (fun w' => w'.cell? ⟨w.heap.size, 0, none⟩ = some (.slice ao fs.length cap) ∧ w'.cell? ⟨w.heap.size + 1, 0, none⟩ = some (.int .i64 A.kind) ∧ w'.cell? ⟨w.heap.size + 1, 1, none⟩ = some (.string A.name) ∧ w'.cell? ⟨w.heap.size + 1, 2, none⟩ = some (.string A.text) ∧ w'.cell? ⟨w.heap.size + 1, 3, none⟩ = some (.string A.to)) (first | (exact KS.out _ ((Below.refl _ _).drew)) | (exact KS.out _ (((Below.refl _ w20).alloc (Nat.le_refl _) _).drew)) | (exact KS.out _ e3) | (exact KS.out _ (e3.alloc e3.size _)) | (exact KS.out _ e4) | (exact KS.out _ (e4.alloc e4.size _)) | (exact KS.out _ e5) | (exact KS.out _ (e5.alloc e5.size _)) | (exact KS.out _ (e5.setCell (p := ⟨_, 0, none⟩) wb _)) | fail) ((first | (go_at_call 8; refine (toDisk_any fs ao cap _ hl (HFk.out _ ((Below.refl _ _).drew))).mono ?_; rintro e w3 ⟨⟨g3, C3, rfl, hg3, hC3, hCs3, hI3⟩, b3⟩; have e3 : Below w20.heap.size w20 w3 := ((Below.refl _ _).drew).trans b3) | (go_at_call 8; refine (toDisk_any fs ao cap _ hl (HFk.out _ (((Below.refl _ w20).alloc (Nat.le_refl _) _).drew))).mono ?_; rintro e w3 ⟨⟨g3, C3, rfl, hg3, hC3, hCs3, hI3⟩, b3⟩; have e3 : Below w20.heap.size w20 w3 := (((Below.refl _ w20).alloc (Nat.le_refl _) _).drew).trans (b3.mono (by simp)); have q3 : Hid (w3.heap[w20.heap.size]? = some (.cells #[.slice none 0 0] 29 (0, 0))) := (b3.block _ (by simp)).trans (heap_alloc_new w20 _); have wb := Nat.le_refl w20.heap.size) | (go_at_call 15; refine (toAct_any A _).mono ?_; rintro e w4 ⟨rfl, b4⟩; have f4 : Below w3.heap.size w3 w4 := b4; have e4 := e3.trans (f4.mono e3.size); have q4 := hide (blk_below q3.out f4)) | (go_at_call 15; refine (toAct_any A _).mono ?_; rintro e w4 ⟨rfl, b4⟩; have f4 : Below w3.heap.size w3 w4 := b4; have e4 := e3.trans (f4.mono e3.size)) | (go_at_call 15; refine (toAct_any A _).mono ?_; rintro e w4 ⟨rfl, b4⟩; have f4 : Below w3.heap.size w3 w4 := ((Below.refl _ w3).alloc (Nat.le_refl _) _).trans (b4.mono (by simp)); have e4 := e3.trans (f4.mono e3.size); have q4 : Hid (w4.heap[w3.heap.size]? = some (.cells #[.slice none 0 0] 29 (0, 0))) := (b4.block _ (by simp)).trans (heap_alloc_new w3 _); have wb := e3.size) | (go_at_call 16; refine (act_any fs _ _ A _ hl (filesAt_own (blk_below hC3 f4) hI3) HZ.out hA1 hA2 hA3).mono ?_; rintro e w5 ⟨v5, rfl, hrow5, b5⟩; rw [HRR.out] at hrow5; rw [HOK.out]; obtain ⟨a5, c5, rfl, _⟩ := rowF_at hrow5; have f5 : Below w4.heap.size w4 w5 := b5; have e5 := e4.trans (f5.mono e4.size); have q5 := hide (blk_below q4.out f5); have zb := (Array.getElem?_eq_some_iff.1 q4.out).1; have hq4 := box_of q5.out; have hq5 := frozen_of_row w5 _ 0 _ _ q5.out) | (go_at_call 16; refine (act_any fs _ _ A _ hl (filesAt_own (blk_below hC3 f4) hI3) HZ.out hA1 hA2 hA3).mono ?_; rintro e w5 ⟨v5, rfl, hrow5, b5⟩; rw [HRR.out] at hrow5; rw [HOK.out]; obtain ⟨a5, c5, rfl, _⟩ := rowF_at hrow5; have f5 : Below w4.heap.size w4 w5 := b5; have e5 := e4.trans (f5.mono e4.size)) | (go_at_call 16; refine (act_any fs _ _ A _ hl (filesAt_own (blk_below hC3 (f4.alloc f4.size _)) hI3) HZ.out hA1 hA2 hA3).mono ?_; rintro e w5 ⟨v5, rfl, hrow5, b5⟩; rw [HRR.out] at hrow5; rw [HOK.out]; obtain ⟨a5, c5, rfl, _⟩ := rowF_at hrow5; have f5 : Below w4.heap.size w4 w5 := ((Below.refl _ w4).alloc (Nat.le_refl _) _).trans (b5.mono (by simp)); have e5 := e4.trans (f5.mono e4.size); have q5 : Hid (w5.heap[w4.heap.size]? = some (.cells #[.slice none 0 0] 29 (0, 0))) := (b5.block _ (by simp)).trans (heap_alloc_new w4 _); have wb := e4.size; have zb : w4.heap.size < (w4.alloc (.cells #[.slice none 0 0] 29)).heap.size := (by simp); have hq4 := box_of q5.out; have hq5 := frozen_of_row w5 _ 0 _ _ q5.out) | fail))
        all_goals (refine hK9 _ _ (Met.intro (hJ9 _ _ ?_)); (repeat apply Exists.intro); refine ⟨?_, rfl⟩)
        all_goals first | (exact ⟨_, _, _, rfl, rfl, got_old hrow5 zb wb e5 q5.out⟩) | (exact ⟨_, _, _, rfl, rfl, got_new hrow5 e4.size e5⟩)
      case rest =>
        obtain ⟨βH, aH, cH, rfl, rfl, hgot⟩ := hcut
        obtain ⟨wH, hwc⟩ : ∃ x, x = wc := ⟨_, rfl⟩
        subst hwc
        obtain ⟨hb0, hrow, hU, b_wH, hβ1, hβ2⟩ := hgot
        have bH_wH := hide hb0
        have rH_wH := hide hrow
        have UrH := hide hU
        clear hb0 hrow hU
        have hs_wH : w20.heap.size ≤ wH.heap.size := (b_wH).size
        have HB_wH : Hid (Below w.heap.size w wH) := HB_w20.out.trans ((b_wH).mono HB_w20.out.size)
        have bA_wH : Hid (wH.heap[w.heap.size]? = some (.cells #[.slice ao fs.length cap] 24 (0, 0))) := blk_below bA_w20.out (b_wH)
        have bB_wH : Hid (wH.heap[w.heap.size + 1]? = some (.cells #[.int .i64 A.kind, .string A.name, .string A.text, .string A.to] 37 (0, 0))) := blk_below bB_w20.out (b_wH)
        have bW_wH : Hid (wH.heap[βW]? = some (.cells #[.slice aW R.length cW] 29 (0, 0))) := blk_below bW_w20.out (b_wH)
        have rW_wH : Hid (RowF wH w2.heap.size (.slice aW R.length cW) R) := rowF_below rW_w20.out (b_wH)
        have bX_wH : Hid (wH.heap[w6.heap.size]? = some (.cells #[.slice (some ⟨gX, 0, none⟩) fs.length fs.length] 29 (0, 0))) := blk_below bX_w20.out (b_wH)
        have bG_wH : Hid (wH.heap[βG]? = some (.cells #[.slice aG R.length cG] 29 (0, 0))) := blk_below bG_w20.out (b_wH)
        have rM_wH : Hid (RowF wH w7.heap.size (.slice aG R.length cG) (marksF 1 R.length)) := rowF_below rM_w20.out (b_wH)
        clear HB_w20 bA_w20 bB_w20 bW_w20 rW_w20 bX_w20 bG_w20 rM_w20
        clear b_wH
        have hl_bH := box_of bH_wH.out
        have hl_bW := box_of bW_wH.out
        go_wp2_with fail
        clear hl_bH hl_bW
        refine (eqDisk_same R _ _ _ _ _ (small_max hRl) (rowF_files rH_wH.out) (rowF_files rW_wH.out)).mono ?_
        rintro e w25 ⟨rfl, b_w25⟩
        have hs_w25 : wH.heap.size ≤ w25.heap.size := (b_w25).size
        have HB_w25 : Hid (Below w.heap.size w w25) := HB_wH.out.trans ((b_w25).mono HB_wH.out.size)
        have bA_w25 : Hid (w25.heap[w.heap.size]? = some (.cells #[.slice ao fs.length cap] 24 (0, 0))) := blk_below bA_wH.out (b_w25)
        have bB_w25 : Hid (w25.heap[w.heap.size + 1]? = some (.cells #[.int .i64 A.kind, .string A.name, .string A.text, .string A.to] 37 (0, 0))) := blk_below bB_wH.out (b_w25)
        have bW_w25 : Hid (w25.heap[βW]? = some (.cells #[.slice aW R.length cW] 29 (0, 0))) := blk_below bW_wH.out (b_w25)
        have rW_w25 : Hid (RowF w25 w2.heap.size (.slice aW R.length cW) R) := rowF_below rW_wH.out (b_w25)
        have bX_w25 : Hid (w25.heap[w6.heap.size]? = some (.cells #[.slice (some ⟨gX, 0, none⟩) fs.length fs.length] 29 (0, 0))) := blk_below bX_wH.out (b_w25)
        have bG_w25 : Hid (w25.heap[βG]? = some (.cells #[.slice aG R.length cG] 29 (0, 0))) := blk_below bG_wH.out (b_w25)
        have rM_w25 : Hid (RowF w25 w7.heap.size (.slice aG R.length cG) (marksF 1 R.length)) := rowF_below rM_wH.out (b_w25)
        have bH_w25 : Hid (w25.heap[βH]? = some (.cells #[.slice aH R.length cH] 29 (0, 0))) := blk_below bH_wH.out (b_w25)
        have rH_w25 : Hid (RowF w25 w20.heap.size (.slice aH R.length cH) R) := rowF_below rH_wH.out (b_w25)
        clear HB_wH bA_wH bB_wH bW_wH rW_wH bX_wH bG_wH rM_wH bH_wH rH_wH
        clear b_w25
        have hl_bG := box_of bG_w25.out
        go_wp2_with fail
        clear hl_bG
        refine (heldDisk_row _ R.length w7.heap.size 1 _ hRl (by decide) (by decide) rM_w25.out).mono ?_
        rintro e w26 ⟨rfl, b_w26⟩
        rw [HMM.out]
        have hs_w26 : w25.heap.size ≤ w26.heap.size := (b_w26).size
        have HB_w26 : Hid (Below w.heap.size w w26) := HB_w25.out.trans ((b_w26).mono HB_w25.out.size)
        have bA_w26 : Hid (w26.heap[w.heap.size]? = some (.cells #[.slice ao fs.length cap] 24 (0, 0))) := blk_below bA_w25.out (b_w26)
        have bB_w26 : Hid (w26.heap[w.heap.size + 1]? = some (.cells #[.int .i64 A.kind, .string A.name, .string A.text, .string A.to] 37 (0, 0))) := blk_below bB_w25.out (b_w26)
        have bW_w26 : Hid (w26.heap[βW]? = some (.cells #[.slice aW R.length cW] 29 (0, 0))) := blk_below bW_w25.out (b_w26)
        have rW_w26 : Hid (RowF w26 w2.heap.size (.slice aW R.length cW) R) := rowF_below rW_w25.out (b_w26)
        have bX_w26 : Hid (w26.heap[w6.heap.size]? = some (.cells #[.slice (some ⟨gX, 0, none⟩) fs.length fs.length] 29 (0, 0))) := blk_below bX_w25.out (b_w26)
        have bG_w26 : Hid (w26.heap[βG]? = some (.cells #[.slice aG R.length cG] 29 (0, 0))) := blk_below bG_w25.out (b_w26)
        have rM_w26 : Hid (RowF w26 w7.heap.size (.slice aG R.length cG) (marksF 1 R.length)) := rowF_below rM_w25.out (b_w26)
        have bH_w26 : Hid (w26.heap[βH]? = some (.cells #[.slice aH R.length cH] 29 (0, 0))) := blk_below bH_w25.out (b_w26)
        have rH_w26 : Hid (RowF w26 w20.heap.size (.slice aH R.length cH) R) := rowF_below rH_w25.out (b_w26)
        clear HB_w25 bA_w25 bB_w25 bW_w25 rW_w25 bX_w25 bG_w25 rM_w25 bH_w25 rH_w25
        clear b_w26
        go_wp2
        go_ret
        exact ⟨rfl, HB_w26.out⟩
end Go.Proofs.Ytnbpndnaoihinai
