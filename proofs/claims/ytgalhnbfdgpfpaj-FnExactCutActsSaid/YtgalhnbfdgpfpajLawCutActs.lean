/- The law of CutActs. -/
import Derived.Test.YtgalhnbfdgpfpajCutAll
import Derived.Test.YtgalhnbfdgpfpajMarkD
import Derived.Test.YtgalhnbfdgpfpajIntsL
import Derived.Test.YtgalhnbfdgpfpajActsL
import Derived.Test.YtgalhnbfdgpfpajLawD0
import Derived.Test.YtgalhnbfdgpfpajBlk
namespace Go.Proofs.Ytgalhnbfdgpfpaj
open Go.RowKit

set_option maxRecDepth 100000 in
set_option maxHeartbeats 12000000 in
theorem lawCutActs (fs : List FileD) (ao : Option Addr) (cap : Nat) (qs : List ActD) (aa : Option Addr) (capa : Nat) (wh : Int) (ls : List Int) (al : Option Addr) (capl : Nat) (w : World) (hl0 : fs.length ≤ maxLen) (hfs : FilesAt w ao fs) (hsz0 : ∀ F ∈ fs, F.name.size ≤ maxLen ∧ F.text.size ≤ maxLen) (hla0 : qs.length ≤ maxLen) (has : ActsAt w aa qs) (hsa0 : ∀ A ∈ qs, A.name.size ≤ maxLen ∧ A.text.size ≤ maxLen ∧ A.to.size ≤ maxLen) (_hwh : (Lit.int .i64 wh).wf = true) (_hll0 : ls.length ≤ maxLen) (hls : IntsAt w al ls) (hbl : ∀ x ∈ ls, -9223372036854775808 ≤ x ∧ x ≤ 9223372036854775807) :
    Calls Try.prog 5 #[.agg #[.slice ao fs.length cap], .slice aa qs.length capa, .int .i64 wh, .slice al ls.length capl] w fun e w' => e = .returned (.bool true) ∧ Below w.heap.size w w' := by
  have HF := hide hfs
  have HS0 := hide hsz0
  clear hfs hsz0
  have HLS := hide hls
  have HBL := hide hbl
  clear hls hbl
  have HAS := hide has
  have HSA0 := hide hsa0
  clear has hsa0
  by_cases hbig : 1048576 < ls.length
  · have hbig' : decide ((1048576 : Int) < (ls.length : Int)) = true := by simp; omega
    go_enter Try.func5, Try.ntmps5
    go_wp2
    go_ret
    exact ⟨rfl, (Below.refl _ w).alloc (Nat.le_refl _) _⟩
  have hbig' : decide ((1048576 : Int) < (ls.length : Int)) = false := by simp; omega
  have hll : ls.length ≤ 1048576 := by omega
  clear hbig
  have HB_w : Hid (Below w.heap.size w w) := Below.refl _ _
  obtain ⟨wA, hw_wA⟩ : ∃ wq, wq = w.alloc (.cells #[.slice ao fs.length cap] 24) := ⟨_, rfl⟩
  have bb_wA : Below w.heap.size w wA := by rw [hw_wA]; exact (Below.refl _ _).alloc (Nat.le_refl _) _
  have hz_wA : w.heap.size + 1 ≤ wA.heap.size := by rw [hw_wA]; simp
  have bA_wA : Hid (wA.heap[w.heap.size]? = some (.cells #[.slice ao fs.length cap] 24 (0, 0))) := by rw [hw_wA]; exact heap_alloc_new _ _
  have hs_wA : w.heap.size ≤ wA.heap.size := (bb_wA).size
  have HB_wA : Hid (Below w.heap.size w wA) := HB_w.out.trans ((bb_wA).mono HB_w.out.size)
  clear HB_w
  clear bb_wA
  go_enter Try.func5, Try.ntmps5
  go_wp2_with fail
  rw [← hw_wA]
  clear hw_wA
  refine (szDisk_any fs ao cap 1048576 _ (by decide) (by decide) hl0 (filesAt_keep HF.out HB_wA.out) HS0.out).mono ?_
  rintro e w1 ⟨⟨r, rfl, hr⟩, b_w1⟩
  have HR := hide hr
  clear hr
  have hs_w1 : wA.heap.size ≤ w1.heap.size := (b_w1).size
  have HB_w1 : Hid (Below w.heap.size w w1) := HB_wA.out.trans ((b_w1).mono HB_wA.out.size)
  have bA_w1 : Hid (w1.heap[w.heap.size]? = some (.cells #[.slice ao fs.length cap] 24 (0, 0))) := blk_below bA_wA.out (b_w1)
  clear HB_wA bA_wA
  clear b_w1
  by_cases hneg : r < 0
  · have hneg' : decide (r < 0) = true := by simp; omega
    go_wp2
    go_ret
    exact ⟨rfl, HB_w1.out⟩
  have hneg' : decide (r < 0) = false := by simp; omega
  obtain ⟨hr1, hr2⟩ := HR.out (by omega)
  have HZ : Hid (∀ F ∈ fs, F.name.size ≤ 1048576 ∧ F.text.size ≤ 1048576) := szFs_small fs (1048576 - fs.length) (by omega) (by omega) (by omega)
  have hl : fs.length ≤ 1048576 := by omega
  have hrle : r ≤ 1048576 := by rw [hr1]; have := szFs_le fs (1048576 - fs.length) (by omega); omega
  clear hr1 hr2 HR
  go_wp2_with fail
  refine (szActS_any qs aa capa r _ (by omega) hrle hla0 (actsAt_keep HAS.out HB_w1.out) HSA0.out).mono ?_
  rintro e w1b ⟨rfl, b_w1b⟩
  have hs_w1b : w1.heap.size ≤ w1b.heap.size := (b_w1b).size
  have HB_w1b : Hid (Below w.heap.size w w1b) := HB_w1.out.trans ((b_w1b).mono HB_w1.out.size)
  have bA_w1b : Hid (w1b.heap[w.heap.size]? = some (.cells #[.slice ao fs.length cap] 24 (0, 0))) := blk_below bA_w1.out (b_w1b)
  clear HB_w1 bA_w1
  clear b_w1b
  obtain ⟨r2, HR2⟩ : ∃ r2 : Int, Hid ((if r < qs.length then -1 else szAs qs (r - qs.length)) = r2) := ⟨_, hide rfl⟩
  rw [HR2.out]
  by_cases hneg2 : r2 < 0
  · have hneg2' : decide (r2 < 0) = true := by simp; omega
    go_wp2
    go_ret
    exact ⟨rfl, HB_w1b.out⟩
  have hneg2' : decide (r2 < 0) = false := by simp; omega
  have hla : qs.length ≤ 1048576 := by have := HR2.out; split at this <;> omega
  have HZA : Hid (∀ A ∈ qs, A.name.size ≤ 1048576 ∧ A.text.size ≤ 1048576 ∧ A.to.size ≤ 1048576) := by
    have h := HR2.out
    split at h
    · omega
    · exact szAs_small qs (r - qs.length) (by omega) (by omega) (by omega)
  clear HR2
  obtain ⟨R, HRR⟩ : ∃ R, Hid ((cutD fs qs wh ls).getD [] = R) := ⟨_, hide rfl⟩
  obtain ⟨okb, HOK⟩ : ∃ okb, Hid ((cutD fs qs wh ls).isSome = okb) := ⟨_, hide rfl⟩
  have hRl : R.length ≤ 1048576 := by rw [← HRR.out]; exact cutD_len fs qs wh ls hl
  have hokb : (okb == okb) = true := beq_self_eq_true _
  have hl_bA := box_of bA_w1b.out
  go_wp2_with fail
  clear hl_bA
  refine (toDisk_any fs ao cap _ hl (filesAt_keep HF.out HB_w1b.out)).mono ?_
  rintro e w2 ⟨⟨gS, CS, rfl, hgS, hCS, hCsS, hIS⟩, b_w2⟩
  have hglS : gS < w2.heap.size := (Array.getElem?_eq_some_iff.1 hCS).1
  have rS_w2 : Hid (RowF w2 w1b.heap.size (.slice (some ⟨gS, 0, none⟩) fs.length fs.length) fs) := .inr ⟨gS, fs.length, CS, rfl, hgS, hCS, by omega, hIS⟩
  clear hCS hCsS hIS
  have hs_w2 : w1b.heap.size ≤ w2.heap.size := (b_w2).size
  have HB_w2 : Hid (Below w.heap.size w w2) := HB_w1b.out.trans ((b_w2).mono HB_w1b.out.size)
  have bA_w2 : Hid (w2.heap[w.heap.size]? = some (.cells #[.slice ao fs.length cap] 24 (0, 0))) := blk_below bA_w1b.out (b_w2)
  clear HB_w1b bA_w1b
  clear b_w2
  have UrS : Hid (∀ g, (Value.slice (some ⟨gS, 0, none⟩) fs.length fs.length).ownBlock = some g → g = gS) := fun g h => by simpa [Value.ownBlock] using h.symm
  go_wp2_with fail
  refine (toActS_any qs aa capa _ hla (actsAt_keep HAS.out HB_w2.out)).mono ?_
  rintro e w2a ⟨⟨CU, rfl, hCU, hCsU, hIU⟩, b_w2a⟩
  have qU_w2a : Hid (w2a.heap[w2.heap.size]? = some (.cells CU 57 (0, 0))) := hCU
  have IU := hide hIU
  have hglU : w2.heap.size < w2a.heap.size := (Array.getElem?_eq_some_iff.1 hCU).1
  clear hCU hIU
  have hs_w2a : w2.heap.size ≤ w2a.heap.size := (b_w2a).size
  have HB_w2a : Hid (Below w.heap.size w w2a) := HB_w2.out.trans ((b_w2a).mono HB_w2.out.size)
  have bA_w2a : Hid (w2a.heap[w.heap.size]? = some (.cells #[.slice ao fs.length cap] 24 (0, 0))) := blk_below bA_w2.out (b_w2a)
  have rS_w2a : Hid (RowF w2a w1b.heap.size (.slice (some ⟨gS, 0, none⟩) fs.length fs.length) fs) := rowF_below rS_w2.out (b_w2a)
  clear HB_w2 bA_w2 rS_w2
  clear b_w2a
  go_wp2_with fail
  refine (toIntS_any ls al capl _ hll (intsAt_keep HLS.out HB_w2a.out)).mono ?_
  rintro e w3 ⟨⟨CT, rfl, hCT, hCsT, hIT⟩, b_w3⟩
  have qT_w3 : Hid (w3.heap[w2a.heap.size]? = some (.cells CT 3 (0, 0))) := hCT
  have IT := hide hIT
  have hglT : w2a.heap.size < w3.heap.size := (Array.getElem?_eq_some_iff.1 hCT).1
  clear hCT hIT
  have hs_w3 : w2a.heap.size ≤ w3.heap.size := (b_w3).size
  have HB_w3 : Hid (Below w.heap.size w w3) := HB_w2a.out.trans ((b_w3).mono HB_w2a.out.size)
  have bA_w3 : Hid (w3.heap[w.heap.size]? = some (.cells #[.slice ao fs.length cap] 24 (0, 0))) := blk_below bA_w2a.out (b_w3)
  have rS_w3 : Hid (RowF w3 w1b.heap.size (.slice (some ⟨gS, 0, none⟩) fs.length fs.length) fs) := rowF_below rS_w2a.out (b_w3)
  have qU_w3 : Hid (w3.heap[w2.heap.size]? = some (.cells CU 57 (0, 0))) := blk_below qU_w2a.out (b_w3)
  clear HB_w2a bA_w2a rS_w2a qU_w2a
  clear b_w3
  go_wp2_with fail
  refine (specCut_any fs _ _ _ qs _ _ _ wh ls _ _ _ hl (rowF_files rS_w3.out) HZ.out hla (actsAt_own qU_w3.out IU.out) HZA.out (intsAt_own qT_w3.out IT.out HBL.out) (Nat.le_refl _)).mono ?_
  rintro e w4 ⟨v4, rfl, hrow4, b_w4⟩
  rw [HRR.out] at hrow4
  rw [HOK.out]
  obtain ⟨aW, cW, rfl, _⟩ := rowF_at hrow4
  clear rS_w3
  clear UrS hglS
  clear qT_w3
  clear IT hCsT hglT
  clear qU_w3
  clear IU hCsU hglU
  have UrW := hide (rowF_lt hrow4)
  have rW_w4 := hide hrow4
  clear hrow4
  have hs_w4 : w3.heap.size ≤ w4.heap.size := (b_w4).size
  have HB_w4 : Hid (Below w.heap.size w w4) := HB_w3.out.trans ((b_w4).mono HB_w3.out.size)
  have bA_w4 : Hid (w4.heap[w.heap.size]? = some (.cells #[.slice ao fs.length cap] 24 (0, 0))) := blk_below bA_w3.out (b_w4)
  clear HB_w3 bA_w3
  clear b_w4
  obtain ⟨w5, hw_w5⟩ : ∃ wq, wq = w4.alloc (.cells #[.slice aW R.length cW] 30) := ⟨_, rfl⟩
  have bb_w5 : Below w4.heap.size w4 w5 := by rw [hw_w5]; exact (Below.refl _ _).alloc (Nat.le_refl _) _
  have hz_w5 : w4.heap.size + 1 ≤ w5.heap.size := by rw [hw_w5]; simp
  have bW_w5 : Hid (w5.heap[w4.heap.size]? = some (.cells #[.slice aW R.length cW] 30 (0, 0))) := by rw [hw_w5]; exact heap_alloc_new _ _
  have hs_w5 : w4.heap.size ≤ w5.heap.size := (bb_w5).size
  have HB_w5 : Hid (Below w.heap.size w w5) := HB_w4.out.trans ((bb_w5).mono HB_w4.out.size)
  have bA_w5 : Hid (w5.heap[w.heap.size]? = some (.cells #[.slice ao fs.length cap] 24 (0, 0))) := blk_below bA_w4.out (bb_w5)
  have rW_w5 : Hid (RowF w5 w3.heap.size (.slice aW R.length cW) R) := rowF_below rW_w4.out (bb_w5)
  clear HB_w4 bA_w4 rW_w4
  clear bb_w5
  have hl_bA := box_of bA_w5.out
  rw [hw_w5] at hl_bA
  go_wp2_with fail
  rw [← hw_w5]
  clear hl_bA hw_w5
  refine (toDisk_any fs ao cap _ hl (filesAt_keep HF.out HB_w5.out)).mono ?_
  rintro e w6 ⟨⟨gX, CX, rfl, hgX, hCX, hCsX, hIX⟩, b_w6⟩
  have hglX : gX < w6.heap.size := (Array.getElem?_eq_some_iff.1 hCX).1
  have rX_w6 : Hid (RowF w6 w5.heap.size (.slice (some ⟨gX, 0, none⟩) fs.length fs.length) fs) := .inr ⟨gX, fs.length, CX, rfl, hgX, hCX, by omega, hIX⟩
  clear hCX hCsX hIX
  have hs_w6 : w5.heap.size ≤ w6.heap.size := (b_w6).size
  have HB_w6 : Hid (Below w.heap.size w w6) := HB_w5.out.trans ((b_w6).mono HB_w5.out.size)
  have bA_w6 : Hid (w6.heap[w.heap.size]? = some (.cells #[.slice ao fs.length cap] 24 (0, 0))) := blk_below bA_w5.out (b_w6)
  have rW_w6 : Hid (RowF w6 w3.heap.size (.slice aW R.length cW) R) := rowF_below rW_w5.out (b_w6)
  have bW_w6 : Hid (w6.heap[w4.heap.size]? = some (.cells #[.slice aW R.length cW] 30 (0, 0))) := blk_below bW_w5.out (b_w6)
  clear HB_w5 bA_w5 rW_w5 bW_w5
  clear b_w6
  have UrX : Hid (∀ g, (Value.slice (some ⟨gX, 0, none⟩) fs.length fs.length).ownBlock = some g → w5.heap.size ≤ g ∧ g < w6.heap.size ∧ g = gX) := own_slice hgX hglX
  obtain ⟨w7, hw_w7⟩ : ∃ wq, wq = w6.alloc (.cells #[.slice (some ⟨gX, 0, none⟩) fs.length fs.length] 30) := ⟨_, rfl⟩
  have bb_w7 : Below w6.heap.size w6 w7 := by rw [hw_w7]; exact (Below.refl _ _).alloc (Nat.le_refl _) _
  have hz_w7 : w6.heap.size + 1 ≤ w7.heap.size := by rw [hw_w7]; simp
  have bX_w7 : Hid (w7.heap[w6.heap.size]? = some (.cells #[.slice (some ⟨gX, 0, none⟩) fs.length fs.length] 30 (0, 0))) := by rw [hw_w7]; exact heap_alloc_new _ _
  have hs_w7 : w6.heap.size ≤ w7.heap.size := (bb_w7).size
  have HB_w7 : Hid (Below w.heap.size w w7) := HB_w6.out.trans ((bb_w7).mono HB_w6.out.size)
  have bA_w7 : Hid (w7.heap[w.heap.size]? = some (.cells #[.slice ao fs.length cap] 24 (0, 0))) := blk_below bA_w6.out (bb_w7)
  have rW_w7 : Hid (RowF w7 w3.heap.size (.slice aW R.length cW) R) := rowF_below rW_w6.out (bb_w7)
  have bW_w7 : Hid (w7.heap[w4.heap.size]? = some (.cells #[.slice aW R.length cW] 30 (0, 0))) := blk_below bW_w6.out (bb_w7)
  have rX_w7 : Hid (RowF w7 w5.heap.size (.slice (some ⟨gX, 0, none⟩) fs.length fs.length) fs) := rowF_below rX_w6.out (bb_w7)
  clear HB_w6 bA_w6 rW_w6 bW_w6 rX_w6
  clear bb_w7
  go_wp2_with fail
  rw [← hw_w7]
  clear hw_w7
  refine (toActS_any qs aa capa _ hla (actsAt_keep HAS.out HB_w7.out)).mono ?_
  rintro e w7a ⟨⟨CN, rfl, hCN, hCsN, hIN⟩, b_w7a⟩
  have qN_w7a : Hid (w7a.heap[w7.heap.size]? = some (.cells CN 57 (0, 0))) := hCN
  have IN := hide hIN
  have hglN : w7.heap.size < w7a.heap.size := (Array.getElem?_eq_some_iff.1 hCN).1
  clear hCN hIN
  have hs_w7a : w7.heap.size ≤ w7a.heap.size := (b_w7a).size
  have HB_w7a : Hid (Below w.heap.size w w7a) := HB_w7.out.trans ((b_w7a).mono HB_w7.out.size)
  have bA_w7a : Hid (w7a.heap[w.heap.size]? = some (.cells #[.slice ao fs.length cap] 24 (0, 0))) := blk_below bA_w7.out (b_w7a)
  have rW_w7a : Hid (RowF w7a w3.heap.size (.slice aW R.length cW) R) := rowF_below rW_w7.out (b_w7a)
  have bW_w7a : Hid (w7a.heap[w4.heap.size]? = some (.cells #[.slice aW R.length cW] 30 (0, 0))) := blk_below bW_w7.out (b_w7a)
  have rX_w7a : Hid (RowF w7a w5.heap.size (.slice (some ⟨gX, 0, none⟩) fs.length fs.length) fs) := rowF_below rX_w7.out (b_w7a)
  have bX_w7a : Hid (w7a.heap[w6.heap.size]? = some (.cells #[.slice (some ⟨gX, 0, none⟩) fs.length fs.length] 30 (0, 0))) := blk_below bX_w7.out (b_w7a)
  clear HB_w7 bA_w7 rW_w7 bW_w7 rX_w7 bX_w7
  clear b_w7a
  go_wp2_with fail
  refine (toIntS_any ls al capl _ hll (intsAt_keep HLS.out HB_w7a.out)).mono ?_
  rintro e w8 ⟨⟨CL, rfl, hCL, hCsL, hIL⟩, b_w8⟩
  have qL_w8 : Hid (w8.heap[w7a.heap.size]? = some (.cells CL 3 (0, 0))) := hCL
  have IL := hide hIL
  have hglL : w7a.heap.size < w8.heap.size := (Array.getElem?_eq_some_iff.1 hCL).1
  clear hCL hIL
  have hs_w8 : w7a.heap.size ≤ w8.heap.size := (b_w8).size
  have HB_w8 : Hid (Below w.heap.size w w8) := HB_w7a.out.trans ((b_w8).mono HB_w7a.out.size)
  have bA_w8 : Hid (w8.heap[w.heap.size]? = some (.cells #[.slice ao fs.length cap] 24 (0, 0))) := blk_below bA_w7a.out (b_w8)
  have rW_w8 : Hid (RowF w8 w3.heap.size (.slice aW R.length cW) R) := rowF_below rW_w7a.out (b_w8)
  have bW_w8 : Hid (w8.heap[w4.heap.size]? = some (.cells #[.slice aW R.length cW] 30 (0, 0))) := blk_below bW_w7a.out (b_w8)
  have rX_w8 : Hid (RowF w8 w5.heap.size (.slice (some ⟨gX, 0, none⟩) fs.length fs.length) fs) := rowF_below rX_w7a.out (b_w8)
  have bX_w8 : Hid (w8.heap[w6.heap.size]? = some (.cells #[.slice (some ⟨gX, 0, none⟩) fs.length fs.length] 30 (0, 0))) := blk_below bX_w7a.out (b_w8)
  have qN_w8 : Hid (w8.heap[w7.heap.size]? = some (.cells CN 57 (0, 0))) := blk_below qN_w7a.out (b_w8)
  clear HB_w7a bA_w7a rW_w7a bW_w7a rX_w7a bX_w7a qN_w7a
  clear b_w8
  have hl_bX := box_of bX_w8.out
  go_wp2_with fail
  clear hl_bX
  refine (cut_any fs _ _ qs _ _ _ wh ls _ _ _ hl (rowF_files rX_w8.out) HZ.out hla (actsAt_own qN_w8.out IN.out) HZA.out (intsAt_own qL_w8.out IL.out HBL.out) (Nat.le_refl _)).mono ?_
  rintro e w9 ⟨v9, rfl, hrow9, b_w9⟩
  rw [HRR.out] at hrow9
  rw [HOK.out]
  obtain ⟨aG, cG, rfl, _⟩ := rowF_at hrow9
  have UrG := hide (rowF_lt hrow9)
  have rG_w9 := hide hrow9
  clear hrow9
  have hs_w9 : w8.heap.size ≤ w9.heap.size := (b_w9).size
  have HB_w9 : Hid (Below w.heap.size w w9) := HB_w8.out.trans ((b_w9).mono HB_w8.out.size)
  have bA_w9 : Hid (w9.heap[w.heap.size]? = some (.cells #[.slice ao fs.length cap] 24 (0, 0))) := blk_below bA_w8.out (b_w9)
  have rW_w9 : Hid (RowF w9 w3.heap.size (.slice aW R.length cW) R) := rowF_below rW_w8.out (b_w9)
  have bW_w9 : Hid (w9.heap[w4.heap.size]? = some (.cells #[.slice aW R.length cW] 30 (0, 0))) := blk_below bW_w8.out (b_w9)
  have rX_w9 : Hid (RowF w9 w5.heap.size (.slice (some ⟨gX, 0, none⟩) fs.length fs.length) fs) := rowF_below rX_w8.out (b_w9)
  have bX_w9 : Hid (w9.heap[w6.heap.size]? = some (.cells #[.slice (some ⟨gX, 0, none⟩) fs.length fs.length] 30 (0, 0))) := blk_below bX_w8.out (b_w9)
  have qN_w9 : Hid (w9.heap[w7.heap.size]? = some (.cells CN 57 (0, 0))) := blk_below qN_w8.out (b_w9)
  have qL_w9 : Hid (w9.heap[w7a.heap.size]? = some (.cells CL 3 (0, 0))) := blk_below qL_w8.out (b_w9)
  clear HB_w8 bA_w8 rW_w8 bW_w8 rX_w8 bX_w8 qN_w8 qL_w8
  clear b_w9
  obtain ⟨w10, hw_w10⟩ : ∃ wq, wq = w9.alloc (.cells #[.slice aG R.length cG] 30) := ⟨_, rfl⟩
  have bb_w10 : Below w9.heap.size w9 w10 := by rw [hw_w10]; exact (Below.refl _ _).alloc (Nat.le_refl _) _
  have hz_w10 : w9.heap.size + 1 ≤ w10.heap.size := by rw [hw_w10]; simp
  have bG_w10 : Hid (w10.heap[w9.heap.size]? = some (.cells #[.slice aG R.length cG] 30 (0, 0))) := by rw [hw_w10]; exact heap_alloc_new _ _
  have hs_w10 : w9.heap.size ≤ w10.heap.size := (bb_w10).size
  have HB_w10 : Hid (Below w.heap.size w w10) := HB_w9.out.trans ((bb_w10).mono HB_w9.out.size)
  have bA_w10 : Hid (w10.heap[w.heap.size]? = some (.cells #[.slice ao fs.length cap] 24 (0, 0))) := blk_below bA_w9.out (bb_w10)
  have rW_w10 : Hid (RowF w10 w3.heap.size (.slice aW R.length cW) R) := rowF_below rW_w9.out (bb_w10)
  have bW_w10 : Hid (w10.heap[w4.heap.size]? = some (.cells #[.slice aW R.length cW] 30 (0, 0))) := blk_below bW_w9.out (bb_w10)
  have rX_w10 : Hid (RowF w10 w5.heap.size (.slice (some ⟨gX, 0, none⟩) fs.length fs.length) fs) := rowF_below rX_w9.out (bb_w10)
  have bX_w10 : Hid (w10.heap[w6.heap.size]? = some (.cells #[.slice (some ⟨gX, 0, none⟩) fs.length fs.length] 30 (0, 0))) := blk_below bX_w9.out (bb_w10)
  have qN_w10 : Hid (w10.heap[w7.heap.size]? = some (.cells CN 57 (0, 0))) := blk_below qN_w9.out (bb_w10)
  have qL_w10 : Hid (w10.heap[w7a.heap.size]? = some (.cells CL 3 (0, 0))) := blk_below qL_w9.out (bb_w10)
  have rG_w10 : Hid (RowF w10 w8.heap.size (.slice aG R.length cG) R) := rowF_below rG_w9.out (bb_w10)
  clear HB_w9 bA_w9 rW_w9 bW_w9 rX_w9 bX_w9 qN_w9 qL_w9 rG_w9
  clear bb_w10
  have hl_bW := box_of bW_w10.out
  rw [hw_w10] at hl_bW
  go_wp2_with fail
  rw [← hw_w10]
  clear hl_bW hw_w10
  refine (eqDisk_same R _ _ _ _ _ (small_max hRl) (rowF_files rG_w10.out) (rowF_files rW_w10.out)).mono ?_
  rintro e w11 ⟨rfl, b_w11⟩
  have hs_w11 : w10.heap.size ≤ w11.heap.size := (b_w11).size
  have HB_w11 : Hid (Below w.heap.size w w11) := HB_w10.out.trans ((b_w11).mono HB_w10.out.size)
  have bA_w11 : Hid (w11.heap[w.heap.size]? = some (.cells #[.slice ao fs.length cap] 24 (0, 0))) := blk_below bA_w10.out (b_w11)
  have rW_w11 : Hid (RowF w11 w3.heap.size (.slice aW R.length cW) R) := rowF_below rW_w10.out (b_w11)
  have bW_w11 : Hid (w11.heap[w4.heap.size]? = some (.cells #[.slice aW R.length cW] 30 (0, 0))) := blk_below bW_w10.out (b_w11)
  have rX_w11 : Hid (RowF w11 w5.heap.size (.slice (some ⟨gX, 0, none⟩) fs.length fs.length) fs) := rowF_below rX_w10.out (b_w11)
  have bX_w11 : Hid (w11.heap[w6.heap.size]? = some (.cells #[.slice (some ⟨gX, 0, none⟩) fs.length fs.length] 30 (0, 0))) := blk_below bX_w10.out (b_w11)
  have qN_w11 : Hid (w11.heap[w7.heap.size]? = some (.cells CN 57 (0, 0))) := blk_below qN_w10.out (b_w11)
  have qL_w11 : Hid (w11.heap[w7a.heap.size]? = some (.cells CL 3 (0, 0))) := blk_below qL_w10.out (b_w11)
  have rG_w11 : Hid (RowF w11 w8.heap.size (.slice aG R.length cG) R) := rowF_below rG_w10.out (b_w11)
  have bG_w11 : Hid (w11.heap[w9.heap.size]? = some (.cells #[.slice aG R.length cG] 30 (0, 0))) := blk_below bG_w10.out (b_w11)
  clear HB_w10 bA_w10 rW_w10 bW_w10 rX_w10 bX_w10 qN_w10 qL_w10 rG_w10 bG_w10
  clear b_w11
  have hl_bX := box_of bX_w11.out
  have hl_bA := box_of bA_w11.out
  have hz1 : w.heap.size < w11.heap.size := by omega
  have hz2 : w6.heap.size < w11.heap.size := by omega
  have HF5 : Hid (FilesAt w11.drew ao fs) := filesAt_keep HF.out (HB_w11.out.drew)
  have HG5 : Hid (FilesAt w11.drew (some ⟨gX, 0, none⟩) fs) := rowF_files rX_w11.out
  go_wp2_with fail
  go_region_held3 (fun w' => w'.cell? ⟨w.heap.size, 0, none⟩ = some (.slice ao fs.length cap) ∧ w'.cell? ⟨w6.heap.size, 0, none⟩ = some (.slice (some ⟨gX, 0, none⟩) fs.length fs.length)) (first | go_keep | (exact ⟨(b6.cell (p := ⟨w.heap.size, 0, none⟩) hz1).trans hl_bA, (b6.cell (p := ⟨w6.heap.size, 0, none⟩) hz2).trans hl_bX⟩) | (exact ⟨((b6.trans (b7.mono b6.size)).cell (p := ⟨w.heap.size, 0, none⟩) hz1).trans hl_bA, ((b6.trans (b7.mono b6.size)).cell (p := ⟨w6.heap.size, 0, none⟩) hz2).trans hl_bX⟩)) ((first | (go_at_call 10; refine (toDisk_any fs ao cap _ hl HF5.out).mono ?_; rintro e w12 ⟨⟨g6, C6, rfl, hg6, hC6, hCs6, hI6⟩, b6⟩) | (go_at_call 13; refine (eqDisk_same fs _ _ _ _ _ hl0 (filesAt_keep HG5.out b6) (filesAt_own hC6 hI6)).mono ?_; rintro e w13 ⟨rfl, b7⟩)))
  have b_w13 : Below w11.heap.size w11 w13 := (Below.refl _ _).drew.trans (b6.trans (b7.mono b6.size))
  clear b6 b7 hC6 hCs6 hI6 hg6 HF5 HG5 hl_bA hl_bX hz1 hz2
  have hs_w13 : w11.heap.size ≤ w13.heap.size := (b_w13).size
  have HB_w13 : Hid (Below w.heap.size w w13) := HB_w11.out.trans ((b_w13).mono HB_w11.out.size)
  have bA_w13 : Hid (w13.heap[w.heap.size]? = some (.cells #[.slice ao fs.length cap] 24 (0, 0))) := blk_below bA_w11.out (b_w13)
  have rW_w13 : Hid (RowF w13 w3.heap.size (.slice aW R.length cW) R) := rowF_below rW_w11.out (b_w13)
  have bW_w13 : Hid (w13.heap[w4.heap.size]? = some (.cells #[.slice aW R.length cW] 30 (0, 0))) := blk_below bW_w11.out (b_w13)
  have rX_w13 : Hid (RowF w13 w5.heap.size (.slice (some ⟨gX, 0, none⟩) fs.length fs.length) fs) := rowF_below rX_w11.out (b_w13)
  have bX_w13 : Hid (w13.heap[w6.heap.size]? = some (.cells #[.slice (some ⟨gX, 0, none⟩) fs.length fs.length] 30 (0, 0))) := blk_below bX_w11.out (b_w13)
  have qN_w13 : Hid (w13.heap[w7.heap.size]? = some (.cells CN 57 (0, 0))) := blk_below qN_w11.out (b_w13)
  have qL_w13 : Hid (w13.heap[w7a.heap.size]? = some (.cells CL 3 (0, 0))) := blk_below qL_w11.out (b_w13)
  have rG_w13 : Hid (RowF w13 w8.heap.size (.slice aG R.length cG) R) := rowF_below rG_w11.out (b_w13)
  have bG_w13 : Hid (w13.heap[w9.heap.size]? = some (.cells #[.slice aG R.length cG] 30 (0, 0))) := blk_below bG_w11.out (b_w13)
  clear HB_w11 bA_w11 rW_w11 bW_w11 rX_w11 bX_w11 qN_w11 qL_w11 rG_w11 bG_w11
  clear b_w13
  go_wp2_with fail
  refine (toActS_any qs aa capa _ hla (actsAt_keep HAS.out HB_w13.out)).mono ?_
  rintro e w13a ⟨⟨CJ, rfl, hCJ, hCsJ, hIJ⟩, b_w13a⟩
  have qJ_w13a : Hid (w13a.heap[w13.heap.size]? = some (.cells CJ 57 (0, 0))) := hCJ
  have IJ := hide hIJ
  have hglJ : w13.heap.size < w13a.heap.size := (Array.getElem?_eq_some_iff.1 hCJ).1
  clear hCJ hIJ
  have hs_w13a : w13.heap.size ≤ w13a.heap.size := (b_w13a).size
  have HB_w13a : Hid (Below w.heap.size w w13a) := HB_w13.out.trans ((b_w13a).mono HB_w13.out.size)
  have bA_w13a : Hid (w13a.heap[w.heap.size]? = some (.cells #[.slice ao fs.length cap] 24 (0, 0))) := blk_below bA_w13.out (b_w13a)
  have rW_w13a : Hid (RowF w13a w3.heap.size (.slice aW R.length cW) R) := rowF_below rW_w13.out (b_w13a)
  have bW_w13a : Hid (w13a.heap[w4.heap.size]? = some (.cells #[.slice aW R.length cW] 30 (0, 0))) := blk_below bW_w13.out (b_w13a)
  have rX_w13a : Hid (RowF w13a w5.heap.size (.slice (some ⟨gX, 0, none⟩) fs.length fs.length) fs) := rowF_below rX_w13.out (b_w13a)
  have bX_w13a : Hid (w13a.heap[w6.heap.size]? = some (.cells #[.slice (some ⟨gX, 0, none⟩) fs.length fs.length] 30 (0, 0))) := blk_below bX_w13.out (b_w13a)
  have qN_w13a : Hid (w13a.heap[w7.heap.size]? = some (.cells CN 57 (0, 0))) := blk_below qN_w13.out (b_w13a)
  have qL_w13a : Hid (w13a.heap[w7a.heap.size]? = some (.cells CL 3 (0, 0))) := blk_below qL_w13.out (b_w13a)
  have rG_w13a : Hid (RowF w13a w8.heap.size (.slice aG R.length cG) R) := rowF_below rG_w13.out (b_w13a)
  have bG_w13a : Hid (w13a.heap[w9.heap.size]? = some (.cells #[.slice aG R.length cG] 30 (0, 0))) := blk_below bG_w13.out (b_w13a)
  clear HB_w13 bA_w13 rW_w13 bW_w13 rX_w13 bX_w13 qN_w13 qL_w13 rG_w13 bG_w13
  clear b_w13a
  go_wp2_with fail
  refine (eqActS_same qs _ _ _ _ _ (small_max hla) (actsAt_own qN_w13a.out IN.out) (actsAt_own qJ_w13a.out IJ.out)).mono ?_
  rintro e w13b ⟨rfl, b_w13b⟩
  clear qJ_w13a
  clear IJ hCsJ hglJ
  have hs_w13b : w13a.heap.size ≤ w13b.heap.size := (b_w13b).size
  have HB_w13b : Hid (Below w.heap.size w w13b) := HB_w13a.out.trans ((b_w13b).mono HB_w13a.out.size)
  have bA_w13b : Hid (w13b.heap[w.heap.size]? = some (.cells #[.slice ao fs.length cap] 24 (0, 0))) := blk_below bA_w13a.out (b_w13b)
  have rW_w13b : Hid (RowF w13b w3.heap.size (.slice aW R.length cW) R) := rowF_below rW_w13a.out (b_w13b)
  have bW_w13b : Hid (w13b.heap[w4.heap.size]? = some (.cells #[.slice aW R.length cW] 30 (0, 0))) := blk_below bW_w13a.out (b_w13b)
  have rX_w13b : Hid (RowF w13b w5.heap.size (.slice (some ⟨gX, 0, none⟩) fs.length fs.length) fs) := rowF_below rX_w13a.out (b_w13b)
  have bX_w13b : Hid (w13b.heap[w6.heap.size]? = some (.cells #[.slice (some ⟨gX, 0, none⟩) fs.length fs.length] 30 (0, 0))) := blk_below bX_w13a.out (b_w13b)
  have qN_w13b : Hid (w13b.heap[w7.heap.size]? = some (.cells CN 57 (0, 0))) := blk_below qN_w13a.out (b_w13b)
  have qL_w13b : Hid (w13b.heap[w7a.heap.size]? = some (.cells CL 3 (0, 0))) := blk_below qL_w13a.out (b_w13b)
  have rG_w13b : Hid (RowF w13b w8.heap.size (.slice aG R.length cG) R) := rowF_below rG_w13a.out (b_w13b)
  have bG_w13b : Hid (w13b.heap[w9.heap.size]? = some (.cells #[.slice aG R.length cG] 30 (0, 0))) := blk_below bG_w13a.out (b_w13b)
  clear HB_w13a bA_w13a rW_w13a bW_w13a rX_w13a bX_w13a qN_w13a qL_w13a rG_w13a bG_w13a
  clear b_w13b
  go_wp2_with fail
  refine (toIntS_any ls al capl _ hll (intsAt_keep HLS.out HB_w13b.out)).mono ?_
  rintro e w14 ⟨⟨CE, rfl, hCE, hCsE, hIE⟩, b_w14⟩
  have qE_w14 : Hid (w14.heap[w13b.heap.size]? = some (.cells CE 3 (0, 0))) := hCE
  have IE := hide hIE
  have hglE : w13b.heap.size < w14.heap.size := (Array.getElem?_eq_some_iff.1 hCE).1
  clear hCE hIE
  have hs_w14 : w13b.heap.size ≤ w14.heap.size := (b_w14).size
  have HB_w14 : Hid (Below w.heap.size w w14) := HB_w13b.out.trans ((b_w14).mono HB_w13b.out.size)
  have bA_w14 : Hid (w14.heap[w.heap.size]? = some (.cells #[.slice ao fs.length cap] 24 (0, 0))) := blk_below bA_w13b.out (b_w14)
  have rW_w14 : Hid (RowF w14 w3.heap.size (.slice aW R.length cW) R) := rowF_below rW_w13b.out (b_w14)
  have bW_w14 : Hid (w14.heap[w4.heap.size]? = some (.cells #[.slice aW R.length cW] 30 (0, 0))) := blk_below bW_w13b.out (b_w14)
  have rX_w14 : Hid (RowF w14 w5.heap.size (.slice (some ⟨gX, 0, none⟩) fs.length fs.length) fs) := rowF_below rX_w13b.out (b_w14)
  have bX_w14 : Hid (w14.heap[w6.heap.size]? = some (.cells #[.slice (some ⟨gX, 0, none⟩) fs.length fs.length] 30 (0, 0))) := blk_below bX_w13b.out (b_w14)
  have qN_w14 : Hid (w14.heap[w7.heap.size]? = some (.cells CN 57 (0, 0))) := blk_below qN_w13b.out (b_w14)
  have qL_w14 : Hid (w14.heap[w7a.heap.size]? = some (.cells CL 3 (0, 0))) := blk_below qL_w13b.out (b_w14)
  have rG_w14 : Hid (RowF w14 w8.heap.size (.slice aG R.length cG) R) := rowF_below rG_w13b.out (b_w14)
  have bG_w14 : Hid (w14.heap[w9.heap.size]? = some (.cells #[.slice aG R.length cG] 30 (0, 0))) := blk_below bG_w13b.out (b_w14)
  clear HB_w13b bA_w13b rW_w13b bW_w13b rX_w13b bX_w13b qN_w13b qL_w13b rG_w13b bG_w13b
  clear b_w14
  go_wp2_with fail
  refine (eqIntS_same ls _ _ _ _ _ hll (intsAt_own qL_w14.out IL.out HBL.out) (intsAt_own qE_w14.out IE.out HBL.out)).mono ?_
  rintro e w15 ⟨rfl, b_w15⟩
  clear qE_w14
  clear IE hCsE hglE
  have hs_w15 : w14.heap.size ≤ w15.heap.size := (b_w15).size
  have HB_w15 : Hid (Below w.heap.size w w15) := HB_w14.out.trans ((b_w15).mono HB_w14.out.size)
  have bA_w15 : Hid (w15.heap[w.heap.size]? = some (.cells #[.slice ao fs.length cap] 24 (0, 0))) := blk_below bA_w14.out (b_w15)
  have rW_w15 : Hid (RowF w15 w3.heap.size (.slice aW R.length cW) R) := rowF_below rW_w14.out (b_w15)
  have bW_w15 : Hid (w15.heap[w4.heap.size]? = some (.cells #[.slice aW R.length cW] 30 (0, 0))) := blk_below bW_w14.out (b_w15)
  have rX_w15 : Hid (RowF w15 w5.heap.size (.slice (some ⟨gX, 0, none⟩) fs.length fs.length) fs) := rowF_below rX_w14.out (b_w15)
  have bX_w15 : Hid (w15.heap[w6.heap.size]? = some (.cells #[.slice (some ⟨gX, 0, none⟩) fs.length fs.length] 30 (0, 0))) := blk_below bX_w14.out (b_w15)
  have qN_w15 : Hid (w15.heap[w7.heap.size]? = some (.cells CN 57 (0, 0))) := blk_below qN_w14.out (b_w15)
  have qL_w15 : Hid (w15.heap[w7a.heap.size]? = some (.cells CL 3 (0, 0))) := blk_below qL_w14.out (b_w15)
  have rG_w15 : Hid (RowF w15 w8.heap.size (.slice aG R.length cG) R) := rowF_below rG_w14.out (b_w15)
  have bG_w15 : Hid (w15.heap[w9.heap.size]? = some (.cells #[.slice aG R.length cG] 30 (0, 0))) := blk_below bG_w14.out (b_w15)
  clear HB_w14 bA_w14 rW_w14 bW_w14 rX_w14 bX_w14 qN_w14 qL_w14 rG_w14 bG_w14
  clear b_w15
  have hl_bX := box_of bX_w15.out
  go_wp2_with fail
  clear hl_bX
  refine (markDisk_row _ fs w5.heap.size 1 _ hl (by decide) (by decide) rX_w15.out).mono ?_
  rintro e w16 ⟨rfl, _, hgr⟩
  have hgb : ∀ j, (Value.slice (some ⟨gX, 0, none⟩) fs.length fs.length).ownBlock = some j → w5.heap.size ≤ j ∧ j < w6.heap.size ∧ j = gX := UrX.out
  have hs_w16 : w15.heap.size ≤ w16.heap.size := (hgr).size
  have HB_w16 : Hid (Below w.heap.size w w16) := HB_w15.out.grown (hgr) HB_w15.out.size (fun j hj => by have := hgb j hj; omega)
  have bA_w16 : Hid (w16.heap[w.heap.size]? = some (.cells #[.slice ao fs.length cap] 24 (0, 0))) := blk_grown bA_w15.out (hgr) (fun hj => by have := hgb _ hj.symm; omega)
  have rW_w16 : Hid (RowF w16 w3.heap.size (.slice aW R.length cW) R) := rowF_grown rW_w15.out (hgr) (fun g hg0 e => by have h1 := hgb g e.symm; have h2 := UrW.out g hg0; omega)
  have bW_w16 : Hid (w16.heap[w4.heap.size]? = some (.cells #[.slice aW R.length cW] 30 (0, 0))) := blk_grown bW_w15.out (hgr) (fun hj => by have := hgb _ hj.symm; omega)
  have bX_w16 : Hid (w16.heap[w6.heap.size]? = some (.cells #[.slice (some ⟨gX, 0, none⟩) fs.length fs.length] 30 (0, 0))) := blk_grown bX_w15.out (hgr) (fun hj => by have := hgb _ hj.symm; omega)
  have qN_w16 : Hid (w16.heap[w7.heap.size]? = some (.cells CN 57 (0, 0))) := blk_grown qN_w15.out (hgr) (fun hj => by have := hgb _ hj.symm; omega)
  have qL_w16 : Hid (w16.heap[w7a.heap.size]? = some (.cells CL 3 (0, 0))) := blk_grown qL_w15.out (hgr) (fun hj => by have := hgb _ hj.symm; omega)
  have rG_w16 : Hid (RowF w16 w8.heap.size (.slice aG R.length cG) R) := rowF_grown rG_w15.out (hgr) (fun g hg0 e => by have h1 := hgb g e.symm; have h2 := UrG.out g hg0; omega)
  have bG_w16 : Hid (w16.heap[w9.heap.size]? = some (.cells #[.slice aG R.length cG] 30 (0, 0))) := blk_grown bG_w15.out (hgr) (fun hj => by have := hgb _ hj.symm; omega)
  clear HB_w15 bA_w15 rW_w15 bW_w15 rX_w15 bX_w15 qN_w15 qL_w15 rG_w15 bG_w15
  clear hgr hgb UrX
  go_wp2_with fail
  refine (markActS_row w7.heap.size _ qs.length CN (1 + 3 * fs.length) _ hla (by omega) (by omega) qN_w16.out (by omega)).mono ?_
  rintro e w16a ⟨rfl, _, hgr⟩
  have hgb : ∀ j, (some w7.heap.size : Option Nat) = some j → j = w7.heap.size := fun j h => by cases h; rfl
  have hs_w16a : w16.heap.size ≤ w16a.heap.size := (hgr).size
  have HB_w16a : Hid (Below w.heap.size w w16a) := HB_w16.out.grown (hgr) HB_w16.out.size (fun j hj => by have := hgb j hj; omega)
  have bA_w16a : Hid (w16a.heap[w.heap.size]? = some (.cells #[.slice ao fs.length cap] 24 (0, 0))) := blk_grown bA_w16.out (hgr) (fun hj => by have := hgb _ hj.symm; omega)
  have rW_w16a : Hid (RowF w16a w3.heap.size (.slice aW R.length cW) R) := rowF_grown rW_w16.out (hgr) (fun g hg0 e => by have h1 := hgb g e.symm; have h2 := UrW.out g hg0; omega)
  have bW_w16a : Hid (w16a.heap[w4.heap.size]? = some (.cells #[.slice aW R.length cW] 30 (0, 0))) := blk_grown bW_w16.out (hgr) (fun hj => by have := hgb _ hj.symm; omega)
  have bX_w16a : Hid (w16a.heap[w6.heap.size]? = some (.cells #[.slice (some ⟨gX, 0, none⟩) fs.length fs.length] 30 (0, 0))) := blk_grown bX_w16.out (hgr) (fun hj => by have := hgb _ hj.symm; omega)
  have qL_w16a : Hid (w16a.heap[w7a.heap.size]? = some (.cells CL 3 (0, 0))) := blk_grown qL_w16.out (hgr) (fun hj => by have := hgb _ hj.symm; omega)
  have rG_w16a : Hid (RowF w16a w8.heap.size (.slice aG R.length cG) R) := rowF_grown rG_w16.out (hgr) (fun g hg0 e => by have h1 := hgb g e.symm; have h2 := UrG.out g hg0; omega)
  have bG_w16a : Hid (w16a.heap[w9.heap.size]? = some (.cells #[.slice aG R.length cG] 30 (0, 0))) := blk_grown bG_w16.out (hgr) (fun hj => by have := hgb _ hj.symm; omega)
  clear HB_w16 bA_w16 rW_w16 bW_w16 bX_w16 qN_w16 qL_w16 rG_w16 bG_w16
  clear hgr hgb IN
  go_wp2_with fail
  refine (markIntS_row w7a.heap.size _ ls.length CL (1 + 3 * fs.length + 4 * qs.length) _ hll (by omega) qL_w16a.out (by omega)).mono ?_
  rintro e w17 ⟨rfl, hgr⟩
  have hgb : ∀ j, (some w7a.heap.size : Option Nat) = some j → j = w7a.heap.size := fun j h => by cases h; rfl
  have hs_w17 : w16a.heap.size ≤ w17.heap.size := (hgr).size
  have HB_w17 : Hid (Below w.heap.size w w17) := HB_w16a.out.grown (hgr) HB_w16a.out.size (fun j hj => by have := hgb j hj; omega)
  have bA_w17 : Hid (w17.heap[w.heap.size]? = some (.cells #[.slice ao fs.length cap] 24 (0, 0))) := blk_grown bA_w16a.out (hgr) (fun hj => by have := hgb _ hj.symm; omega)
  have rW_w17 : Hid (RowF w17 w3.heap.size (.slice aW R.length cW) R) := rowF_grown rW_w16a.out (hgr) (fun g hg0 e => by have h1 := hgb g e.symm; have h2 := UrW.out g hg0; omega)
  have bW_w17 : Hid (w17.heap[w4.heap.size]? = some (.cells #[.slice aW R.length cW] 30 (0, 0))) := blk_grown bW_w16a.out (hgr) (fun hj => by have := hgb _ hj.symm; omega)
  have bX_w17 : Hid (w17.heap[w6.heap.size]? = some (.cells #[.slice (some ⟨gX, 0, none⟩) fs.length fs.length] 30 (0, 0))) := blk_grown bX_w16a.out (hgr) (fun hj => by have := hgb _ hj.symm; omega)
  have rG_w17 : Hid (RowF w17 w8.heap.size (.slice aG R.length cG) R) := rowF_grown rG_w16a.out (hgr) (fun g hg0 e => by have h1 := hgb g e.symm; have h2 := UrG.out g hg0; omega)
  have bG_w17 : Hid (w17.heap[w9.heap.size]? = some (.cells #[.slice aG R.length cG] 30 (0, 0))) := blk_grown bG_w16a.out (hgr) (fun hj => by have := hgb _ hj.symm; omega)
  clear HB_w16a bA_w16a rW_w16a bW_w16a bX_w16a qL_w16a rG_w16a bG_w16a
  clear hgr hgb IL
  have hk0 : decide ((((1 + 3 * fs.length + 4 * qs.length + ls.length : Nat)) : Int) < 0) = false := by simp; omega
  have hl_bG := box_of bG_w17.out
  have hl_bW := box_of bW_w17.out
  go_wp2_with fail
  clear hl_bG hl_bW
  refine (eqDisk_same R _ _ _ _ _ (small_max hRl) (rowF_files rG_w17.out) (rowF_files rW_w17.out)).mono ?_
  rintro e w18 ⟨rfl, b_w18⟩
  have hs_w18 : w17.heap.size ≤ w18.heap.size := (b_w18).size
  have HB_w18 : Hid (Below w.heap.size w w18) := HB_w17.out.trans ((b_w18).mono HB_w17.out.size)
  have bA_w18 : Hid (w18.heap[w.heap.size]? = some (.cells #[.slice ao fs.length cap] 24 (0, 0))) := blk_below bA_w17.out (b_w18)
  have rW_w18 : Hid (RowF w18 w3.heap.size (.slice aW R.length cW) R) := rowF_below rW_w17.out (b_w18)
  have bW_w18 : Hid (w18.heap[w4.heap.size]? = some (.cells #[.slice aW R.length cW] 30 (0, 0))) := blk_below bW_w17.out (b_w18)
  have bX_w18 : Hid (w18.heap[w6.heap.size]? = some (.cells #[.slice (some ⟨gX, 0, none⟩) fs.length fs.length] 30 (0, 0))) := blk_below bX_w17.out (b_w18)
  have rG_w18 : Hid (RowF w18 w8.heap.size (.slice aG R.length cG) R) := rowF_below rG_w17.out (b_w18)
  have bG_w18 : Hid (w18.heap[w9.heap.size]? = some (.cells #[.slice aG R.length cG] 30 (0, 0))) := blk_below bG_w17.out (b_w18)
  clear HB_w17 bA_w17 rW_w17 bW_w17 bX_w17 rG_w17 bG_w17
  clear b_w18
  have hl_bG := box_of bG_w18.out
  go_wp2_with fail
  clear hl_bG
  refine (markDisk_row _ R w8.heap.size 1 _ hRl (by decide) (by decide) rG_w18.out).mono ?_
  rintro e w19 ⟨rfl, hrM, hgr⟩
  have hgb : ∀ j, (Value.slice aG R.length cG).ownBlock = some j → w8.heap.size ≤ j ∧ j < w9.heap.size := UrG.out
  have rM_w19 := hide hrM
  clear hrM
  have hs_w19 : w18.heap.size ≤ w19.heap.size := (hgr).size
  have HB_w19 : Hid (Below w.heap.size w w19) := HB_w18.out.grown (hgr) HB_w18.out.size (fun j hj => by have := hgb j hj; omega)
  have bA_w19 : Hid (w19.heap[w.heap.size]? = some (.cells #[.slice ao fs.length cap] 24 (0, 0))) := blk_grown bA_w18.out (hgr) (fun hj => by have := hgb _ hj.symm; omega)
  have rW_w19 : Hid (RowF w19 w3.heap.size (.slice aW R.length cW) R) := rowF_grown rW_w18.out (hgr) (fun g hg0 e => by have h1 := hgb g e.symm; have h2 := UrW.out g hg0; omega)
  have bW_w19 : Hid (w19.heap[w4.heap.size]? = some (.cells #[.slice aW R.length cW] 30 (0, 0))) := blk_grown bW_w18.out (hgr) (fun hj => by have := hgb _ hj.symm; omega)
  have bX_w19 : Hid (w19.heap[w6.heap.size]? = some (.cells #[.slice (some ⟨gX, 0, none⟩) fs.length fs.length] 30 (0, 0))) := blk_grown bX_w18.out (hgr) (fun hj => by have := hgb _ hj.symm; omega)
  have bG_w19 : Hid (w19.heap[w9.heap.size]? = some (.cells #[.slice aG R.length cG] 30 (0, 0))) := blk_grown bG_w18.out (hgr) (fun hj => by have := hgb _ hj.symm; omega)
  clear HB_w18 bA_w18 rW_w18 bW_w18 bX_w18 rG_w18 bG_w18
  clear hgr hgb
  have UrM : Hid (∀ g, (Value.slice aG R.length cG).ownBlock = some g → w8.heap.size ≤ g ∧ g < w9.heap.size) := UrG.out
  obtain ⟨mm, HMM⟩ : ∃ mm : Int, Hid (((1 + 3 * R.length : Nat) : Int) = mm) := ⟨_, hide rfl⟩
  have hmm0 : decide (mm < 0) = false := by have := HMM.out; simp; omega
  have hmm1 : (mm == mm) = true := beq_self_eq_true _
  rw [HMM.out]
  have hl_bG := box_of bG_w19.out
  go_wp2_with fail
  clear hl_bG
  refine (heldDisk_row _ R.length w8.heap.size 1 _ hRl (by decide) (by decide) rM_w19.out).mono ?_
  rintro e w20 ⟨rfl, b_w20⟩
  rw [HMM.out]
  have hs_w20 : w19.heap.size ≤ w20.heap.size := (b_w20).size
  have HB_w20 : Hid (Below w.heap.size w w20) := HB_w19.out.trans ((b_w20).mono HB_w19.out.size)
  have bA_w20 : Hid (w20.heap[w.heap.size]? = some (.cells #[.slice ao fs.length cap] 24 (0, 0))) := blk_below bA_w19.out (b_w20)
  have rW_w20 : Hid (RowF w20 w3.heap.size (.slice aW R.length cW) R) := rowF_below rW_w19.out (b_w20)
  have bW_w20 : Hid (w20.heap[w4.heap.size]? = some (.cells #[.slice aW R.length cW] 30 (0, 0))) := blk_below bW_w19.out (b_w20)
  have bX_w20 : Hid (w20.heap[w6.heap.size]? = some (.cells #[.slice (some ⟨gX, 0, none⟩) fs.length fs.length] 30 (0, 0))) := blk_below bX_w19.out (b_w20)
  have bG_w20 : Hid (w20.heap[w9.heap.size]? = some (.cells #[.slice aG R.length cG] 30 (0, 0))) := blk_below bG_w19.out (b_w20)
  have rM_w20 : Hid (RowF w20 w8.heap.size (.slice aG R.length cG) (marksF 1 R.length)) := rowF_below rM_w19.out (b_w20)
  clear HB_w19 bA_w19 rW_w19 bW_w19 bX_w19 bG_w19 rM_w19
  clear b_w20
  have hl_bA := box_of bA_w20.out
  go_wp2_with fail
  clear hl_bA
  refine (toDisk_any fs ao cap _ hl (filesAt_keep HF.out HB_w20.out)).mono ?_
  rintro e w21 ⟨⟨gY, CY, rfl, hgY, hCY, hCsY, hIY⟩, b_w21⟩
  have rY_w21 : Hid (RowF w21 w20.heap.size (.slice (some ⟨gY, 0, none⟩) fs.length fs.length) fs) := .inr ⟨gY, fs.length, CY, rfl, hgY, hCY, by omega, hIY⟩
  clear hCY hCsY hIY hgY
  have hs_w21 : w20.heap.size ≤ w21.heap.size := (b_w21).size
  have HB_w21 : Hid (Below w.heap.size w w21) := HB_w20.out.trans ((b_w21).mono HB_w20.out.size)
  have bA_w21 : Hid (w21.heap[w.heap.size]? = some (.cells #[.slice ao fs.length cap] 24 (0, 0))) := blk_below bA_w20.out (b_w21)
  have rW_w21 : Hid (RowF w21 w3.heap.size (.slice aW R.length cW) R) := rowF_below rW_w20.out (b_w21)
  have bW_w21 : Hid (w21.heap[w4.heap.size]? = some (.cells #[.slice aW R.length cW] 30 (0, 0))) := blk_below bW_w20.out (b_w21)
  have bX_w21 : Hid (w21.heap[w6.heap.size]? = some (.cells #[.slice (some ⟨gX, 0, none⟩) fs.length fs.length] 30 (0, 0))) := blk_below bX_w20.out (b_w21)
  have bG_w21 : Hid (w21.heap[w9.heap.size]? = some (.cells #[.slice aG R.length cG] 30 (0, 0))) := blk_below bG_w20.out (b_w21)
  have rM_w21 : Hid (RowF w21 w8.heap.size (.slice aG R.length cG) (marksF 1 R.length)) := rowF_below rM_w20.out (b_w21)
  clear HB_w20 bA_w20 rW_w20 bW_w20 bX_w20 bG_w20 rM_w20
  clear b_w21
  go_wp2_with fail
  refine (toActS_any qs aa capa _ hla (actsAt_keep HAS.out HB_w21.out)).mono ?_
  rintro e w21a ⟨⟨CP, rfl, hCP, hCsP, hIP⟩, b_w21a⟩
  have qP_w21a : Hid (w21a.heap[w21.heap.size]? = some (.cells CP 57 (0, 0))) := hCP
  have IP := hide hIP
  have hglP : w21.heap.size < w21a.heap.size := (Array.getElem?_eq_some_iff.1 hCP).1
  clear hCP hIP
  have hs_w21a : w21.heap.size ≤ w21a.heap.size := (b_w21a).size
  have HB_w21a : Hid (Below w.heap.size w w21a) := HB_w21.out.trans ((b_w21a).mono HB_w21.out.size)
  have bA_w21a : Hid (w21a.heap[w.heap.size]? = some (.cells #[.slice ao fs.length cap] 24 (0, 0))) := blk_below bA_w21.out (b_w21a)
  have rW_w21a : Hid (RowF w21a w3.heap.size (.slice aW R.length cW) R) := rowF_below rW_w21.out (b_w21a)
  have bW_w21a : Hid (w21a.heap[w4.heap.size]? = some (.cells #[.slice aW R.length cW] 30 (0, 0))) := blk_below bW_w21.out (b_w21a)
  have bX_w21a : Hid (w21a.heap[w6.heap.size]? = some (.cells #[.slice (some ⟨gX, 0, none⟩) fs.length fs.length] 30 (0, 0))) := blk_below bX_w21.out (b_w21a)
  have bG_w21a : Hid (w21a.heap[w9.heap.size]? = some (.cells #[.slice aG R.length cG] 30 (0, 0))) := blk_below bG_w21.out (b_w21a)
  have rM_w21a : Hid (RowF w21a w8.heap.size (.slice aG R.length cG) (marksF 1 R.length)) := rowF_below rM_w21.out (b_w21a)
  have rY_w21a : Hid (RowF w21a w20.heap.size (.slice (some ⟨gY, 0, none⟩) fs.length fs.length) fs) := rowF_below rY_w21.out (b_w21a)
  clear HB_w21 bA_w21 rW_w21 bW_w21 bX_w21 bG_w21 rM_w21 rY_w21
  clear b_w21a
  go_wp2_with fail
  refine (toIntS_any ls al capl _ hll (intsAt_keep HLS.out HB_w21a.out)).mono ?_
  rintro e w22 ⟨⟨CZ, rfl, hCZ, hCsZ, hIZ⟩, b_w22⟩
  have qZ_w22 : Hid (w22.heap[w21a.heap.size]? = some (.cells CZ 3 (0, 0))) := hCZ
  have IZ := hide hIZ
  have hglZ : w21a.heap.size < w22.heap.size := (Array.getElem?_eq_some_iff.1 hCZ).1
  clear hCZ hIZ
  have hs_w22 : w21a.heap.size ≤ w22.heap.size := (b_w22).size
  have HB_w22 : Hid (Below w.heap.size w w22) := HB_w21a.out.trans ((b_w22).mono HB_w21a.out.size)
  have bA_w22 : Hid (w22.heap[w.heap.size]? = some (.cells #[.slice ao fs.length cap] 24 (0, 0))) := blk_below bA_w21a.out (b_w22)
  have rW_w22 : Hid (RowF w22 w3.heap.size (.slice aW R.length cW) R) := rowF_below rW_w21a.out (b_w22)
  have bW_w22 : Hid (w22.heap[w4.heap.size]? = some (.cells #[.slice aW R.length cW] 30 (0, 0))) := blk_below bW_w21a.out (b_w22)
  have bX_w22 : Hid (w22.heap[w6.heap.size]? = some (.cells #[.slice (some ⟨gX, 0, none⟩) fs.length fs.length] 30 (0, 0))) := blk_below bX_w21a.out (b_w22)
  have bG_w22 : Hid (w22.heap[w9.heap.size]? = some (.cells #[.slice aG R.length cG] 30 (0, 0))) := blk_below bG_w21a.out (b_w22)
  have rM_w22 : Hid (RowF w22 w8.heap.size (.slice aG R.length cG) (marksF 1 R.length)) := rowF_below rM_w21a.out (b_w22)
  have rY_w22 : Hid (RowF w22 w20.heap.size (.slice (some ⟨gY, 0, none⟩) fs.length fs.length) fs) := rowF_below rY_w21a.out (b_w22)
  have qP_w22 : Hid (w22.heap[w21.heap.size]? = some (.cells CP 57 (0, 0))) := blk_below qP_w21a.out (b_w22)
  clear HB_w21a bA_w21a rW_w21a bW_w21a bX_w21a bG_w21a rM_w21a rY_w21a qP_w21a
  clear b_w22
  go_wp2_with fail
  refine (cut_any fs _ _ qs _ _ _ wh ls _ _ _ hl (rowF_files rY_w22.out) HZ.out hla (actsAt_own qP_w22.out IP.out) HZA.out (intsAt_own qZ_w22.out IZ.out HBL.out) (Nat.le_refl _)).mono ?_
  rintro e w23 ⟨v23, rfl, hrow23, b_w23⟩
  rw [HRR.out] at hrow23
  rw [HOK.out]
  obtain ⟨aH, cH, rfl, _⟩ := rowF_at hrow23
  have rH_w23 := hide hrow23
  clear hrow23
  clear rY_w22
  clear qZ_w22
  clear IZ hCsZ hglZ
  clear qP_w22
  clear IP hCsP hglP
  have hs_w23 : w22.heap.size ≤ w23.heap.size := (b_w23).size
  have HB_w23 : Hid (Below w.heap.size w w23) := HB_w22.out.trans ((b_w23).mono HB_w22.out.size)
  have bA_w23 : Hid (w23.heap[w.heap.size]? = some (.cells #[.slice ao fs.length cap] 24 (0, 0))) := blk_below bA_w22.out (b_w23)
  have rW_w23 : Hid (RowF w23 w3.heap.size (.slice aW R.length cW) R) := rowF_below rW_w22.out (b_w23)
  have bW_w23 : Hid (w23.heap[w4.heap.size]? = some (.cells #[.slice aW R.length cW] 30 (0, 0))) := blk_below bW_w22.out (b_w23)
  have bX_w23 : Hid (w23.heap[w6.heap.size]? = some (.cells #[.slice (some ⟨gX, 0, none⟩) fs.length fs.length] 30 (0, 0))) := blk_below bX_w22.out (b_w23)
  have bG_w23 : Hid (w23.heap[w9.heap.size]? = some (.cells #[.slice aG R.length cG] 30 (0, 0))) := blk_below bG_w22.out (b_w23)
  have rM_w23 : Hid (RowF w23 w8.heap.size (.slice aG R.length cG) (marksF 1 R.length)) := rowF_below rM_w22.out (b_w23)
  clear HB_w22 bA_w22 rW_w22 bW_w22 bX_w22 bG_w22 rM_w22
  clear b_w23
  obtain ⟨w24, hw_w24⟩ : ∃ wq, wq = w23.alloc (.cells #[.slice aH R.length cH] 30) := ⟨_, rfl⟩
  have bb_w24 : Below w23.heap.size w23 w24 := by rw [hw_w24]; exact (Below.refl _ _).alloc (Nat.le_refl _) _
  have hz_w24 : w23.heap.size + 1 ≤ w24.heap.size := by rw [hw_w24]; simp
  have bH_w24 : Hid (w24.heap[w23.heap.size]? = some (.cells #[.slice aH R.length cH] 30 (0, 0))) := by rw [hw_w24]; exact heap_alloc_new _ _
  have hs_w24 : w23.heap.size ≤ w24.heap.size := (bb_w24).size
  have HB_w24 : Hid (Below w.heap.size w w24) := HB_w23.out.trans ((bb_w24).mono HB_w23.out.size)
  have bA_w24 : Hid (w24.heap[w.heap.size]? = some (.cells #[.slice ao fs.length cap] 24 (0, 0))) := blk_below bA_w23.out (bb_w24)
  have rW_w24 : Hid (RowF w24 w3.heap.size (.slice aW R.length cW) R) := rowF_below rW_w23.out (bb_w24)
  have bW_w24 : Hid (w24.heap[w4.heap.size]? = some (.cells #[.slice aW R.length cW] 30 (0, 0))) := blk_below bW_w23.out (bb_w24)
  have bX_w24 : Hid (w24.heap[w6.heap.size]? = some (.cells #[.slice (some ⟨gX, 0, none⟩) fs.length fs.length] 30 (0, 0))) := blk_below bX_w23.out (bb_w24)
  have bG_w24 : Hid (w24.heap[w9.heap.size]? = some (.cells #[.slice aG R.length cG] 30 (0, 0))) := blk_below bG_w23.out (bb_w24)
  have rM_w24 : Hid (RowF w24 w8.heap.size (.slice aG R.length cG) (marksF 1 R.length)) := rowF_below rM_w23.out (bb_w24)
  have rH_w24 : Hid (RowF w24 w22.heap.size (.slice aH R.length cH) R) := rowF_below rH_w23.out (bb_w24)
  clear HB_w23 bA_w23 rW_w23 bW_w23 bX_w23 bG_w23 rM_w23 rH_w23
  clear bb_w24
  have hl_bW := box_of bW_w24.out
  rw [hw_w24] at hl_bW
  go_wp2_with fail
  rw [← hw_w24]
  clear hl_bW hw_w24
  refine (eqDisk_same R _ _ _ _ _ (small_max hRl) (rowF_files rH_w24.out) (rowF_files rW_w24.out)).mono ?_
  rintro e w25 ⟨rfl, b_w25⟩
  have hs_w25 : w24.heap.size ≤ w25.heap.size := (b_w25).size
  have HB_w25 : Hid (Below w.heap.size w w25) := HB_w24.out.trans ((b_w25).mono HB_w24.out.size)
  have bA_w25 : Hid (w25.heap[w.heap.size]? = some (.cells #[.slice ao fs.length cap] 24 (0, 0))) := blk_below bA_w24.out (b_w25)
  have rW_w25 : Hid (RowF w25 w3.heap.size (.slice aW R.length cW) R) := rowF_below rW_w24.out (b_w25)
  have bW_w25 : Hid (w25.heap[w4.heap.size]? = some (.cells #[.slice aW R.length cW] 30 (0, 0))) := blk_below bW_w24.out (b_w25)
  have bX_w25 : Hid (w25.heap[w6.heap.size]? = some (.cells #[.slice (some ⟨gX, 0, none⟩) fs.length fs.length] 30 (0, 0))) := blk_below bX_w24.out (b_w25)
  have bG_w25 : Hid (w25.heap[w9.heap.size]? = some (.cells #[.slice aG R.length cG] 30 (0, 0))) := blk_below bG_w24.out (b_w25)
  have rM_w25 : Hid (RowF w25 w8.heap.size (.slice aG R.length cG) (marksF 1 R.length)) := rowF_below rM_w24.out (b_w25)
  have rH_w25 : Hid (RowF w25 w22.heap.size (.slice aH R.length cH) R) := rowF_below rH_w24.out (b_w25)
  have bH_w25 : Hid (w25.heap[w23.heap.size]? = some (.cells #[.slice aH R.length cH] 30 (0, 0))) := blk_below bH_w24.out (b_w25)
  clear HB_w24 bA_w24 rW_w24 bW_w24 bX_w24 bG_w24 rM_w24 rH_w24 bH_w24
  clear b_w25
  have hl_bG := box_of bG_w25.out
  go_wp2_with fail
  clear hl_bG
  refine (heldDisk_row _ R.length w8.heap.size 1 _ hRl (by decide) (by decide) rM_w25.out).mono ?_
  rintro e w26 ⟨rfl, b_w26⟩
  rw [HMM.out]
  have hs_w26 : w25.heap.size ≤ w26.heap.size := (b_w26).size
  have HB_w26 : Hid (Below w.heap.size w w26) := HB_w25.out.trans ((b_w26).mono HB_w25.out.size)
  have bA_w26 : Hid (w26.heap[w.heap.size]? = some (.cells #[.slice ao fs.length cap] 24 (0, 0))) := blk_below bA_w25.out (b_w26)
  have rW_w26 : Hid (RowF w26 w3.heap.size (.slice aW R.length cW) R) := rowF_below rW_w25.out (b_w26)
  have bW_w26 : Hid (w26.heap[w4.heap.size]? = some (.cells #[.slice aW R.length cW] 30 (0, 0))) := blk_below bW_w25.out (b_w26)
  have bX_w26 : Hid (w26.heap[w6.heap.size]? = some (.cells #[.slice (some ⟨gX, 0, none⟩) fs.length fs.length] 30 (0, 0))) := blk_below bX_w25.out (b_w26)
  have bG_w26 : Hid (w26.heap[w9.heap.size]? = some (.cells #[.slice aG R.length cG] 30 (0, 0))) := blk_below bG_w25.out (b_w26)
  have rM_w26 : Hid (RowF w26 w8.heap.size (.slice aG R.length cG) (marksF 1 R.length)) := rowF_below rM_w25.out (b_w26)
  have rH_w26 : Hid (RowF w26 w22.heap.size (.slice aH R.length cH) R) := rowF_below rH_w25.out (b_w26)
  have bH_w26 : Hid (w26.heap[w23.heap.size]? = some (.cells #[.slice aH R.length cH] 30 (0, 0))) := blk_below bH_w25.out (b_w26)
  clear HB_w25 bA_w25 rW_w25 bW_w25 bX_w25 bG_w25 rM_w25 rH_w25 bH_w25
  clear b_w26
  go_wp2
  go_ret
  exact ⟨rfl, HB_w26.out⟩
end Go.Proofs.Ytgalhnbfdgpfpaj
