import Derived.Test.YtlcfblodflgleaaGreatDoorBe47
import Derived.Test.YtlcfblodflgleaaGreatDoorBe48
import Derived.Test.YtlcfblodflgleaaGreatDoorBe49
import Derived.Test.YtlcfblodflgleaaGreatDoorBe31
import Derived.Test.YtlcfblodflgleaaGreatDoorBe44
import Derived.Test.YtlcfblodflgleaaGreatDoorBe3
set_option maxRecDepth 100000
set_option maxHeartbeats 12000000
namespace Go.Proofs.YtlcfblodflgleaaGreatDoor
open Go.RowKit
theorem lawBehind (fs : List FileD) (ao ad : Option Addr) (cap cd : Nat) (room act seq : Int) (dir : List SpotD) (qs : List ActD) (aa : Option Addr) (capa : Nat) (wh : Int) (ls : List Int) (al : Option Addr) (capl : Nat) (w : World) (hl0 : fs.length ≤ maxLen) (hfs : FilesAt w ao fs) (hsz0 : ∀ F ∈ fs, F.name.size ≤ maxLen ∧ F.text.size ≤ maxLen) (hld0 : dir.length ≤ maxLen) (hds : SpotsAt w ad dir) (hszd : ∀ A ∈ dir, A.key.size ≤ maxLen) (hla0 : qs.length ≤ maxLen) (has : ActsAt w aa qs) (hsa0 : ∀ A ∈ qs, A.name.size ≤ maxLen ∧ A.text.size ≤ maxLen ∧ A.toN.size ≤ maxLen) (_hwh : (Lit.int .i64 wh).wf = true) (_hll0 : ls.length ≤ maxLen) (hls : IntsAt w al ls) (hbl : ∀ x ∈ ls, -9223372036854775808 ≤ x ∧ x ≤ 9223372036854775807) (hT : SumTab w) :
    Calls Tryz.prog 4 #[.agg #[.slice ao fs.length cap, .int .i64 room, .int .i64 act, .int .i64 seq, .slice ad dir.length cd], .slice aa qs.length capa, .int .i64 wh, .slice al ls.length capl] w fun e w' => e = .returned (.bool true) ∧ Below w.heap.size w w' := by
  have HF := hide hfs
  have HD := hide hds
  have HT := hide hT
  have HLS := hide hls
  have HBL := hide hbl
  have HAS := hide has
  have HSA0 := hide hsa0
  have HSZ := hide (fun W h1 h2 => szEngine_le fs ao ad cap cd room act seq dir W hl0 h1 hsz0 hld0 h2 hszd)
  clear hfs hds hT hls hbl has hsa0
  by_cases hbig : 1048576 < ls.length
  · have hbig' : decide ((1048576 : Int) < (ls.length : Int)) = true := by simp; omega
    go_enter Tryz.func4, Tryz.ntmps4
    go_wp2
    go_ret
    exact ⟨rfl, (Below.refl _ w).alloc (Nat.le_refl _) _⟩
  have hbig' : decide ((1048576 : Int) < (ls.length : Int)) = false := by simp; omega
  have hll : ls.length ≤ 1048576 := by omega
  clear hbig
  have HB_w : Hid (Below w.heap.size w w) := Below.refl _ _
  obtain ⟨wA, hw_wA⟩ : ∃ wq, wq = w.alloc (.cells #[.slice ao fs.length cap, .int .i64 room, .int .i64 act, .int .i64 seq, .slice ad dir.length cd] 27) := ⟨_, rfl⟩
  have bb_wA : Below w.heap.size w wA := by rw [hw_wA]; exact (Below.refl _ _).alloc (Nat.le_refl _) _
  have hz_wA : w.heap.size + 1 ≤ wA.heap.size := by rw [hw_wA]; simp
  have bA_wA : Hid (wA.heap[w.heap.size]? = some (.cells #[.slice ao fs.length cap, .int .i64 room, .int .i64 act, .int .i64 seq, .slice ad dir.length cd] 27 (0, 0))) := by rw [hw_wA]; exact heap_alloc_new _ _
  have hs_wA : w.heap.size ≤ wA.heap.size := (bb_wA).size
  have HB_wA : Hid (Below w.heap.size w wA) := HB_w.out.trans ((bb_wA).mono HB_w.out.size)
  clear HB_w bb_wA
  obtain ⟨hz0, hz1, hz2, hz3, hz4, -⟩ := five_cells bA_wA.out
  go_enter Tryz.func4, Tryz.ntmps4
  go_wp2_with fail
  rw [← hw_wA]
  clear hw_wA
  go_wp2_with fail
  refine (HSZ.out _ (filesAt_keep HF.out HB_wA.out) (spotsAt_keep HD.out HB_wA.out)).mono ?_
  rintro e w1 ⟨⟨r, rfl, hr, hrle, hrs⟩, b_w1⟩
  have HR := hide hr
  clear hr
  clear hz0 hz1 hz2 hz3 hz4
  have hs_w1 : wA.heap.size ≤ w1.heap.size := (b_w1).size
  have HB_w1 : Hid (Below w.heap.size w w1) := HB_wA.out.trans ((b_w1).mono HB_wA.out.size)
  have bA_w1 : Hid (w1.heap[w.heap.size]? = some (.cells #[.slice ao fs.length cap, .int .i64 room, .int .i64 act, .int .i64 seq, .slice ad dir.length cd] 27 (0, 0))) := blk_below bA_wA.out (b_w1)
  clear HB_wA bA_wA b_w1
  by_cases hneg : r < 0
  · have hneg' : decide (r < 0) = true := by simp; omega
    go_wp2
    go_ret
    exact ⟨rfl, HB_w1.out⟩
  have hneg' : decide (r < 0) = false := by simp; omega
  obtain ⟨hl, hld, hz⟩ := HR.out (by omega)
  have HZ := hide hz
  clear hz HR
  go_wp2_with fail
  refine (szActS_any qs aa capa r _ (by omega) hrle hla0 (actsAt_keep HAS.out HB_w1.out) HSA0.out).mono ?_
  rintro e w1b ⟨rfl, b_w1b⟩
  have hs_w1b : w1.heap.size ≤ w1b.heap.size := (b_w1b).size
  have HB_w1b : Hid (Below w.heap.size w w1b) := HB_w1.out.trans ((b_w1b).mono HB_w1.out.size)
  have bA_w1b : Hid (w1b.heap[w.heap.size]? = some (.cells #[.slice ao fs.length cap, .int .i64 room, .int .i64 act, .int .i64 seq, .slice ad dir.length cd] 27 (0, 0))) := blk_below bA_w1.out (b_w1b)
  clear HB_w1 bA_w1 b_w1b
  obtain ⟨r2, HR2⟩ : ∃ r2 : Int, Hid ((if r < qs.length then -1 else szAs qs (r - qs.length)) = r2) := ⟨_, hide rfl⟩
  rw [HR2.out]
  by_cases hneg2 : r2 < 0
  · have hneg2' : decide (r2 < 0) = true := by simp; omega
    go_wp2
    go_ret
    exact ⟨rfl, HB_w1b.out⟩
  have hneg2' : decide (r2 < 0) = false := by simp; omega
  have hsum : fs.length + dir.length + qs.length ≤ 1048576 := by have h1 := hrs (by omega); have := HR2.out; split at this <;> omega
  have hla : qs.length ≤ 1048576 := by omega
  clear hrs
  have HZA : Hid (∀ A ∈ qs, A.name.size ≤ 1048576 ∧ A.text.size ≤ 1048576 ∧ A.toN.size ≤ 1048576) := by
    have h := HR2.out
    split at h
    · omega
    · exact szAs_small qs (r - qs.length) (by omega) (by omega) (by omega)
  clear HR2
  have HSp : Hid (∀ a d b al2 W, FilesAt W a fs → ActsAt W (some ⟨b, 0, none⟩) qs → IntsAt W al2 ls → Calls Tryz.prog 16 #[.agg #[.slice a fs.length fs.length, .int .i64 room, .int .i64 act, .int .i64 seq, .slice d dir.length dir.length], .slice (some ⟨b, 0, none⟩) qs.length qs.length, .int .i64 wh, .slice al2 ls.length ls.length] W fun e w' => BehPost fs qs wh ls room W e w') := fun a d b al2 W h1 h2 h3 => specBehind_any fs a d fs.length dir.length dir.length room act seq qs b 0 qs.length wh ls al2 ls.length W hl h1 HZ.out hla h2 HZA.out h3 (Nat.le_refl _)
  have HIm : Hid (∀ a d b al2 W, FilesAt W a fs → ActsAt W (some ⟨b, 0, none⟩) qs → IntsAt W al2 ls → SumTab W → Calls Tryz.prog 19 #[.agg #[.slice a fs.length fs.length, .int .i64 room, .int .i64 act, .int .i64 seq, .slice d dir.length dir.length], .slice (some ⟨b, 0, none⟩) qs.length qs.length, .int .i64 wh, .slice al2 ls.length ls.length] W fun e w' => BehPost fs qs wh ls room W e w') := fun a d b al2 W h1 h2 h3 hT => implBehind_any fs a d fs.length dir.length dir.length room act seq qs b 0 qs.length wh ls al2 ls.length W hl h1 HZ.out hla h2 HZA.out h3 (Nat.le_refl _) hT
  have hRl := behFs_len fs qs wh ls room
  have hRd := behDir_len fs qs wh ls room
  unfold BehPost at HSp HIm
  generalize behFs fs qs wh ls room = R at HSp HIm hRl
  generalize behDir fs qs wh ls room = DR at HSp HIm hRd
  generalize behRoom fs qs wh ls room = rR at HSp HIm
  generalize behAct fs qs wh ls room = rA at HSp HIm
  generalize behSeq fs qs wh ls room = rS at HSp HIm
  generalize behOk fs qs wh ls room = ok at HSp HIm
  have hoo : (!(ok == ok)) = false := by simp
  clear HZ HZA
  have hRm : R.length ≤ maxLen := by unfold maxLen; omega
  have hDm : DR.length ≤ maxLen := by unfold maxLen; omega
  obtain ⟨hy0, hy1, hy2, hy3, hy4, -⟩ := five_cells bA_w1b.out
  go_wp2_with fail
  refine (toEngine_row fs ao ad cap cd room act seq dir _ hl (filesAt_keep HF.out HB_w1b.out) hld (spotsAt_keep HD.out HB_w1b.out)).mono ?_
  rintro e w2 ⟨⟨aS, dS, rfl, hfS, hdS⟩, b_w2⟩
  have UrSF : Hid (∀ g, (Value.slice aS fs.length fs.length).ownBlock = some g → w1b.heap.size ≤ g ∧ g < w2.heap.size) := rowF_lt hfS
  have UrSS : Hid (∀ g, (Value.slice dS dir.length dir.length).ownBlock = some g → w1b.heap.size ≤ g ∧ g < w2.heap.size) := rowSpot_lt hdS
  have rSF_w2 := hide hfS
  have rSS_w2 := hide hdS
  clear hfS hdS
  have hs_w2 : w1b.heap.size ≤ w2.heap.size := (b_w2).size
  have HB_w2 : Hid (Below w.heap.size w w2) := HB_w1b.out.trans ((b_w2).mono HB_w1b.out.size)
  have bA_w2 : Hid (w2.heap[w.heap.size]? = some (.cells #[.slice ao fs.length cap, .int .i64 room, .int .i64 act, .int .i64 seq, .slice ad dir.length cd] 27 (0, 0))) := blk_below bA_w1b.out (b_w2)
  clear HB_w1b bA_w1b b_w2
  clear hy0 hy1 hy2 hy3 hy4
  go_wp2_with fail
  refine (toActS_any qs aa capa _ hla (actsAt_keep HAS.out HB_w2.out)).mono ?_
  rintro e w2a ⟨⟨CU, rfl, hCU, hCsU, hIU⟩, b_w2a⟩
  have qU_w2a : Hid (w2a.heap[w2.heap.size]? = some (.cells CU 61 (0, 0))) := hCU
  have IU := hide hIU
  have hglU : w2.heap.size < w2a.heap.size := (Array.getElem?_eq_some_iff.1 hCU).1
  clear hCU hIU
  have hs_w2a : w2.heap.size ≤ w2a.heap.size := (b_w2a).size
  have HB_w2a : Hid (Below w.heap.size w w2a) := HB_w2.out.trans ((b_w2a).mono HB_w2.out.size)
  have bA_w2a : Hid (w2a.heap[w.heap.size]? = some (.cells #[.slice ao fs.length cap, .int .i64 room, .int .i64 act, .int .i64 seq, .slice ad dir.length cd] 27 (0, 0))) := blk_below bA_w2.out (b_w2a)
  have rSF_w2a : Hid (RowF w2a w1b.heap.size (.slice aS fs.length fs.length) fs) := rowF_below rSF_w2.out (b_w2a)
  have rSS_w2a : Hid (RowSpot w2a w1b.heap.size (.slice dS dir.length dir.length) dir) := rowSpot_below rSS_w2.out (b_w2a)
  clear HB_w2 bA_w2 rSF_w2 rSS_w2 b_w2a
  go_wp2_with fail
  refine (toIntS_any ls al capl _ hll (intsAt_keep HLS.out HB_w2a.out)).mono ?_
  rintro e w3 ⟨⟨CT, rfl, hCT, hCsT, hIT⟩, b_w3⟩
  have qT_w3 : Hid (w3.heap[w2a.heap.size]? = some (.cells CT 3 (0, 0))) := hCT
  have IT := hide hIT
  have hglT : w2a.heap.size < w3.heap.size := (Array.getElem?_eq_some_iff.1 hCT).1
  clear hCT hIT
  have hs_w3 : w2a.heap.size ≤ w3.heap.size := (b_w3).size
  have HB_w3 : Hid (Below w.heap.size w w3) := HB_w2a.out.trans ((b_w3).mono HB_w2a.out.size)
  have bA_w3 : Hid (w3.heap[w.heap.size]? = some (.cells #[.slice ao fs.length cap, .int .i64 room, .int .i64 act, .int .i64 seq, .slice ad dir.length cd] 27 (0, 0))) := blk_below bA_w2a.out (b_w3)
  have rSF_w3 : Hid (RowF w3 w1b.heap.size (.slice aS fs.length fs.length) fs) := rowF_below rSF_w2a.out (b_w3)
  have rSS_w3 : Hid (RowSpot w3 w1b.heap.size (.slice dS dir.length dir.length) dir) := rowSpot_below rSS_w2a.out (b_w3)
  have qU_w3 : Hid (w3.heap[w2.heap.size]? = some (.cells CU 61 (0, 0))) := blk_below qU_w2a.out (b_w3)
  clear HB_w2a bA_w2a rSF_w2a rSS_w2a qU_w2a b_w3
  go_wp2_with fail
  refine (HSp.out _ _ _ _ _ (rowF_rowsE rSF_w3.out) (actsAt_own qU_w3.out IU.out) (intsAt_own qT_w3.out IT.out HBL.out)).mono ?_
  clear rSF_w3
  clear rSS_w3
  clear qU_w3
  clear qT_w3
  clear UrSF UrSS IU hCsU hglU IT hCsT hglT
  rintro e w4 ⟨⟨vdW, vrW, rfl, hfW, hdW⟩, b_w4⟩
  obtain ⟨aW, cW, rfl, -⟩ := rowF_at hfW
  obtain ⟨dW, eW, rfl, -⟩ := rowSpot_at hdW
  have UrWF : Hid (∀ g, (Value.slice aW R.length cW).ownBlock = some g → w3.heap.size ≤ g ∧ g < w4.heap.size) := rowF_lt hfW
  have UrWS : Hid (∀ g, (Value.slice dW DR.length eW).ownBlock = some g → w3.heap.size ≤ g ∧ g < w4.heap.size) := rowSpot_lt hdW
  have rWF_w4 := hide hfW
  have rWS_w4 := hide hdW
  clear hfW hdW
  have hs_w4 : w3.heap.size ≤ w4.heap.size := (b_w4).size
  have HB_w4 : Hid (Below w.heap.size w w4) := HB_w3.out.trans ((b_w4).mono HB_w3.out.size)
  have bA_w4 : Hid (w4.heap[w.heap.size]? = some (.cells #[.slice ao fs.length cap, .int .i64 room, .int .i64 act, .int .i64 seq, .slice ad dir.length cd] 27 (0, 0))) := blk_below bA_w3.out (b_w4)
  clear HB_w3 bA_w3 b_w4
  obtain ⟨w5, hw_w5⟩ : ∃ wq, wq = w4.alloc (.cells #[.slice aW R.length cW, .int .i64 rR, .int .i64 rA, .int .i64 rS, .slice dW DR.length eW] 34) := ⟨_, rfl⟩
  have bb_w5 : Below w4.heap.size w4 w5 := by rw [hw_w5]; exact (Below.refl _ _).alloc (Nat.le_refl _) _
  have hz_w5 : w4.heap.size + 1 ≤ w5.heap.size := by rw [hw_w5]; simp
  have bW_w5 : Hid (w5.heap[w4.heap.size]? = some (.cells #[.slice aW R.length cW, .int .i64 rR, .int .i64 rA, .int .i64 rS, .slice dW DR.length eW] 34 (0, 0))) := by rw [hw_w5]; exact heap_alloc_new _ _
  have hs_w5 : w4.heap.size ≤ w5.heap.size := (bb_w5).size
  have HB_w5 : Hid (Below w.heap.size w w5) := HB_w4.out.trans ((bb_w5).mono HB_w4.out.size)
  have bA_w5 : Hid (w5.heap[w.heap.size]? = some (.cells #[.slice ao fs.length cap, .int .i64 room, .int .i64 act, .int .i64 seq, .slice ad dir.length cd] 27 (0, 0))) := blk_below bA_w4.out (bb_w5)
  have rWF_w5 : Hid (RowF w5 w3.heap.size (.slice aW R.length cW) R) := rowF_below rWF_w4.out (bb_w5)
  have rWS_w5 : Hid (RowSpot w5 w3.heap.size (.slice dW DR.length eW) DR) := rowSpot_below rWS_w4.out (bb_w5)
  clear HB_w4 bA_w4 rWF_w4 rWS_w4 bb_w5
  obtain ⟨hy0, hy1, hy2, hy3, hy4, -⟩ := five_cells bA_w5.out
  rw [hw_w5] at hy0 hy1 hy2 hy3 hy4
  go_wp2_with fail
  rw [← hw_w5]
  clear hw_w5
  clear hy0 hy1 hy2 hy3 hy4
  refine (toEngine_row fs ao ad cap cd room act seq dir _ hl (filesAt_keep HF.out HB_w5.out) hld (spotsAt_keep HD.out HB_w5.out)).mono ?_
  rintro e w6 ⟨⟨aX, dX, rfl, hfX, hdX⟩, b_w6⟩
  have UrXF : Hid (∀ g, (Value.slice aX fs.length fs.length).ownBlock = some g → w5.heap.size ≤ g ∧ g < w6.heap.size) := rowF_lt hfX
  have UrXS : Hid (∀ g, (Value.slice dX dir.length dir.length).ownBlock = some g → w5.heap.size ≤ g ∧ g < w6.heap.size) := rowSpot_lt hdX
  have rXF_w6 := hide hfX
  have rXS_w6 := hide hdX
  clear hfX hdX
  have hs_w6 : w5.heap.size ≤ w6.heap.size := (b_w6).size
  have HB_w6 : Hid (Below w.heap.size w w6) := HB_w5.out.trans ((b_w6).mono HB_w5.out.size)
  have bA_w6 : Hid (w6.heap[w.heap.size]? = some (.cells #[.slice ao fs.length cap, .int .i64 room, .int .i64 act, .int .i64 seq, .slice ad dir.length cd] 27 (0, 0))) := blk_below bA_w5.out (b_w6)
  have rWF_w6 : Hid (RowF w6 w3.heap.size (.slice aW R.length cW) R) := rowF_below rWF_w5.out (b_w6)
  have rWS_w6 : Hid (RowSpot w6 w3.heap.size (.slice dW DR.length eW) DR) := rowSpot_below rWS_w5.out (b_w6)
  have bW_w6 : Hid (w6.heap[w4.heap.size]? = some (.cells #[.slice aW R.length cW, .int .i64 rR, .int .i64 rA, .int .i64 rS, .slice dW DR.length eW] 34 (0, 0))) := blk_below bW_w5.out (b_w6)
  clear HB_w5 bA_w5 rWF_w5 rWS_w5 bW_w5 b_w6
  obtain ⟨w7, hw_w7⟩ : ∃ wq, wq = w6.alloc (.cells #[.slice aX fs.length fs.length, .int .i64 room, .int .i64 act, .int .i64 seq, .slice dX dir.length dir.length] 34) := ⟨_, rfl⟩
  have bb_w7 : Below w6.heap.size w6 w7 := by rw [hw_w7]; exact (Below.refl _ _).alloc (Nat.le_refl _) _
  have hz_w7 : w6.heap.size + 1 ≤ w7.heap.size := by rw [hw_w7]; simp
  have bX_w7 : Hid (w7.heap[w6.heap.size]? = some (.cells #[.slice aX fs.length fs.length, .int .i64 room, .int .i64 act, .int .i64 seq, .slice dX dir.length dir.length] 34 (0, 0))) := by rw [hw_w7]; exact heap_alloc_new _ _
  have hs_w7 : w6.heap.size ≤ w7.heap.size := (bb_w7).size
  have HB_w7 : Hid (Below w.heap.size w w7) := HB_w6.out.trans ((bb_w7).mono HB_w6.out.size)
  have bA_w7 : Hid (w7.heap[w.heap.size]? = some (.cells #[.slice ao fs.length cap, .int .i64 room, .int .i64 act, .int .i64 seq, .slice ad dir.length cd] 27 (0, 0))) := blk_below bA_w6.out (bb_w7)
  have rWF_w7 : Hid (RowF w7 w3.heap.size (.slice aW R.length cW) R) := rowF_below rWF_w6.out (bb_w7)
  have rWS_w7 : Hid (RowSpot w7 w3.heap.size (.slice dW DR.length eW) DR) := rowSpot_below rWS_w6.out (bb_w7)
  have bW_w7 : Hid (w7.heap[w4.heap.size]? = some (.cells #[.slice aW R.length cW, .int .i64 rR, .int .i64 rA, .int .i64 rS, .slice dW DR.length eW] 34 (0, 0))) := blk_below bW_w6.out (bb_w7)
  have rXF_w7 : Hid (RowF w7 w5.heap.size (.slice aX fs.length fs.length) fs) := rowF_below rXF_w6.out (bb_w7)
  have rXS_w7 : Hid (RowSpot w7 w5.heap.size (.slice dX dir.length dir.length) dir) := rowSpot_below rXS_w6.out (bb_w7)
  clear HB_w6 bA_w6 rWF_w6 rWS_w6 bW_w6 rXF_w6 rXS_w6 bb_w7
  go_wp2_with fail
  rw [← hw_w7]
  clear hw_w7
  refine (toActS_any qs aa capa _ hla (actsAt_keep HAS.out HB_w7.out)).mono ?_
  rintro e w7a ⟨⟨CN, rfl, hCN, hCsN, hIN⟩, b_w7a⟩
  have qN_w7a : Hid (w7a.heap[w7.heap.size]? = some (.cells CN 61 (0, 0))) := hCN
  have IN := hide hIN
  have hglN : w7.heap.size < w7a.heap.size := (Array.getElem?_eq_some_iff.1 hCN).1
  clear hCN hIN
  have hs_w7a : w7.heap.size ≤ w7a.heap.size := (b_w7a).size
  have HB_w7a : Hid (Below w.heap.size w w7a) := HB_w7.out.trans ((b_w7a).mono HB_w7.out.size)
  have bA_w7a : Hid (w7a.heap[w.heap.size]? = some (.cells #[.slice ao fs.length cap, .int .i64 room, .int .i64 act, .int .i64 seq, .slice ad dir.length cd] 27 (0, 0))) := blk_below bA_w7.out (b_w7a)
  have rWF_w7a : Hid (RowF w7a w3.heap.size (.slice aW R.length cW) R) := rowF_below rWF_w7.out (b_w7a)
  have rWS_w7a : Hid (RowSpot w7a w3.heap.size (.slice dW DR.length eW) DR) := rowSpot_below rWS_w7.out (b_w7a)
  have bW_w7a : Hid (w7a.heap[w4.heap.size]? = some (.cells #[.slice aW R.length cW, .int .i64 rR, .int .i64 rA, .int .i64 rS, .slice dW DR.length eW] 34 (0, 0))) := blk_below bW_w7.out (b_w7a)
  have rXF_w7a : Hid (RowF w7a w5.heap.size (.slice aX fs.length fs.length) fs) := rowF_below rXF_w7.out (b_w7a)
  have rXS_w7a : Hid (RowSpot w7a w5.heap.size (.slice dX dir.length dir.length) dir) := rowSpot_below rXS_w7.out (b_w7a)
  have bX_w7a : Hid (w7a.heap[w6.heap.size]? = some (.cells #[.slice aX fs.length fs.length, .int .i64 room, .int .i64 act, .int .i64 seq, .slice dX dir.length dir.length] 34 (0, 0))) := blk_below bX_w7.out (b_w7a)
  clear HB_w7 bA_w7 rWF_w7 rWS_w7 bW_w7 rXF_w7 rXS_w7 bX_w7 b_w7a
  go_wp2_with fail
  refine (toIntS_any ls al capl _ hll (intsAt_keep HLS.out HB_w7a.out)).mono ?_
  rintro e w8 ⟨⟨CL, rfl, hCL, hCsL, hIL⟩, b_w8⟩
  have qL_w8 : Hid (w8.heap[w7a.heap.size]? = some (.cells CL 3 (0, 0))) := hCL
  have IL := hide hIL
  have hglL : w7a.heap.size < w8.heap.size := (Array.getElem?_eq_some_iff.1 hCL).1
  clear hCL hIL
  have hs_w8 : w7a.heap.size ≤ w8.heap.size := (b_w8).size
  have HB_w8 : Hid (Below w.heap.size w w8) := HB_w7a.out.trans ((b_w8).mono HB_w7a.out.size)
  have bA_w8 : Hid (w8.heap[w.heap.size]? = some (.cells #[.slice ao fs.length cap, .int .i64 room, .int .i64 act, .int .i64 seq, .slice ad dir.length cd] 27 (0, 0))) := blk_below bA_w7a.out (b_w8)
  have rWF_w8 : Hid (RowF w8 w3.heap.size (.slice aW R.length cW) R) := rowF_below rWF_w7a.out (b_w8)
  have rWS_w8 : Hid (RowSpot w8 w3.heap.size (.slice dW DR.length eW) DR) := rowSpot_below rWS_w7a.out (b_w8)
  have bW_w8 : Hid (w8.heap[w4.heap.size]? = some (.cells #[.slice aW R.length cW, .int .i64 rR, .int .i64 rA, .int .i64 rS, .slice dW DR.length eW] 34 (0, 0))) := blk_below bW_w7a.out (b_w8)
  have rXF_w8 : Hid (RowF w8 w5.heap.size (.slice aX fs.length fs.length) fs) := rowF_below rXF_w7a.out (b_w8)
  have rXS_w8 : Hid (RowSpot w8 w5.heap.size (.slice dX dir.length dir.length) dir) := rowSpot_below rXS_w7a.out (b_w8)
  have bX_w8 : Hid (w8.heap[w6.heap.size]? = some (.cells #[.slice aX fs.length fs.length, .int .i64 room, .int .i64 act, .int .i64 seq, .slice dX dir.length dir.length] 34 (0, 0))) := blk_below bX_w7a.out (b_w8)
  have qN_w8 : Hid (w8.heap[w7.heap.size]? = some (.cells CN 61 (0, 0))) := blk_below qN_w7a.out (b_w8)
  clear HB_w7a bA_w7a rWF_w7a rWS_w7a bW_w7a rXF_w7a rXS_w7a bX_w7a qN_w7a b_w8
  obtain ⟨hx0, hx1, hx2, hx3, hx4, -⟩ := five_cells bX_w8.out
  go_wp2_with fail
  refine (HIm.out _ _ _ _ _ (rowF_rowsE rXF_w8.out) (actsAt_own qN_w8.out IN.out) (intsAt_own qL_w8.out IL.out HBL.out) (sumTab_later HB_w8.out HT.out)).mono ?_
  clear hx0 hx1 hx2 hx3 hx4
  rintro e w9 ⟨⟨vdG, vrG, rfl, hfG, hdG⟩, b_w9⟩
  obtain ⟨aG, cG, rfl, -⟩ := rowF_at hfG
  obtain ⟨dG, eG, rfl, -⟩ := rowSpot_at hdG
  have UrGF : Hid (∀ g, (Value.slice aG R.length cG).ownBlock = some g → w8.heap.size ≤ g ∧ g < w9.heap.size) := rowF_lt hfG
  have UrGS : Hid (∀ g, (Value.slice dG DR.length eG).ownBlock = some g → w8.heap.size ≤ g ∧ g < w9.heap.size) := rowSpot_lt hdG
  have rGF_w9 := hide hfG
  have rGS_w9 := hide hdG
  clear hfG hdG
  have hs_w9 : w8.heap.size ≤ w9.heap.size := (b_w9).size
  have HB_w9 : Hid (Below w.heap.size w w9) := HB_w8.out.trans ((b_w9).mono HB_w8.out.size)
  have bA_w9 : Hid (w9.heap[w.heap.size]? = some (.cells #[.slice ao fs.length cap, .int .i64 room, .int .i64 act, .int .i64 seq, .slice ad dir.length cd] 27 (0, 0))) := blk_below bA_w8.out (b_w9)
  have rWF_w9 : Hid (RowF w9 w3.heap.size (.slice aW R.length cW) R) := rowF_below rWF_w8.out (b_w9)
  have rWS_w9 : Hid (RowSpot w9 w3.heap.size (.slice dW DR.length eW) DR) := rowSpot_below rWS_w8.out (b_w9)
  have bW_w9 : Hid (w9.heap[w4.heap.size]? = some (.cells #[.slice aW R.length cW, .int .i64 rR, .int .i64 rA, .int .i64 rS, .slice dW DR.length eW] 34 (0, 0))) := blk_below bW_w8.out (b_w9)
  have rXF_w9 : Hid (RowF w9 w5.heap.size (.slice aX fs.length fs.length) fs) := rowF_below rXF_w8.out (b_w9)
  have rXS_w9 : Hid (RowSpot w9 w5.heap.size (.slice dX dir.length dir.length) dir) := rowSpot_below rXS_w8.out (b_w9)
  have bX_w9 : Hid (w9.heap[w6.heap.size]? = some (.cells #[.slice aX fs.length fs.length, .int .i64 room, .int .i64 act, .int .i64 seq, .slice dX dir.length dir.length] 34 (0, 0))) := blk_below bX_w8.out (b_w9)
  have qN_w9 : Hid (w9.heap[w7.heap.size]? = some (.cells CN 61 (0, 0))) := blk_below qN_w8.out (b_w9)
  have qL_w9 : Hid (w9.heap[w7a.heap.size]? = some (.cells CL 3 (0, 0))) := blk_below qL_w8.out (b_w9)
  clear HB_w8 bA_w8 rWF_w8 rWS_w8 bW_w8 rXF_w8 rXS_w8 bX_w8 qN_w8 qL_w8 b_w9
  obtain ⟨w10, hw_w10⟩ : ∃ wq, wq = w9.alloc (.cells #[.slice aG R.length cG, .int .i64 rR, .int .i64 rA, .int .i64 rS, .slice dG DR.length eG] 34) := ⟨_, rfl⟩
  have bb_w10 : Below w9.heap.size w9 w10 := by rw [hw_w10]; exact (Below.refl _ _).alloc (Nat.le_refl _) _
  have hz_w10 : w9.heap.size + 1 ≤ w10.heap.size := by rw [hw_w10]; simp
  have bG_w10 : Hid (w10.heap[w9.heap.size]? = some (.cells #[.slice aG R.length cG, .int .i64 rR, .int .i64 rA, .int .i64 rS, .slice dG DR.length eG] 34 (0, 0))) := by rw [hw_w10]; exact heap_alloc_new _ _
  have hs_w10 : w9.heap.size ≤ w10.heap.size := (bb_w10).size
  have HB_w10 : Hid (Below w.heap.size w w10) := HB_w9.out.trans ((bb_w10).mono HB_w9.out.size)
  have bA_w10 : Hid (w10.heap[w.heap.size]? = some (.cells #[.slice ao fs.length cap, .int .i64 room, .int .i64 act, .int .i64 seq, .slice ad dir.length cd] 27 (0, 0))) := blk_below bA_w9.out (bb_w10)
  have rWF_w10 : Hid (RowF w10 w3.heap.size (.slice aW R.length cW) R) := rowF_below rWF_w9.out (bb_w10)
  have rWS_w10 : Hid (RowSpot w10 w3.heap.size (.slice dW DR.length eW) DR) := rowSpot_below rWS_w9.out (bb_w10)
  have bW_w10 : Hid (w10.heap[w4.heap.size]? = some (.cells #[.slice aW R.length cW, .int .i64 rR, .int .i64 rA, .int .i64 rS, .slice dW DR.length eW] 34 (0, 0))) := blk_below bW_w9.out (bb_w10)
  have rXF_w10 : Hid (RowF w10 w5.heap.size (.slice aX fs.length fs.length) fs) := rowF_below rXF_w9.out (bb_w10)
  have rXS_w10 : Hid (RowSpot w10 w5.heap.size (.slice dX dir.length dir.length) dir) := rowSpot_below rXS_w9.out (bb_w10)
  have bX_w10 : Hid (w10.heap[w6.heap.size]? = some (.cells #[.slice aX fs.length fs.length, .int .i64 room, .int .i64 act, .int .i64 seq, .slice dX dir.length dir.length] 34 (0, 0))) := blk_below bX_w9.out (bb_w10)
  have qN_w10 : Hid (w10.heap[w7.heap.size]? = some (.cells CN 61 (0, 0))) := blk_below qN_w9.out (bb_w10)
  have qL_w10 : Hid (w10.heap[w7a.heap.size]? = some (.cells CL 3 (0, 0))) := blk_below qL_w9.out (bb_w10)
  have rGF_w10 : Hid (RowF w10 w8.heap.size (.slice aG R.length cG) R) := rowF_below rGF_w9.out (bb_w10)
  have rGS_w10 : Hid (RowSpot w10 w8.heap.size (.slice dG DR.length eG) DR) := rowSpot_below rGS_w9.out (bb_w10)
  clear HB_w9 bA_w9 rWF_w9 rWS_w9 bW_w9 rXF_w9 rXS_w9 bX_w9 qN_w9 qL_w9 rGF_w9 rGS_w9 bb_w10
  obtain ⟨hv0, hv1, hv2, hv3, hv4, -⟩ := five_cells bW_w10.out
  rw [hw_w10] at hv0 hv1 hv2 hv3 hv4
  go_wp2_with fail
  rw [← hw_w10]
  clear hw_w10
  clear hv0 hv1 hv2 hv3 hv4
  refine (eqEngine_same R _ _ _ _ _ _ _ _ rR rA rS DR _ hRm (rowF_rowsE rGF_w10.out) (rowF_rowsE rWF_w10.out) hDm (rowSpot_rows rGS_w10.out) (rowSpot_rows rWS_w10.out)).mono ?_
  rintro e w11 ⟨rfl, b_w11⟩
  have hs_w11 : w10.heap.size ≤ w11.heap.size := (b_w11).size
  have HB_w11 : Hid (Below w.heap.size w w11) := HB_w10.out.trans ((b_w11).mono HB_w10.out.size)
  have bA_w11 : Hid (w11.heap[w.heap.size]? = some (.cells #[.slice ao fs.length cap, .int .i64 room, .int .i64 act, .int .i64 seq, .slice ad dir.length cd] 27 (0, 0))) := blk_below bA_w10.out (b_w11)
  have rWF_w11 : Hid (RowF w11 w3.heap.size (.slice aW R.length cW) R) := rowF_below rWF_w10.out (b_w11)
  have rWS_w11 : Hid (RowSpot w11 w3.heap.size (.slice dW DR.length eW) DR) := rowSpot_below rWS_w10.out (b_w11)
  have bW_w11 : Hid (w11.heap[w4.heap.size]? = some (.cells #[.slice aW R.length cW, .int .i64 rR, .int .i64 rA, .int .i64 rS, .slice dW DR.length eW] 34 (0, 0))) := blk_below bW_w10.out (b_w11)
  have rXF_w11 : Hid (RowF w11 w5.heap.size (.slice aX fs.length fs.length) fs) := rowF_below rXF_w10.out (b_w11)
  have rXS_w11 : Hid (RowSpot w11 w5.heap.size (.slice dX dir.length dir.length) dir) := rowSpot_below rXS_w10.out (b_w11)
  have bX_w11 : Hid (w11.heap[w6.heap.size]? = some (.cells #[.slice aX fs.length fs.length, .int .i64 room, .int .i64 act, .int .i64 seq, .slice dX dir.length dir.length] 34 (0, 0))) := blk_below bX_w10.out (b_w11)
  have qN_w11 : Hid (w11.heap[w7.heap.size]? = some (.cells CN 61 (0, 0))) := blk_below qN_w10.out (b_w11)
  have qL_w11 : Hid (w11.heap[w7a.heap.size]? = some (.cells CL 3 (0, 0))) := blk_below qL_w10.out (b_w11)
  have rGF_w11 : Hid (RowF w11 w8.heap.size (.slice aG R.length cG) R) := rowF_below rGF_w10.out (b_w11)
  have rGS_w11 : Hid (RowSpot w11 w8.heap.size (.slice dG DR.length eG) DR) := rowSpot_below rGS_w10.out (b_w11)
  have bG_w11 : Hid (w11.heap[w9.heap.size]? = some (.cells #[.slice aG R.length cG, .int .i64 rR, .int .i64 rA, .int .i64 rS, .slice dG DR.length eG] 34 (0, 0))) := blk_below bG_w10.out (b_w11)
  clear HB_w10 bA_w10 rWF_w10 rWS_w10 bW_w10 rXF_w10 rXS_w10 bX_w10 qN_w10 qL_w10 rGF_w10 rGS_w10 bG_w10 b_w11
  obtain ⟨hy0, hy1, hy2, hy3, hy4, -⟩ := five_cells bA_w11.out
  obtain ⟨hv0, hv1, hv2, hv3, hv4, -⟩ := five_cells bX_w11.out
  have hzA : w.heap.size < w11.heap.size := by omega
  have hzX : w6.heap.size < w11.heap.size := by omega
  have KS : Hid (∀ X, Below w11.heap.size w11 X → (X.cell? ⟨w.heap.size, 0, none⟩ = some (.slice ao fs.length cap) ∧ X.cell? ⟨w.heap.size, 1, none⟩ = some (.int .i64 room) ∧ X.cell? ⟨w.heap.size, 2, none⟩ = some (.int .i64 act) ∧ X.cell? ⟨w.heap.size, 3, none⟩ = some (.int .i64 seq) ∧ X.cell? ⟨w.heap.size, 4, none⟩ = some (.slice ad dir.length cd) ∧ X.cell? ⟨w6.heap.size, 0, none⟩ = some (.slice aX fs.length fs.length) ∧ X.cell? ⟨w6.heap.size, 1, none⟩ = some (.int .i64 room) ∧ X.cell? ⟨w6.heap.size, 2, none⟩ = some (.int .i64 act) ∧ X.cell? ⟨w6.heap.size, 3, none⟩ = some (.int .i64 seq) ∧ X.cell? ⟨w6.heap.size, 4, none⟩ = some (.slice dX dir.length dir.length))) := fun X hX => ⟨(hX.cell (p := ⟨w.heap.size, 0, none⟩) hzA).trans hy0, (hX.cell (p := ⟨w.heap.size, 1, none⟩) hzA).trans hy1, (hX.cell (p := ⟨w.heap.size, 2, none⟩) hzA).trans hy2, (hX.cell (p := ⟨w.heap.size, 3, none⟩) hzA).trans hy3, (hX.cell (p := ⟨w.heap.size, 4, none⟩) hzA).trans hy4, (hX.cell (p := ⟨w6.heap.size, 0, none⟩) hzX).trans hv0, (hX.cell (p := ⟨w6.heap.size, 1, none⟩) hzX).trans hv1, (hX.cell (p := ⟨w6.heap.size, 2, none⟩) hzX).trans hv2, (hX.cell (p := ⟨w6.heap.size, 3, none⟩) hzX).trans hv3, (hX.cell (p := ⟨w6.heap.size, 4, none⟩) hzX).trans hv4⟩
  have HTE : Hid (∀ X, Below w11.heap.size w11 X → Calls Tryz.prog 7 #[.agg #[.slice ao fs.length cap, .int .i64 room, .int .i64 act, .int .i64 seq, .slice ad dir.length cd]] X fun e w' => (∃ a1 a2 : Option Addr, e = .returned (.agg #[.slice a1 fs.length fs.length, .int .i64 room, .int .i64 act, .int .i64 seq, .slice a2 dir.length dir.length]) ∧ FilesAt w' a1 fs ∧ SpotsAt w' a2 dir) ∧ Below X.heap.size X w') := fun X hX => toEngine_any fs ao ad cap cd room act seq dir X hl (filesAt_keep HF.out (HB_w11.out.trans (hX.mono HB_w11.out.size))) hld (spotsAt_keep HD.out (HB_w11.out.trans (hX.mono HB_w11.out.size)))
  have HFX := hide (rowF_rowsE rXF_w11.out)
  have HDX := hide (rowSpot_rows rXS_w11.out)
  go_wp2_with fail
  go_region_held3 (fun w' => w'.cell? ⟨w.heap.size, 0, none⟩ = some (.slice ao fs.length cap) ∧ w'.cell? ⟨w.heap.size, 1, none⟩ = some (.int .i64 room) ∧ w'.cell? ⟨w.heap.size, 2, none⟩ = some (.int .i64 act) ∧ w'.cell? ⟨w.heap.size, 3, none⟩ = some (.int .i64 seq) ∧ w'.cell? ⟨w.heap.size, 4, none⟩ = some (.slice ad dir.length cd) ∧ w'.cell? ⟨w6.heap.size, 0, none⟩ = some (.slice aX fs.length fs.length) ∧ w'.cell? ⟨w6.heap.size, 1, none⟩ = some (.int .i64 room) ∧ w'.cell? ⟨w6.heap.size, 2, none⟩ = some (.int .i64 act) ∧ w'.cell? ⟨w6.heap.size, 3, none⟩ = some (.int .i64 seq) ∧ w'.cell? ⟨w6.heap.size, 4, none⟩ = some (.slice dX dir.length dir.length)) ((refine KS.out _ ?_; first | (exact e13) | (exact e12) | (exact (Below.refl _ _).drew) | fail)) ((first | (go_at_call 7; refine (HTE.out _ ?_).mono ?_; exact (Below.refl _ _).drew; rintro e w12 ⟨⟨a12, d12, rfl, hf12, hd12⟩, b12⟩; have e12 : Below w11.heap.size w11 w12 := ((Below.refl _ _).drew).trans b12) | (go_at_call 9; refine (eqEngine_same fs _ _ _ _ _ _ _ _ room act seq dir _ hl0 (filesAt_keep HFX.out e12) hf12 hld0 (spotsAt_keep HDX.out e12) hd12).mono ?_; rintro e w13 ⟨rfl, b13⟩; have e13 : Below w11.heap.size w11 w13 := e12.trans (b13.mono e12.size))))
  clear e12 b13 b12 hf12 hd12 KS HTE HFX HDX hzA hzX
  clear hy0 hy1 hy2 hy3 hy4 hv0 hv1 hv2 hv3 hv4
  have hs_w13 : w11.heap.size ≤ w13.heap.size := (e13).size
  have HB_w13 : Hid (Below w.heap.size w w13) := HB_w11.out.trans ((e13).mono HB_w11.out.size)
  have bA_w13 : Hid (w13.heap[w.heap.size]? = some (.cells #[.slice ao fs.length cap, .int .i64 room, .int .i64 act, .int .i64 seq, .slice ad dir.length cd] 27 (0, 0))) := blk_below bA_w11.out (e13)
  have rWF_w13 : Hid (RowF w13 w3.heap.size (.slice aW R.length cW) R) := rowF_below rWF_w11.out (e13)
  have rWS_w13 : Hid (RowSpot w13 w3.heap.size (.slice dW DR.length eW) DR) := rowSpot_below rWS_w11.out (e13)
  have bW_w13 : Hid (w13.heap[w4.heap.size]? = some (.cells #[.slice aW R.length cW, .int .i64 rR, .int .i64 rA, .int .i64 rS, .slice dW DR.length eW] 34 (0, 0))) := blk_below bW_w11.out (e13)
  have rXF_w13 : Hid (RowF w13 w5.heap.size (.slice aX fs.length fs.length) fs) := rowF_below rXF_w11.out (e13)
  have rXS_w13 : Hid (RowSpot w13 w5.heap.size (.slice dX dir.length dir.length) dir) := rowSpot_below rXS_w11.out (e13)
  have bX_w13 : Hid (w13.heap[w6.heap.size]? = some (.cells #[.slice aX fs.length fs.length, .int .i64 room, .int .i64 act, .int .i64 seq, .slice dX dir.length dir.length] 34 (0, 0))) := blk_below bX_w11.out (e13)
  have qN_w13 : Hid (w13.heap[w7.heap.size]? = some (.cells CN 61 (0, 0))) := blk_below qN_w11.out (e13)
  have qL_w13 : Hid (w13.heap[w7a.heap.size]? = some (.cells CL 3 (0, 0))) := blk_below qL_w11.out (e13)
  have rGF_w13 : Hid (RowF w13 w8.heap.size (.slice aG R.length cG) R) := rowF_below rGF_w11.out (e13)
  have rGS_w13 : Hid (RowSpot w13 w8.heap.size (.slice dG DR.length eG) DR) := rowSpot_below rGS_w11.out (e13)
  have bG_w13 : Hid (w13.heap[w9.heap.size]? = some (.cells #[.slice aG R.length cG, .int .i64 rR, .int .i64 rA, .int .i64 rS, .slice dG DR.length eG] 34 (0, 0))) := blk_below bG_w11.out (e13)
  clear HB_w11 bA_w11 rWF_w11 rWS_w11 bW_w11 rXF_w11 rXS_w11 bX_w11 qN_w11 qL_w11 rGF_w11 rGS_w11 bG_w11 e13
  go_wp2_with fail
  refine (toActS_any qs aa capa _ hla (actsAt_keep HAS.out HB_w13.out)).mono ?_
  rintro e w13a ⟨⟨CJ, rfl, hCJ, hCsJ, hIJ⟩, b_w13a⟩
  have qJ_w13a : Hid (w13a.heap[w13.heap.size]? = some (.cells CJ 61 (0, 0))) := hCJ
  have IJ := hide hIJ
  have hglJ : w13.heap.size < w13a.heap.size := (Array.getElem?_eq_some_iff.1 hCJ).1
  clear hCJ hIJ
  have hs_w13a : w13.heap.size ≤ w13a.heap.size := (b_w13a).size
  have HB_w13a : Hid (Below w.heap.size w w13a) := HB_w13.out.trans ((b_w13a).mono HB_w13.out.size)
  have bA_w13a : Hid (w13a.heap[w.heap.size]? = some (.cells #[.slice ao fs.length cap, .int .i64 room, .int .i64 act, .int .i64 seq, .slice ad dir.length cd] 27 (0, 0))) := blk_below bA_w13.out (b_w13a)
  have rWF_w13a : Hid (RowF w13a w3.heap.size (.slice aW R.length cW) R) := rowF_below rWF_w13.out (b_w13a)
  have rWS_w13a : Hid (RowSpot w13a w3.heap.size (.slice dW DR.length eW) DR) := rowSpot_below rWS_w13.out (b_w13a)
  have bW_w13a : Hid (w13a.heap[w4.heap.size]? = some (.cells #[.slice aW R.length cW, .int .i64 rR, .int .i64 rA, .int .i64 rS, .slice dW DR.length eW] 34 (0, 0))) := blk_below bW_w13.out (b_w13a)
  have rXF_w13a : Hid (RowF w13a w5.heap.size (.slice aX fs.length fs.length) fs) := rowF_below rXF_w13.out (b_w13a)
  have rXS_w13a : Hid (RowSpot w13a w5.heap.size (.slice dX dir.length dir.length) dir) := rowSpot_below rXS_w13.out (b_w13a)
  have bX_w13a : Hid (w13a.heap[w6.heap.size]? = some (.cells #[.slice aX fs.length fs.length, .int .i64 room, .int .i64 act, .int .i64 seq, .slice dX dir.length dir.length] 34 (0, 0))) := blk_below bX_w13.out (b_w13a)
  have qN_w13a : Hid (w13a.heap[w7.heap.size]? = some (.cells CN 61 (0, 0))) := blk_below qN_w13.out (b_w13a)
  have qL_w13a : Hid (w13a.heap[w7a.heap.size]? = some (.cells CL 3 (0, 0))) := blk_below qL_w13.out (b_w13a)
  have rGF_w13a : Hid (RowF w13a w8.heap.size (.slice aG R.length cG) R) := rowF_below rGF_w13.out (b_w13a)
  have rGS_w13a : Hid (RowSpot w13a w8.heap.size (.slice dG DR.length eG) DR) := rowSpot_below rGS_w13.out (b_w13a)
  have bG_w13a : Hid (w13a.heap[w9.heap.size]? = some (.cells #[.slice aG R.length cG, .int .i64 rR, .int .i64 rA, .int .i64 rS, .slice dG DR.length eG] 34 (0, 0))) := blk_below bG_w13.out (b_w13a)
  clear HB_w13 bA_w13 rWF_w13 rWS_w13 bW_w13 rXF_w13 rXS_w13 bX_w13 qN_w13 qL_w13 rGF_w13 rGS_w13 bG_w13 b_w13a
  go_wp2_with fail
  refine (eqActS_same qs _ _ _ _ _ (small_max hla) (actsAt_own qN_w13a.out IN.out) (actsAt_own qJ_w13a.out IJ.out)).mono ?_
  rintro e w13b ⟨rfl, b_w13b⟩
  clear qJ_w13a
  clear IJ hCsJ hglJ
  have hs_w13b : w13a.heap.size ≤ w13b.heap.size := (b_w13b).size
  have HB_w13b : Hid (Below w.heap.size w w13b) := HB_w13a.out.trans ((b_w13b).mono HB_w13a.out.size)
  have bA_w13b : Hid (w13b.heap[w.heap.size]? = some (.cells #[.slice ao fs.length cap, .int .i64 room, .int .i64 act, .int .i64 seq, .slice ad dir.length cd] 27 (0, 0))) := blk_below bA_w13a.out (b_w13b)
  have rWF_w13b : Hid (RowF w13b w3.heap.size (.slice aW R.length cW) R) := rowF_below rWF_w13a.out (b_w13b)
  have rWS_w13b : Hid (RowSpot w13b w3.heap.size (.slice dW DR.length eW) DR) := rowSpot_below rWS_w13a.out (b_w13b)
  have bW_w13b : Hid (w13b.heap[w4.heap.size]? = some (.cells #[.slice aW R.length cW, .int .i64 rR, .int .i64 rA, .int .i64 rS, .slice dW DR.length eW] 34 (0, 0))) := blk_below bW_w13a.out (b_w13b)
  have rXF_w13b : Hid (RowF w13b w5.heap.size (.slice aX fs.length fs.length) fs) := rowF_below rXF_w13a.out (b_w13b)
  have rXS_w13b : Hid (RowSpot w13b w5.heap.size (.slice dX dir.length dir.length) dir) := rowSpot_below rXS_w13a.out (b_w13b)
  have bX_w13b : Hid (w13b.heap[w6.heap.size]? = some (.cells #[.slice aX fs.length fs.length, .int .i64 room, .int .i64 act, .int .i64 seq, .slice dX dir.length dir.length] 34 (0, 0))) := blk_below bX_w13a.out (b_w13b)
  have qN_w13b : Hid (w13b.heap[w7.heap.size]? = some (.cells CN 61 (0, 0))) := blk_below qN_w13a.out (b_w13b)
  have qL_w13b : Hid (w13b.heap[w7a.heap.size]? = some (.cells CL 3 (0, 0))) := blk_below qL_w13a.out (b_w13b)
  have rGF_w13b : Hid (RowF w13b w8.heap.size (.slice aG R.length cG) R) := rowF_below rGF_w13a.out (b_w13b)
  have rGS_w13b : Hid (RowSpot w13b w8.heap.size (.slice dG DR.length eG) DR) := rowSpot_below rGS_w13a.out (b_w13b)
  have bG_w13b : Hid (w13b.heap[w9.heap.size]? = some (.cells #[.slice aG R.length cG, .int .i64 rR, .int .i64 rA, .int .i64 rS, .slice dG DR.length eG] 34 (0, 0))) := blk_below bG_w13a.out (b_w13b)
  clear HB_w13a bA_w13a rWF_w13a rWS_w13a bW_w13a rXF_w13a rXS_w13a bX_w13a qN_w13a qL_w13a rGF_w13a rGS_w13a bG_w13a b_w13b
  go_wp2_with fail
  refine (toIntS_any ls al capl _ hll (intsAt_keep HLS.out HB_w13b.out)).mono ?_
  rintro e w14 ⟨⟨CE, rfl, hCE, hCsE, hIE⟩, b_w14⟩
  have qE_w14 : Hid (w14.heap[w13b.heap.size]? = some (.cells CE 3 (0, 0))) := hCE
  have IE := hide hIE
  have hglE : w13b.heap.size < w14.heap.size := (Array.getElem?_eq_some_iff.1 hCE).1
  clear hCE hIE
  have hs_w14 : w13b.heap.size ≤ w14.heap.size := (b_w14).size
  have HB_w14 : Hid (Below w.heap.size w w14) := HB_w13b.out.trans ((b_w14).mono HB_w13b.out.size)
  have bA_w14 : Hid (w14.heap[w.heap.size]? = some (.cells #[.slice ao fs.length cap, .int .i64 room, .int .i64 act, .int .i64 seq, .slice ad dir.length cd] 27 (0, 0))) := blk_below bA_w13b.out (b_w14)
  have rWF_w14 : Hid (RowF w14 w3.heap.size (.slice aW R.length cW) R) := rowF_below rWF_w13b.out (b_w14)
  have rWS_w14 : Hid (RowSpot w14 w3.heap.size (.slice dW DR.length eW) DR) := rowSpot_below rWS_w13b.out (b_w14)
  have bW_w14 : Hid (w14.heap[w4.heap.size]? = some (.cells #[.slice aW R.length cW, .int .i64 rR, .int .i64 rA, .int .i64 rS, .slice dW DR.length eW] 34 (0, 0))) := blk_below bW_w13b.out (b_w14)
  have rXF_w14 : Hid (RowF w14 w5.heap.size (.slice aX fs.length fs.length) fs) := rowF_below rXF_w13b.out (b_w14)
  have rXS_w14 : Hid (RowSpot w14 w5.heap.size (.slice dX dir.length dir.length) dir) := rowSpot_below rXS_w13b.out (b_w14)
  have bX_w14 : Hid (w14.heap[w6.heap.size]? = some (.cells #[.slice aX fs.length fs.length, .int .i64 room, .int .i64 act, .int .i64 seq, .slice dX dir.length dir.length] 34 (0, 0))) := blk_below bX_w13b.out (b_w14)
  have qN_w14 : Hid (w14.heap[w7.heap.size]? = some (.cells CN 61 (0, 0))) := blk_below qN_w13b.out (b_w14)
  have qL_w14 : Hid (w14.heap[w7a.heap.size]? = some (.cells CL 3 (0, 0))) := blk_below qL_w13b.out (b_w14)
  have rGF_w14 : Hid (RowF w14 w8.heap.size (.slice aG R.length cG) R) := rowF_below rGF_w13b.out (b_w14)
  have rGS_w14 : Hid (RowSpot w14 w8.heap.size (.slice dG DR.length eG) DR) := rowSpot_below rGS_w13b.out (b_w14)
  have bG_w14 : Hid (w14.heap[w9.heap.size]? = some (.cells #[.slice aG R.length cG, .int .i64 rR, .int .i64 rA, .int .i64 rS, .slice dG DR.length eG] 34 (0, 0))) := blk_below bG_w13b.out (b_w14)
  clear HB_w13b bA_w13b rWF_w13b rWS_w13b bW_w13b rXF_w13b rXS_w13b bX_w13b qN_w13b qL_w13b rGF_w13b rGS_w13b bG_w13b b_w14
  go_wp2_with fail
  refine (eqIntS_same ls _ _ _ _ _ hll (intsAt_own qL_w14.out IL.out HBL.out) (intsAt_own qE_w14.out IE.out HBL.out)).mono ?_
  rintro e w15 ⟨rfl, b_w15⟩
  clear qE_w14
  clear IE hCsE hglE
  have hs_w15 : w14.heap.size ≤ w15.heap.size := (b_w15).size
  have HB_w15 : Hid (Below w.heap.size w w15) := HB_w14.out.trans ((b_w15).mono HB_w14.out.size)
  have bA_w15 : Hid (w15.heap[w.heap.size]? = some (.cells #[.slice ao fs.length cap, .int .i64 room, .int .i64 act, .int .i64 seq, .slice ad dir.length cd] 27 (0, 0))) := blk_below bA_w14.out (b_w15)
  have rWF_w15 : Hid (RowF w15 w3.heap.size (.slice aW R.length cW) R) := rowF_below rWF_w14.out (b_w15)
  have rWS_w15 : Hid (RowSpot w15 w3.heap.size (.slice dW DR.length eW) DR) := rowSpot_below rWS_w14.out (b_w15)
  have bW_w15 : Hid (w15.heap[w4.heap.size]? = some (.cells #[.slice aW R.length cW, .int .i64 rR, .int .i64 rA, .int .i64 rS, .slice dW DR.length eW] 34 (0, 0))) := blk_below bW_w14.out (b_w15)
  have rXF_w15 : Hid (RowF w15 w5.heap.size (.slice aX fs.length fs.length) fs) := rowF_below rXF_w14.out (b_w15)
  have rXS_w15 : Hid (RowSpot w15 w5.heap.size (.slice dX dir.length dir.length) dir) := rowSpot_below rXS_w14.out (b_w15)
  have bX_w15 : Hid (w15.heap[w6.heap.size]? = some (.cells #[.slice aX fs.length fs.length, .int .i64 room, .int .i64 act, .int .i64 seq, .slice dX dir.length dir.length] 34 (0, 0))) := blk_below bX_w14.out (b_w15)
  have qN_w15 : Hid (w15.heap[w7.heap.size]? = some (.cells CN 61 (0, 0))) := blk_below qN_w14.out (b_w15)
  have qL_w15 : Hid (w15.heap[w7a.heap.size]? = some (.cells CL 3 (0, 0))) := blk_below qL_w14.out (b_w15)
  have rGF_w15 : Hid (RowF w15 w8.heap.size (.slice aG R.length cG) R) := rowF_below rGF_w14.out (b_w15)
  have rGS_w15 : Hid (RowSpot w15 w8.heap.size (.slice dG DR.length eG) DR) := rowSpot_below rGS_w14.out (b_w15)
  have bG_w15 : Hid (w15.heap[w9.heap.size]? = some (.cells #[.slice aG R.length cG, .int .i64 rR, .int .i64 rA, .int .i64 rS, .slice dG DR.length eG] 34 (0, 0))) := blk_below bG_w14.out (b_w15)
  clear HB_w14 bA_w14 rWF_w14 rWS_w14 bW_w14 rXF_w14 rXS_w14 bX_w14 qN_w14 qL_w14 rGF_w14 rGS_w14 bG_w14 b_w15
  obtain ⟨hx0, hx1, hx2, hx3, hx4, -⟩ := five_cells bX_w15.out
  go_wp2_with fail
  refine (markEngine_own _ _ fs dir room act seq w5.heap.size 1 _ hl hld (by omega) (by omega) (by omega) rXF_w15.out rXS_w15.out).mono ?_
  rintro e w16 ⟨rfl, -, -, hbm, hxm⟩
  clear hx0 hx1 hx2 hx3 hx4
  have hs_w16 : w15.heap.size ≤ w16.heap.size := (hbm).size
  have HB_w16 : Hid (Below w.heap.size w w16) := HB_w15.out.trans ((hbm).mono (by omega))
  have bA_w16 : Hid (w16.heap[w.heap.size]? = some (.cells #[.slice ao fs.length cap, .int .i64 room, .int .i64 act, .int .i64 seq, .slice ad dir.length cd] 27 (0, 0))) := (hxm w.heap.size (by omega) (fun e => by have h1 := UrXF.out _ e; omega) (fun e => by have h1 := UrXS.out _ e; omega)).trans bA_w15.out
  have rWF_w16 : Hid (RowF w16 w3.heap.size (.slice aW R.length cW) R) := rowF_keep rWF_w15.out (fun x hx => hxm x (by have h0 := UrWF.out x hx; omega) (fun e => by have h0 := UrWF.out x hx; have h1 := UrXF.out _ e; omega) (fun e => by have h0 := UrWF.out x hx; have h1 := UrXS.out _ e; omega))
  have rWS_w16 : Hid (RowSpot w16 w3.heap.size (.slice dW DR.length eW) DR) := rowSpot_keep rWS_w15.out (fun x hx => hxm x (by have h0 := UrWS.out x hx; omega) (fun e => by have h0 := UrWS.out x hx; have h1 := UrXF.out _ e; omega) (fun e => by have h0 := UrWS.out x hx; have h1 := UrXS.out _ e; omega))
  have bW_w16 : Hid (w16.heap[w4.heap.size]? = some (.cells #[.slice aW R.length cW, .int .i64 rR, .int .i64 rA, .int .i64 rS, .slice dW DR.length eW] 34 (0, 0))) := (hxm w4.heap.size (by omega) (fun e => by have h1 := UrXF.out _ e; omega) (fun e => by have h1 := UrXS.out _ e; omega)).trans bW_w15.out
  have bX_w16 : Hid (w16.heap[w6.heap.size]? = some (.cells #[.slice aX fs.length fs.length, .int .i64 room, .int .i64 act, .int .i64 seq, .slice dX dir.length dir.length] 34 (0, 0))) := (hxm w6.heap.size (by omega) (fun e => by have h1 := UrXF.out _ e; omega) (fun e => by have h1 := UrXS.out _ e; omega)).trans bX_w15.out
  have qN_w16 : Hid (w16.heap[w7.heap.size]? = some (.cells CN 61 (0, 0))) := (hxm w7.heap.size (by omega) (fun e => by have h1 := UrXF.out _ e; omega) (fun e => by have h1 := UrXS.out _ e; omega)).trans qN_w15.out
  have qL_w16 : Hid (w16.heap[w7a.heap.size]? = some (.cells CL 3 (0, 0))) := (hxm w7a.heap.size (by omega) (fun e => by have h1 := UrXF.out _ e; omega) (fun e => by have h1 := UrXS.out _ e; omega)).trans qL_w15.out
  have rGF_w16 : Hid (RowF w16 w8.heap.size (.slice aG R.length cG) R) := rowF_keep rGF_w15.out (fun x hx => hxm x (by have h0 := UrGF.out x hx; omega) (fun e => by have h0 := UrGF.out x hx; have h1 := UrXF.out _ e; omega) (fun e => by have h0 := UrGF.out x hx; have h1 := UrXS.out _ e; omega))
  have rGS_w16 : Hid (RowSpot w16 w8.heap.size (.slice dG DR.length eG) DR) := rowSpot_keep rGS_w15.out (fun x hx => hxm x (by have h0 := UrGS.out x hx; omega) (fun e => by have h0 := UrGS.out x hx; have h1 := UrXF.out _ e; omega) (fun e => by have h0 := UrGS.out x hx; have h1 := UrXS.out _ e; omega))
  have bG_w16 : Hid (w16.heap[w9.heap.size]? = some (.cells #[.slice aG R.length cG, .int .i64 rR, .int .i64 rA, .int .i64 rS, .slice dG DR.length eG] 34 (0, 0))) := (hxm w9.heap.size (by omega) (fun e => by have h1 := UrXF.out _ e; omega) (fun e => by have h1 := UrXS.out _ e; omega)).trans bG_w15.out
  clear HB_w15 bA_w15 rWF_w15 rWS_w15 bW_w15 rXF_w15 rXS_w15 bX_w15 qN_w15 qL_w15 rGF_w15 rGS_w15 bG_w15
  clear hbm hxm UrXF UrXS
  go_wp2_with fail
  refine (markActS_row w7.heap.size _ qs.length CN (1 + 3 * fs.length + 4 * dir.length) _ hla (by omega) (by omega) qN_w16.out (by omega)).mono ?_
  rintro e w16a ⟨rfl, _, hgr⟩
  have hs_w16a : w16.heap.size ≤ w16a.heap.size := (hgr).size
  have HB_w16a : Hid (Below w.heap.size w w16a) := HB_w16.out.grown (hgr) (by have := HB_w16.out.size; omega) (fun j hj => by cases hj; omega)
  have bA_w16a : Hid (w16a.heap[w.heap.size]? = some (.cells #[.slice ao fs.length cap, .int .i64 room, .int .i64 act, .int .i64 seq, .slice ad dir.length cd] 27 (0, 0))) := ((hgr).block w.heap.size (by omega) (fun e => by have h1 := Option.some.inj e; omega)).trans bA_w16.out
  have rWF_w16a : Hid (RowF w16a w3.heap.size (.slice aW R.length cW) R) := rowF_keep rWF_w16.out (fun x hx => (hgr).block x (by have h0 := UrWF.out x hx; omega) (fun e => by have h0 := UrWF.out x hx; have h1 := Option.some.inj e; omega))
  have rWS_w16a : Hid (RowSpot w16a w3.heap.size (.slice dW DR.length eW) DR) := rowSpot_keep rWS_w16.out (fun x hx => (hgr).block x (by have h0 := UrWS.out x hx; omega) (fun e => by have h0 := UrWS.out x hx; have h1 := Option.some.inj e; omega))
  have bW_w16a : Hid (w16a.heap[w4.heap.size]? = some (.cells #[.slice aW R.length cW, .int .i64 rR, .int .i64 rA, .int .i64 rS, .slice dW DR.length eW] 34 (0, 0))) := ((hgr).block w4.heap.size (by omega) (fun e => by have h1 := Option.some.inj e; omega)).trans bW_w16.out
  have bX_w16a : Hid (w16a.heap[w6.heap.size]? = some (.cells #[.slice aX fs.length fs.length, .int .i64 room, .int .i64 act, .int .i64 seq, .slice dX dir.length dir.length] 34 (0, 0))) := ((hgr).block w6.heap.size (by omega) (fun e => by have h1 := Option.some.inj e; omega)).trans bX_w16.out
  have qL_w16a : Hid (w16a.heap[w7a.heap.size]? = some (.cells CL 3 (0, 0))) := ((hgr).block w7a.heap.size (by omega) (fun e => by have h1 := Option.some.inj e; omega)).trans qL_w16.out
  have rGF_w16a : Hid (RowF w16a w8.heap.size (.slice aG R.length cG) R) := rowF_keep rGF_w16.out (fun x hx => (hgr).block x (by have h0 := UrGF.out x hx; omega) (fun e => by have h0 := UrGF.out x hx; have h1 := Option.some.inj e; omega))
  have rGS_w16a : Hid (RowSpot w16a w8.heap.size (.slice dG DR.length eG) DR) := rowSpot_keep rGS_w16.out (fun x hx => (hgr).block x (by have h0 := UrGS.out x hx; omega) (fun e => by have h0 := UrGS.out x hx; have h1 := Option.some.inj e; omega))
  have bG_w16a : Hid (w16a.heap[w9.heap.size]? = some (.cells #[.slice aG R.length cG, .int .i64 rR, .int .i64 rA, .int .i64 rS, .slice dG DR.length eG] 34 (0, 0))) := ((hgr).block w9.heap.size (by omega) (fun e => by have h1 := Option.some.inj e; omega)).trans bG_w16.out
  clear HB_w16 bA_w16 rWF_w16 rWS_w16 bW_w16 bX_w16 qN_w16 qL_w16 rGF_w16 rGS_w16 bG_w16
  clear hgr IN
  go_wp2_with fail
  refine (markIntS_row w7a.heap.size _ ls.length CL (1 + 3 * fs.length + 4 * dir.length + 4 * qs.length) _ hll (by omega) qL_w16a.out (by omega)).mono ?_
  rintro e w17 ⟨rfl, hgr⟩
  have hs_w17 : w16a.heap.size ≤ w17.heap.size := (hgr).size
  have HB_w17 : Hid (Below w.heap.size w w17) := HB_w16a.out.grown (hgr) (by have := HB_w16a.out.size; omega) (fun j hj => by cases hj; omega)
  have bA_w17 : Hid (w17.heap[w.heap.size]? = some (.cells #[.slice ao fs.length cap, .int .i64 room, .int .i64 act, .int .i64 seq, .slice ad dir.length cd] 27 (0, 0))) := ((hgr).block w.heap.size (by omega) (fun e => by have h1 := Option.some.inj e; omega)).trans bA_w16a.out
  have rWF_w17 : Hid (RowF w17 w3.heap.size (.slice aW R.length cW) R) := rowF_keep rWF_w16a.out (fun x hx => (hgr).block x (by have h0 := UrWF.out x hx; omega) (fun e => by have h0 := UrWF.out x hx; have h1 := Option.some.inj e; omega))
  have rWS_w17 : Hid (RowSpot w17 w3.heap.size (.slice dW DR.length eW) DR) := rowSpot_keep rWS_w16a.out (fun x hx => (hgr).block x (by have h0 := UrWS.out x hx; omega) (fun e => by have h0 := UrWS.out x hx; have h1 := Option.some.inj e; omega))
  have bW_w17 : Hid (w17.heap[w4.heap.size]? = some (.cells #[.slice aW R.length cW, .int .i64 rR, .int .i64 rA, .int .i64 rS, .slice dW DR.length eW] 34 (0, 0))) := ((hgr).block w4.heap.size (by omega) (fun e => by have h1 := Option.some.inj e; omega)).trans bW_w16a.out
  have bX_w17 : Hid (w17.heap[w6.heap.size]? = some (.cells #[.slice aX fs.length fs.length, .int .i64 room, .int .i64 act, .int .i64 seq, .slice dX dir.length dir.length] 34 (0, 0))) := ((hgr).block w6.heap.size (by omega) (fun e => by have h1 := Option.some.inj e; omega)).trans bX_w16a.out
  have rGF_w17 : Hid (RowF w17 w8.heap.size (.slice aG R.length cG) R) := rowF_keep rGF_w16a.out (fun x hx => (hgr).block x (by have h0 := UrGF.out x hx; omega) (fun e => by have h0 := UrGF.out x hx; have h1 := Option.some.inj e; omega))
  have rGS_w17 : Hid (RowSpot w17 w8.heap.size (.slice dG DR.length eG) DR) := rowSpot_keep rGS_w16a.out (fun x hx => (hgr).block x (by have h0 := UrGS.out x hx; omega) (fun e => by have h0 := UrGS.out x hx; have h1 := Option.some.inj e; omega))
  have bG_w17 : Hid (w17.heap[w9.heap.size]? = some (.cells #[.slice aG R.length cG, .int .i64 rR, .int .i64 rA, .int .i64 rS, .slice dG DR.length eG] 34 (0, 0))) := ((hgr).block w9.heap.size (by omega) (fun e => by have h1 := Option.some.inj e; omega)).trans bG_w16a.out
  clear HB_w16a bA_w16a rWF_w16a rWS_w16a bW_w16a bX_w16a qL_w16a rGF_w16a rGS_w16a bG_w16a
  clear hgr IL
  have hk0 : decide (((1 + 3 * fs.length + 4 * dir.length + 4 * qs.length + ls.length : Nat) : Int) < 0) = false := by simp; omega
  obtain ⟨hg0, hg1, hg2, hg3, hg4, -⟩ := five_cells bG_w17.out
  obtain ⟨hv0, hv1, hv2, hv3, hv4, -⟩ := five_cells bW_w17.out
  go_wp2_with fail
  clear hg0 hg1 hg2 hg3 hg4 hv0 hv1 hv2 hv3 hv4
  refine (eqEngine_same R _ _ _ _ _ _ _ _ rR rA rS DR _ hRm (rowF_rowsE rGF_w17.out) (rowF_rowsE rWF_w17.out) hDm (rowSpot_rows rGS_w17.out) (rowSpot_rows rWS_w17.out)).mono ?_
  rintro e w18 ⟨rfl, b_w18⟩
  have hs_w18 : w17.heap.size ≤ w18.heap.size := (b_w18).size
  have HB_w18 : Hid (Below w.heap.size w w18) := HB_w17.out.trans ((b_w18).mono HB_w17.out.size)
  have bA_w18 : Hid (w18.heap[w.heap.size]? = some (.cells #[.slice ao fs.length cap, .int .i64 room, .int .i64 act, .int .i64 seq, .slice ad dir.length cd] 27 (0, 0))) := blk_below bA_w17.out (b_w18)
  have rWF_w18 : Hid (RowF w18 w3.heap.size (.slice aW R.length cW) R) := rowF_below rWF_w17.out (b_w18)
  have rWS_w18 : Hid (RowSpot w18 w3.heap.size (.slice dW DR.length eW) DR) := rowSpot_below rWS_w17.out (b_w18)
  have bW_w18 : Hid (w18.heap[w4.heap.size]? = some (.cells #[.slice aW R.length cW, .int .i64 rR, .int .i64 rA, .int .i64 rS, .slice dW DR.length eW] 34 (0, 0))) := blk_below bW_w17.out (b_w18)
  have bX_w18 : Hid (w18.heap[w6.heap.size]? = some (.cells #[.slice aX fs.length fs.length, .int .i64 room, .int .i64 act, .int .i64 seq, .slice dX dir.length dir.length] 34 (0, 0))) := blk_below bX_w17.out (b_w18)
  have rGF_w18 : Hid (RowF w18 w8.heap.size (.slice aG R.length cG) R) := rowF_below rGF_w17.out (b_w18)
  have rGS_w18 : Hid (RowSpot w18 w8.heap.size (.slice dG DR.length eG) DR) := rowSpot_below rGS_w17.out (b_w18)
  have bG_w18 : Hid (w18.heap[w9.heap.size]? = some (.cells #[.slice aG R.length cG, .int .i64 rR, .int .i64 rA, .int .i64 rS, .slice dG DR.length eG] 34 (0, 0))) := blk_below bG_w17.out (b_w18)
  clear HB_w17 bA_w17 rWF_w17 rWS_w17 bW_w17 bX_w17 rGF_w17 rGS_w17 bG_w17 b_w18
  obtain ⟨mm, HMM⟩ : ∃ mm : Int, Hid (((1 + 3 * R.length + 4 * DR.length : Nat) : Int) = mm) := ⟨_, hide rfl⟩
  have hmm0 : decide (mm < 0) = false := by have := HMM.out; simp; omega
  have hmm1 : (!(mm == mm)) = false := by simp
  obtain ⟨hg0, hg1, hg2, hg3, hg4, -⟩ := five_cells bG_w18.out
  go_wp2_with fail
  refine (markEngine_own _ _ R DR rR rA rS w8.heap.size 1 _ hRl hRd (by omega) (by omega) (by omega) rGF_w18.out rGS_w18.out).mono ?_
  rintro e w19 ⟨rfl, hm1, hm2, hbm, hxm⟩
  rw [HMM.out]
  have rMF_w19 := hide hm1
  have rMS_w19 := hide hm2
  clear hm1 hm2
  clear hg0 hg1 hg2 hg3 hg4
  have hs_w19 : w18.heap.size ≤ w19.heap.size := (hbm).size
  have HB_w19 : Hid (Below w.heap.size w w19) := HB_w18.out.trans ((hbm).mono (by omega))
  have bA_w19 : Hid (w19.heap[w.heap.size]? = some (.cells #[.slice ao fs.length cap, .int .i64 room, .int .i64 act, .int .i64 seq, .slice ad dir.length cd] 27 (0, 0))) := (hxm w.heap.size (by omega) (fun e => by have h1 := UrGF.out _ e; omega) (fun e => by have h1 := UrGS.out _ e; omega)).trans bA_w18.out
  have rWF_w19 : Hid (RowF w19 w3.heap.size (.slice aW R.length cW) R) := rowF_keep rWF_w18.out (fun x hx => hxm x (by have h0 := UrWF.out x hx; omega) (fun e => by have h0 := UrWF.out x hx; have h1 := UrGF.out _ e; omega) (fun e => by have h0 := UrWF.out x hx; have h1 := UrGS.out _ e; omega))
  have rWS_w19 : Hid (RowSpot w19 w3.heap.size (.slice dW DR.length eW) DR) := rowSpot_keep rWS_w18.out (fun x hx => hxm x (by have h0 := UrWS.out x hx; omega) (fun e => by have h0 := UrWS.out x hx; have h1 := UrGF.out _ e; omega) (fun e => by have h0 := UrWS.out x hx; have h1 := UrGS.out _ e; omega))
  have bW_w19 : Hid (w19.heap[w4.heap.size]? = some (.cells #[.slice aW R.length cW, .int .i64 rR, .int .i64 rA, .int .i64 rS, .slice dW DR.length eW] 34 (0, 0))) := (hxm w4.heap.size (by omega) (fun e => by have h1 := UrGF.out _ e; omega) (fun e => by have h1 := UrGS.out _ e; omega)).trans bW_w18.out
  have bX_w19 : Hid (w19.heap[w6.heap.size]? = some (.cells #[.slice aX fs.length fs.length, .int .i64 room, .int .i64 act, .int .i64 seq, .slice dX dir.length dir.length] 34 (0, 0))) := (hxm w6.heap.size (by omega) (fun e => by have h1 := UrGF.out _ e; omega) (fun e => by have h1 := UrGS.out _ e; omega)).trans bX_w18.out
  have bG_w19 : Hid (w19.heap[w9.heap.size]? = some (.cells #[.slice aG R.length cG, .int .i64 rR, .int .i64 rA, .int .i64 rS, .slice dG DR.length eG] 34 (0, 0))) := (hxm w9.heap.size (by omega) (fun e => by have h1 := UrGF.out _ e; omega) (fun e => by have h1 := UrGS.out _ e; omega)).trans bG_w18.out
  clear HB_w18 bA_w18 rWF_w18 rWS_w18 bW_w18 bX_w18 rGF_w18 rGS_w18 bG_w18
  clear hbm hxm
  have UrMF := UrGF
  have UrMS := UrGS
  obtain ⟨hg0, hg1, hg2, hg3, hg4, -⟩ := five_cells bG_w19.out
  go_wp2_with fail
  refine (heldEngine_own _ _ R.length DR.length rR rA rS w8.heap.size 1 _ hRl hRd (by omega) (by omega) rMF_w19.out rMS_w19.out).mono ?_
  rintro e w20 ⟨rfl, b_w20⟩
  rw [HMM.out]
  clear hg0 hg1 hg2 hg3 hg4
  have hs_w20 : w19.heap.size ≤ w20.heap.size := (b_w20).size
  have HB_w20 : Hid (Below w.heap.size w w20) := HB_w19.out.trans ((b_w20).mono HB_w19.out.size)
  have bA_w20 : Hid (w20.heap[w.heap.size]? = some (.cells #[.slice ao fs.length cap, .int .i64 room, .int .i64 act, .int .i64 seq, .slice ad dir.length cd] 27 (0, 0))) := blk_below bA_w19.out (b_w20)
  have rWF_w20 : Hid (RowF w20 w3.heap.size (.slice aW R.length cW) R) := rowF_below rWF_w19.out (b_w20)
  have rWS_w20 : Hid (RowSpot w20 w3.heap.size (.slice dW DR.length eW) DR) := rowSpot_below rWS_w19.out (b_w20)
  have bW_w20 : Hid (w20.heap[w4.heap.size]? = some (.cells #[.slice aW R.length cW, .int .i64 rR, .int .i64 rA, .int .i64 rS, .slice dW DR.length eW] 34 (0, 0))) := blk_below bW_w19.out (b_w20)
  have bX_w20 : Hid (w20.heap[w6.heap.size]? = some (.cells #[.slice aX fs.length fs.length, .int .i64 room, .int .i64 act, .int .i64 seq, .slice dX dir.length dir.length] 34 (0, 0))) := blk_below bX_w19.out (b_w20)
  have bG_w20 : Hid (w20.heap[w9.heap.size]? = some (.cells #[.slice aG R.length cG, .int .i64 rR, .int .i64 rA, .int .i64 rS, .slice dG DR.length eG] 34 (0, 0))) := blk_below bG_w19.out (b_w20)
  have rMF_w20 : Hid (RowF w20 w8.heap.size (.slice aG R.length cG) (marksF 1 R.length)) := rowF_below rMF_w19.out (b_w20)
  have rMS_w20 : Hid (RowSpot w20 w8.heap.size (.slice dG DR.length eG) (markSpotDs (1 + 3 * R.length) DR.length)) := rowSpot_below rMS_w19.out (b_w20)
  clear HB_w19 bA_w19 rWF_w19 rWS_w19 bW_w19 bX_w19 bG_w19 rMF_w19 rMS_w19 b_w20
  obtain ⟨hy0, hy1, hy2, hy3, hy4, -⟩ := five_cells bA_w20.out
  go_wp2_with fail
  refine (toEngine_row fs ao ad cap cd room act seq dir _ hl (filesAt_keep HF.out HB_w20.out) hld (spotsAt_keep HD.out HB_w20.out)).mono ?_
  rintro e w21 ⟨⟨aY, dY, rfl, hfY, hdY⟩, b_w21⟩
  have UrYF : Hid (∀ g, (Value.slice aY fs.length fs.length).ownBlock = some g → w20.heap.size ≤ g ∧ g < w21.heap.size) := rowF_lt hfY
  have UrYS : Hid (∀ g, (Value.slice dY dir.length dir.length).ownBlock = some g → w20.heap.size ≤ g ∧ g < w21.heap.size) := rowSpot_lt hdY
  have rYF_w21 := hide hfY
  have rYS_w21 := hide hdY
  clear hfY hdY
  have hs_w21 : w20.heap.size ≤ w21.heap.size := (b_w21).size
  have HB_w21 : Hid (Below w.heap.size w w21) := HB_w20.out.trans ((b_w21).mono HB_w20.out.size)
  have bA_w21 : Hid (w21.heap[w.heap.size]? = some (.cells #[.slice ao fs.length cap, .int .i64 room, .int .i64 act, .int .i64 seq, .slice ad dir.length cd] 27 (0, 0))) := blk_below bA_w20.out (b_w21)
  have rWF_w21 : Hid (RowF w21 w3.heap.size (.slice aW R.length cW) R) := rowF_below rWF_w20.out (b_w21)
  have rWS_w21 : Hid (RowSpot w21 w3.heap.size (.slice dW DR.length eW) DR) := rowSpot_below rWS_w20.out (b_w21)
  have bW_w21 : Hid (w21.heap[w4.heap.size]? = some (.cells #[.slice aW R.length cW, .int .i64 rR, .int .i64 rA, .int .i64 rS, .slice dW DR.length eW] 34 (0, 0))) := blk_below bW_w20.out (b_w21)
  have bX_w21 : Hid (w21.heap[w6.heap.size]? = some (.cells #[.slice aX fs.length fs.length, .int .i64 room, .int .i64 act, .int .i64 seq, .slice dX dir.length dir.length] 34 (0, 0))) := blk_below bX_w20.out (b_w21)
  have bG_w21 : Hid (w21.heap[w9.heap.size]? = some (.cells #[.slice aG R.length cG, .int .i64 rR, .int .i64 rA, .int .i64 rS, .slice dG DR.length eG] 34 (0, 0))) := blk_below bG_w20.out (b_w21)
  have rMF_w21 : Hid (RowF w21 w8.heap.size (.slice aG R.length cG) (marksF 1 R.length)) := rowF_below rMF_w20.out (b_w21)
  have rMS_w21 : Hid (RowSpot w21 w8.heap.size (.slice dG DR.length eG) (markSpotDs (1 + 3 * R.length) DR.length)) := rowSpot_below rMS_w20.out (b_w21)
  clear HB_w20 bA_w20 rWF_w20 rWS_w20 bW_w20 bX_w20 bG_w20 rMF_w20 rMS_w20 b_w21
  clear hy0 hy1 hy2 hy3 hy4
  go_wp2_with fail
  refine (toActS_any qs aa capa _ hla (actsAt_keep HAS.out HB_w21.out)).mono ?_
  rintro e w21a ⟨⟨CP, rfl, hCP, hCsP, hIP⟩, b_w21a⟩
  have qP_w21a : Hid (w21a.heap[w21.heap.size]? = some (.cells CP 61 (0, 0))) := hCP
  have IP := hide hIP
  have hglP : w21.heap.size < w21a.heap.size := (Array.getElem?_eq_some_iff.1 hCP).1
  clear hCP hIP
  have hs_w21a : w21.heap.size ≤ w21a.heap.size := (b_w21a).size
  have HB_w21a : Hid (Below w.heap.size w w21a) := HB_w21.out.trans ((b_w21a).mono HB_w21.out.size)
  have bA_w21a : Hid (w21a.heap[w.heap.size]? = some (.cells #[.slice ao fs.length cap, .int .i64 room, .int .i64 act, .int .i64 seq, .slice ad dir.length cd] 27 (0, 0))) := blk_below bA_w21.out (b_w21a)
  have rWF_w21a : Hid (RowF w21a w3.heap.size (.slice aW R.length cW) R) := rowF_below rWF_w21.out (b_w21a)
  have rWS_w21a : Hid (RowSpot w21a w3.heap.size (.slice dW DR.length eW) DR) := rowSpot_below rWS_w21.out (b_w21a)
  have bW_w21a : Hid (w21a.heap[w4.heap.size]? = some (.cells #[.slice aW R.length cW, .int .i64 rR, .int .i64 rA, .int .i64 rS, .slice dW DR.length eW] 34 (0, 0))) := blk_below bW_w21.out (b_w21a)
  have bX_w21a : Hid (w21a.heap[w6.heap.size]? = some (.cells #[.slice aX fs.length fs.length, .int .i64 room, .int .i64 act, .int .i64 seq, .slice dX dir.length dir.length] 34 (0, 0))) := blk_below bX_w21.out (b_w21a)
  have bG_w21a : Hid (w21a.heap[w9.heap.size]? = some (.cells #[.slice aG R.length cG, .int .i64 rR, .int .i64 rA, .int .i64 rS, .slice dG DR.length eG] 34 (0, 0))) := blk_below bG_w21.out (b_w21a)
  have rMF_w21a : Hid (RowF w21a w8.heap.size (.slice aG R.length cG) (marksF 1 R.length)) := rowF_below rMF_w21.out (b_w21a)
  have rMS_w21a : Hid (RowSpot w21a w8.heap.size (.slice dG DR.length eG) (markSpotDs (1 + 3 * R.length) DR.length)) := rowSpot_below rMS_w21.out (b_w21a)
  have rYF_w21a : Hid (RowF w21a w20.heap.size (.slice aY fs.length fs.length) fs) := rowF_below rYF_w21.out (b_w21a)
  have rYS_w21a : Hid (RowSpot w21a w20.heap.size (.slice dY dir.length dir.length) dir) := rowSpot_below rYS_w21.out (b_w21a)
  clear HB_w21 bA_w21 rWF_w21 rWS_w21 bW_w21 bX_w21 bG_w21 rMF_w21 rMS_w21 rYF_w21 rYS_w21 b_w21a
  go_wp2_with fail
  refine (toIntS_any ls al capl _ hll (intsAt_keep HLS.out HB_w21a.out)).mono ?_
  rintro e w22 ⟨⟨CZ, rfl, hCZ, hCsZ, hIZ⟩, b_w22⟩
  have qZ_w22 : Hid (w22.heap[w21a.heap.size]? = some (.cells CZ 3 (0, 0))) := hCZ
  have IZ := hide hIZ
  have hglZ : w21a.heap.size < w22.heap.size := (Array.getElem?_eq_some_iff.1 hCZ).1
  clear hCZ hIZ
  have hs_w22 : w21a.heap.size ≤ w22.heap.size := (b_w22).size
  have HB_w22 : Hid (Below w.heap.size w w22) := HB_w21a.out.trans ((b_w22).mono HB_w21a.out.size)
  have bA_w22 : Hid (w22.heap[w.heap.size]? = some (.cells #[.slice ao fs.length cap, .int .i64 room, .int .i64 act, .int .i64 seq, .slice ad dir.length cd] 27 (0, 0))) := blk_below bA_w21a.out (b_w22)
  have rWF_w22 : Hid (RowF w22 w3.heap.size (.slice aW R.length cW) R) := rowF_below rWF_w21a.out (b_w22)
  have rWS_w22 : Hid (RowSpot w22 w3.heap.size (.slice dW DR.length eW) DR) := rowSpot_below rWS_w21a.out (b_w22)
  have bW_w22 : Hid (w22.heap[w4.heap.size]? = some (.cells #[.slice aW R.length cW, .int .i64 rR, .int .i64 rA, .int .i64 rS, .slice dW DR.length eW] 34 (0, 0))) := blk_below bW_w21a.out (b_w22)
  have bX_w22 : Hid (w22.heap[w6.heap.size]? = some (.cells #[.slice aX fs.length fs.length, .int .i64 room, .int .i64 act, .int .i64 seq, .slice dX dir.length dir.length] 34 (0, 0))) := blk_below bX_w21a.out (b_w22)
  have bG_w22 : Hid (w22.heap[w9.heap.size]? = some (.cells #[.slice aG R.length cG, .int .i64 rR, .int .i64 rA, .int .i64 rS, .slice dG DR.length eG] 34 (0, 0))) := blk_below bG_w21a.out (b_w22)
  have rMF_w22 : Hid (RowF w22 w8.heap.size (.slice aG R.length cG) (marksF 1 R.length)) := rowF_below rMF_w21a.out (b_w22)
  have rMS_w22 : Hid (RowSpot w22 w8.heap.size (.slice dG DR.length eG) (markSpotDs (1 + 3 * R.length) DR.length)) := rowSpot_below rMS_w21a.out (b_w22)
  have rYF_w22 : Hid (RowF w22 w20.heap.size (.slice aY fs.length fs.length) fs) := rowF_below rYF_w21a.out (b_w22)
  have rYS_w22 : Hid (RowSpot w22 w20.heap.size (.slice dY dir.length dir.length) dir) := rowSpot_below rYS_w21a.out (b_w22)
  have qP_w22 : Hid (w22.heap[w21.heap.size]? = some (.cells CP 61 (0, 0))) := blk_below qP_w21a.out (b_w22)
  clear HB_w21a bA_w21a rWF_w21a rWS_w21a bW_w21a bX_w21a bG_w21a rMF_w21a rMS_w21a rYF_w21a rYS_w21a qP_w21a b_w22
  go_wp2_with fail
  refine (HIm.out _ _ _ _ _ (rowF_rowsE rYF_w22.out) (actsAt_own qP_w22.out IP.out) (intsAt_own qZ_w22.out IZ.out HBL.out) (sumTab_later HB_w22.out HT.out)).mono ?_
  clear rYF_w22
  clear rYS_w22
  clear qP_w22
  clear qZ_w22
  clear UrYF UrYS IP hCsP hglP IZ hCsZ hglZ
  rintro e w23 ⟨⟨vdH, vrH, rfl, hfH, hdH⟩, b_w23⟩
  obtain ⟨aH, cH, rfl, -⟩ := rowF_at hfH
  obtain ⟨dH, eH, rfl, -⟩ := rowSpot_at hdH
  have UrHF : Hid (∀ g, (Value.slice aH R.length cH).ownBlock = some g → w22.heap.size ≤ g ∧ g < w23.heap.size) := rowF_lt hfH
  have UrHS : Hid (∀ g, (Value.slice dH DR.length eH).ownBlock = some g → w22.heap.size ≤ g ∧ g < w23.heap.size) := rowSpot_lt hdH
  have rHF_w23 := hide hfH
  have rHS_w23 := hide hdH
  clear hfH hdH
  have hs_w23 : w22.heap.size ≤ w23.heap.size := (b_w23).size
  have HB_w23 : Hid (Below w.heap.size w w23) := HB_w22.out.trans ((b_w23).mono HB_w22.out.size)
  have bA_w23 : Hid (w23.heap[w.heap.size]? = some (.cells #[.slice ao fs.length cap, .int .i64 room, .int .i64 act, .int .i64 seq, .slice ad dir.length cd] 27 (0, 0))) := blk_below bA_w22.out (b_w23)
  have rWF_w23 : Hid (RowF w23 w3.heap.size (.slice aW R.length cW) R) := rowF_below rWF_w22.out (b_w23)
  have rWS_w23 : Hid (RowSpot w23 w3.heap.size (.slice dW DR.length eW) DR) := rowSpot_below rWS_w22.out (b_w23)
  have bW_w23 : Hid (w23.heap[w4.heap.size]? = some (.cells #[.slice aW R.length cW, .int .i64 rR, .int .i64 rA, .int .i64 rS, .slice dW DR.length eW] 34 (0, 0))) := blk_below bW_w22.out (b_w23)
  have bX_w23 : Hid (w23.heap[w6.heap.size]? = some (.cells #[.slice aX fs.length fs.length, .int .i64 room, .int .i64 act, .int .i64 seq, .slice dX dir.length dir.length] 34 (0, 0))) := blk_below bX_w22.out (b_w23)
  have bG_w23 : Hid (w23.heap[w9.heap.size]? = some (.cells #[.slice aG R.length cG, .int .i64 rR, .int .i64 rA, .int .i64 rS, .slice dG DR.length eG] 34 (0, 0))) := blk_below bG_w22.out (b_w23)
  have rMF_w23 : Hid (RowF w23 w8.heap.size (.slice aG R.length cG) (marksF 1 R.length)) := rowF_below rMF_w22.out (b_w23)
  have rMS_w23 : Hid (RowSpot w23 w8.heap.size (.slice dG DR.length eG) (markSpotDs (1 + 3 * R.length) DR.length)) := rowSpot_below rMS_w22.out (b_w23)
  clear HB_w22 bA_w22 rWF_w22 rWS_w22 bW_w22 bX_w22 bG_w22 rMF_w22 rMS_w22 b_w23
  obtain ⟨w24, hw_w24⟩ : ∃ wq, wq = w23.alloc (.cells #[.slice aH R.length cH, .int .i64 rR, .int .i64 rA, .int .i64 rS, .slice dH DR.length eH] 34) := ⟨_, rfl⟩
  have bb_w24 : Below w23.heap.size w23 w24 := by rw [hw_w24]; exact (Below.refl _ _).alloc (Nat.le_refl _) _
  have hz_w24 : w23.heap.size + 1 ≤ w24.heap.size := by rw [hw_w24]; simp
  have bH_w24 : Hid (w24.heap[w23.heap.size]? = some (.cells #[.slice aH R.length cH, .int .i64 rR, .int .i64 rA, .int .i64 rS, .slice dH DR.length eH] 34 (0, 0))) := by rw [hw_w24]; exact heap_alloc_new _ _
  have hs_w24 : w23.heap.size ≤ w24.heap.size := (bb_w24).size
  have HB_w24 : Hid (Below w.heap.size w w24) := HB_w23.out.trans ((bb_w24).mono HB_w23.out.size)
  have bA_w24 : Hid (w24.heap[w.heap.size]? = some (.cells #[.slice ao fs.length cap, .int .i64 room, .int .i64 act, .int .i64 seq, .slice ad dir.length cd] 27 (0, 0))) := blk_below bA_w23.out (bb_w24)
  have rWF_w24 : Hid (RowF w24 w3.heap.size (.slice aW R.length cW) R) := rowF_below rWF_w23.out (bb_w24)
  have rWS_w24 : Hid (RowSpot w24 w3.heap.size (.slice dW DR.length eW) DR) := rowSpot_below rWS_w23.out (bb_w24)
  have bW_w24 : Hid (w24.heap[w4.heap.size]? = some (.cells #[.slice aW R.length cW, .int .i64 rR, .int .i64 rA, .int .i64 rS, .slice dW DR.length eW] 34 (0, 0))) := blk_below bW_w23.out (bb_w24)
  have bX_w24 : Hid (w24.heap[w6.heap.size]? = some (.cells #[.slice aX fs.length fs.length, .int .i64 room, .int .i64 act, .int .i64 seq, .slice dX dir.length dir.length] 34 (0, 0))) := blk_below bX_w23.out (bb_w24)
  have bG_w24 : Hid (w24.heap[w9.heap.size]? = some (.cells #[.slice aG R.length cG, .int .i64 rR, .int .i64 rA, .int .i64 rS, .slice dG DR.length eG] 34 (0, 0))) := blk_below bG_w23.out (bb_w24)
  have rMF_w24 : Hid (RowF w24 w8.heap.size (.slice aG R.length cG) (marksF 1 R.length)) := rowF_below rMF_w23.out (bb_w24)
  have rMS_w24 : Hid (RowSpot w24 w8.heap.size (.slice dG DR.length eG) (markSpotDs (1 + 3 * R.length) DR.length)) := rowSpot_below rMS_w23.out (bb_w24)
  have rHF_w24 : Hid (RowF w24 w22.heap.size (.slice aH R.length cH) R) := rowF_below rHF_w23.out (bb_w24)
  have rHS_w24 : Hid (RowSpot w24 w22.heap.size (.slice dH DR.length eH) DR) := rowSpot_below rHS_w23.out (bb_w24)
  clear HB_w23 bA_w23 rWF_w23 rWS_w23 bW_w23 bX_w23 bG_w23 rMF_w23 rMS_w23 rHF_w23 rHS_w23 bb_w24
  obtain ⟨hv0, hv1, hv2, hv3, hv4, -⟩ := five_cells bW_w24.out
  rw [hw_w24] at hv0 hv1 hv2 hv3 hv4
  go_wp2_with fail
  rw [← hw_w24]
  clear hw_w24
  clear hv0 hv1 hv2 hv3 hv4
  refine (eqEngine_same R _ _ _ _ _ _ _ _ rR rA rS DR _ hRm (rowF_rowsE rHF_w24.out) (rowF_rowsE rWF_w24.out) hDm (rowSpot_rows rHS_w24.out) (rowSpot_rows rWS_w24.out)).mono ?_
  rintro e w25 ⟨rfl, b_w25⟩
  have hs_w25 : w24.heap.size ≤ w25.heap.size := (b_w25).size
  have HB_w25 : Hid (Below w.heap.size w w25) := HB_w24.out.trans ((b_w25).mono HB_w24.out.size)
  have bA_w25 : Hid (w25.heap[w.heap.size]? = some (.cells #[.slice ao fs.length cap, .int .i64 room, .int .i64 act, .int .i64 seq, .slice ad dir.length cd] 27 (0, 0))) := blk_below bA_w24.out (b_w25)
  have rWF_w25 : Hid (RowF w25 w3.heap.size (.slice aW R.length cW) R) := rowF_below rWF_w24.out (b_w25)
  have rWS_w25 : Hid (RowSpot w25 w3.heap.size (.slice dW DR.length eW) DR) := rowSpot_below rWS_w24.out (b_w25)
  have bW_w25 : Hid (w25.heap[w4.heap.size]? = some (.cells #[.slice aW R.length cW, .int .i64 rR, .int .i64 rA, .int .i64 rS, .slice dW DR.length eW] 34 (0, 0))) := blk_below bW_w24.out (b_w25)
  have bX_w25 : Hid (w25.heap[w6.heap.size]? = some (.cells #[.slice aX fs.length fs.length, .int .i64 room, .int .i64 act, .int .i64 seq, .slice dX dir.length dir.length] 34 (0, 0))) := blk_below bX_w24.out (b_w25)
  have bG_w25 : Hid (w25.heap[w9.heap.size]? = some (.cells #[.slice aG R.length cG, .int .i64 rR, .int .i64 rA, .int .i64 rS, .slice dG DR.length eG] 34 (0, 0))) := blk_below bG_w24.out (b_w25)
  have rMF_w25 : Hid (RowF w25 w8.heap.size (.slice aG R.length cG) (marksF 1 R.length)) := rowF_below rMF_w24.out (b_w25)
  have rMS_w25 : Hid (RowSpot w25 w8.heap.size (.slice dG DR.length eG) (markSpotDs (1 + 3 * R.length) DR.length)) := rowSpot_below rMS_w24.out (b_w25)
  have rHF_w25 : Hid (RowF w25 w22.heap.size (.slice aH R.length cH) R) := rowF_below rHF_w24.out (b_w25)
  have rHS_w25 : Hid (RowSpot w25 w22.heap.size (.slice dH DR.length eH) DR) := rowSpot_below rHS_w24.out (b_w25)
  have bH_w25 : Hid (w25.heap[w23.heap.size]? = some (.cells #[.slice aH R.length cH, .int .i64 rR, .int .i64 rA, .int .i64 rS, .slice dH DR.length eH] 34 (0, 0))) := blk_below bH_w24.out (b_w25)
  clear HB_w24 bA_w24 rWF_w24 rWS_w24 bW_w24 bX_w24 bG_w24 rMF_w24 rMS_w24 rHF_w24 rHS_w24 bH_w24 b_w25
  obtain ⟨hg0, hg1, hg2, hg3, hg4, -⟩ := five_cells bG_w25.out
  go_wp2_with fail
  refine (heldEngine_own _ _ R.length DR.length rR rA rS w8.heap.size 1 _ hRl hRd (by omega) (by omega) rMF_w25.out rMS_w25.out).mono ?_
  rintro e w26 ⟨rfl, b_w26⟩
  rw [HMM.out]
  clear hg0 hg1 hg2 hg3 hg4
  have hs_w26 : w25.heap.size ≤ w26.heap.size := (b_w26).size
  have HB_w26 : Hid (Below w.heap.size w w26) := HB_w25.out.trans ((b_w26).mono HB_w25.out.size)
  have bA_w26 : Hid (w26.heap[w.heap.size]? = some (.cells #[.slice ao fs.length cap, .int .i64 room, .int .i64 act, .int .i64 seq, .slice ad dir.length cd] 27 (0, 0))) := blk_below bA_w25.out (b_w26)
  have rWF_w26 : Hid (RowF w26 w3.heap.size (.slice aW R.length cW) R) := rowF_below rWF_w25.out (b_w26)
  have rWS_w26 : Hid (RowSpot w26 w3.heap.size (.slice dW DR.length eW) DR) := rowSpot_below rWS_w25.out (b_w26)
  have bW_w26 : Hid (w26.heap[w4.heap.size]? = some (.cells #[.slice aW R.length cW, .int .i64 rR, .int .i64 rA, .int .i64 rS, .slice dW DR.length eW] 34 (0, 0))) := blk_below bW_w25.out (b_w26)
  have bX_w26 : Hid (w26.heap[w6.heap.size]? = some (.cells #[.slice aX fs.length fs.length, .int .i64 room, .int .i64 act, .int .i64 seq, .slice dX dir.length dir.length] 34 (0, 0))) := blk_below bX_w25.out (b_w26)
  have bG_w26 : Hid (w26.heap[w9.heap.size]? = some (.cells #[.slice aG R.length cG, .int .i64 rR, .int .i64 rA, .int .i64 rS, .slice dG DR.length eG] 34 (0, 0))) := blk_below bG_w25.out (b_w26)
  have rMF_w26 : Hid (RowF w26 w8.heap.size (.slice aG R.length cG) (marksF 1 R.length)) := rowF_below rMF_w25.out (b_w26)
  have rMS_w26 : Hid (RowSpot w26 w8.heap.size (.slice dG DR.length eG) (markSpotDs (1 + 3 * R.length) DR.length)) := rowSpot_below rMS_w25.out (b_w26)
  have rHF_w26 : Hid (RowF w26 w22.heap.size (.slice aH R.length cH) R) := rowF_below rHF_w25.out (b_w26)
  have rHS_w26 : Hid (RowSpot w26 w22.heap.size (.slice dH DR.length eH) DR) := rowSpot_below rHS_w25.out (b_w26)
  have bH_w26 : Hid (w26.heap[w23.heap.size]? = some (.cells #[.slice aH R.length cH, .int .i64 rR, .int .i64 rA, .int .i64 rS, .slice dH DR.length eH] 34 (0, 0))) := blk_below bH_w25.out (b_w26)
  clear HB_w25 bA_w25 rWF_w25 rWS_w25 bW_w25 bX_w25 bG_w25 rMF_w25 rMS_w25 rHF_w25 rHS_w25 bH_w25 b_w26
  go_wp2
  go_ret
  exact ⟨rfl, HB_w26.out⟩
end Go.Proofs.YtlcfblodflgleaaGreatDoor
