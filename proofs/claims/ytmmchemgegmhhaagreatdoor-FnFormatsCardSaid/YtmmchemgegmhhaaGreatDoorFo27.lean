import Derived.Test.YtmmchemgegmhhaaGreatDoorProg
import Derived.Conc.RwLib
import Derived.Conc.MuData
import Derived.KernelRfl
import Derived.Conc.MuLone
import Derived.Test.YtmmchemgegmhhaaGreatDoorFo26
import Derived.Test.YtmmchemgegmhhaaGreatDoorFo10
import Derived.Test.YtmmchemgegmhhaaGreatDoorFo6
import Derived.Test.YtmmchemgegmhhaaGreatDoorFo5
import Derived.Test.YtmmchemgegmhhaaGreatDoorFo16
import Derived.Test.YtmmchemgegmhhaaGreatDoorFo17
import Derived.Test.YtmmchemgegmhhaaGreatDoorFo9
import Derived.Test.YtmmchemgegmhhaaGreatDoorFo7
import Derived.Test.YtmmchemgegmhhaaGreatDoorFo1
set_option maxRecDepth 100000
set_option maxHeartbeats 1600000
namespace Go.Proofs.YtmmchemgegmhhaaGreatDoor
open Go.RowKit
def fmtF : FileD := ⟨segNm 0, headT 0 0, ((headT 0 0).size : Int)⟩
theorem fmt_text : headT 0 0 = file (framesL [headL 0 0] ++ []) := by
  have h := headT_in 0 0 (by omega) (by omega)
  rw [show ((0 : Nat) : Int) = 0 from rfl] at h
  rw [h, show framesL [headL 0 0] ++ [] = frameL (headL 0 0) from by simp [framesL]]
  exact frameL_of _
theorem fmt_len : (framesL [headL 0 0]).length ≤ 100 ∧ 1 ≤ (framesL [headL 0 0]).length := by
  have h := headL_len 0 0
  have h1 := Wd.varF_len 5 (headL 0 0).length
  have h2 : (framesL [headL 0 0]).length = (frameL (headL 0 0)).length := by simp [framesL]
  rw [h2]
  unfold frameL
  rw [List.length_append, List.length_append]
  have h3 : (four (sumL 4294967295 (headL 0 0))).length = 4 := by first | rfl | simp [four]
  omega
theorem fmt_size : (headT 0 0).size = (framesL [headL 0 0]).length := by
  rw [fmt_text, file_size]
  simp
theorem fmt_read : segRead (0 : Int) (headT 0 0) = some (0, [], (headT 0 0).size) := by
  have h := seg_whole 0 0 (by omega) (by omega) [] (by trivial) (by simp) [] (by have := fmt_len; simp only [List.append_nil]; omega) (end_none _)
  rw [fmt_size, fmt_text]
  exact h
theorem fmt_names : ∀ k : Fin 100, 0 < k.val → (Wd.decS (k.val : Int) == Wd.decS 0) = false := by decide
theorem fmt_other (k : Nat) (h0 : 0 < k) (hk : k ≤ 99) : ((segNm 0).toList == (segNm (k : Int)).toList) = false := by
  have h := fmt_names ⟨k, by omega⟩ h0
  cases hq : ((segNm 0).toList == (segNm (k : Int)).toList) with
  | false => rfl
  | true =>
    rw [beq_iff_eq] at hq
    rw [ByteArray.toList_eq, ByteArray.toList_eq] at hq
    have e : segNm 0 = segNm (k : Int) := ByteArray.ext (Array.toList_inj.1 hq)
    unfold segNm at e
    rw [if_pos (by omega), if_pos (by omega)] at e
    have e2 := congrArg (fun b : ByteArray => b.data.toList) e
    simp at e2
    rw [← e2] at h
    simp at h
theorem fmt_to (k : Nat) (hk : k ≤ 99) : segsTo [fmtF] (k + 1) = [segOfFile 0 fmtF] := by
  induction k with
  | zero =>
    rw [segsTo_some (F := fmtF) (by unfold fileD; simp [fmtF])]
    rfl
  | succ k ih =>
    rw [segsTo_none (by unfold fileD; simp only [List.find?_cons, List.find?_nil]; rw [show (fmtF.name.toList == (segNm ((k + 1 : Nat) : Int)).toList) = false from fmt_other (k + 1) (by omega) hk])]
    exact ih (by omega)
theorem fmt_seg : segOfFile 0 fmtF = ⟨0, 0, [], (headT 0 0).size, true, false⟩ := by
  unfold segOfFile segTorn segFrom segBatches segEnd segOk
  show SegD.mk 0 (((segRead (0 : Int) (headT 0 0)).map _).getD 0) (((segRead (0 : Int) (headT 0 0)).map _).getD []) (((segRead (0 : Int) (headT 0 0)).map _).getD 0) (segRead (0 : Int) (headT 0 0)).isSome ((segRead (0 : Int) (headT 0 0)).isSome && decide (((segRead (0 : Int) (headT 0 0)).map _).getD 0 < (headT 0 0).size)) = _
  rw [fmt_read]
  simp
theorem fmt_disk : diskOkD [fmtF] = true := by
  have h1 := fmt_len
  have h2 := fmt_size
  unfold diskOkD okFrom okFrom fileOkD nameOkD fmtF
  have h3 : (segNm 0).size = 2 := by unfold segNm; rw [if_pos (by omega)]; rfl
  simp only [h3]
  simp
  omega
theorem fmt_segs : segsOk [fmtF] = true ∧ segsL [fmtF] = [⟨0, 0, [], (headT 0 0).size, true, false⟩] := by
  have h := fmt_to 99 (by omega)
  have hC : segsC [fmtF] = [⟨0, 0, [], (headT 0 0).size, true, false⟩] := by
    unfold segsC
    rw [h, fmt_seg]
    rfl
  have hr : allRight (segsC [fmtF]) = true := by rw [hC]; rfl
  have h2 := segsOk_rest fmt_disk hr
  rw [h2.1, h2.2, hC]
  exact ⟨by decide, rfl⟩
theorem fmt_eng (room : Int) (hr : roomB room = true) : engB [fmtF] room 0 0 [] := by
  obtain ⟨h1, h2⟩ := fmt_segs
  refine ⟨hr, ?_, ?_, ?_, ?_, ?_⟩
  · unfold soundB seqsRise wholeB allKeptD keptD
    rw [h1, h2, fmt_disk]
    simp [seqsOf, riseI, fmtF]
  · have hg : firstG [fmtF] = 0 := by unfold firstG; rw [h2]; rfl
    have hd : dropsI (firstG [fmtF]) [fmtF] = [] := by
      rw [hg, dropsI_empty]
      intro F hF
      obtain rfl : F = fmtF := by simpa using hF
      have hn : ((segNm 0).toList == nmNew.toList) = false := by rw [ByteArray.toList_eq, ByteArray.toList_eq]; unfold segNm; rw [if_pos (by omega)]; rfl
      unfold goesB isNew fmtF
      rw [isBelow_zero]
      simp only [hn]
      rfl
    have hm : mendA [fmtF] = [] := by unfold mendA lastG; rw [h2]; rfl
    unfold calmB actsI
    rw [hd, hm]
    rfl
  · unfold lastG; rw [h2]; rfl
  · rw [h2]; rfl
  · unfold dirD; rw [h2]; rfl
theorem fmt_small : ∀ F ∈ [fmtF], F.name.size ≤ 1048576 ∧ F.text.size ≤ 1048576 := by
  intro F hF
  obtain rfl : F = fmtF := by simpa using hF
  have h1 := fmt_len
  have h2 := fmt_size
  exact ⟨segNm_size 0, by show (headT 0 0).size ≤ _; omega⟩
theorem fmt_calm (room : Int) : openIB [fmtF] room = roomB room ∧ actsI [fmtF] = [] ∧ (actsF [fmtF] (actsI [fmtF])).1 = [fmtF] ∧ (lastG [fmtF]).num = 0 ∧ seqD (segsL [fmtF]) = 0 ∧ dirD [fmtF] = [] := by
  obtain ⟨-, h2, h3, h4, h5, h6⟩ := fmt_eng 100 (by decide)
  have hA := calm_acts h3
  refine ⟨?_, hA, by rw [hA]; rfl, by omega, h5, h6⟩
  rw [open_calm h3, h2, Bool.and_true]
theorem implFormat_any (room : Int) (w : World) (hT : SumTab w) :
    Calls Tryz.prog 10 #[.int .i64 room] w fun e w' => Below w.heap.size w w' ∧
      ((roomB room = true ∧ ∃ vd vr, e = .returned (.tuple #[.agg #[vd, .int .i64 room, .int .i64 0, .int .i64 0, vr], .bool true]) ∧ RowF w' w.heap.size vd [fmtF] ∧ RowSpot w' w.heap.size vr []) ∨
       (roomB room = false ∧ e = .returned (.tuple #[.agg #[.slice none 0 0, .int .i64 0, .int .i64 0, .int .i64 0, .slice none 0 0], .bool false]))) := by
  have HT := hide hT
  have HOE := hide (fun ao cap W hW hT => implOpenEngine_any [fmtF] ao cap room W (by simp) hW fmt_small hT)
  obtain ⟨hc1, hc2, hc3, hc4, hc5, hc6⟩ := fmt_calm room
  rw [hc1, hc3, hc4, hc5, hc6] at HOE
  have HHT := hide (fun W hT => implHeadText_any 0 0 W hT)
  have HSN := hide (fun W => implSegName_any 0 W)
  have hF : fmtF = ⟨segNm 0, headT 0 0, ((headT 0 0).size : Int)⟩ := rfl
  have hts : (headT 0 0).size ≤ 1048576 := (fmt_small fmtF (by simp)).2
  rw [hF] at HOE ⊢
  clear hc1 hc2 hc3 hc4 hc5 hc6 hT hF
  generalize headT 0 0 = T at HOE HHT hts ⊢
  generalize segNm 0 = NM at HOE HSN ⊢
  obtain ⟨wb, hwb⟩ : ∃ wb, wb = w.alloc (.cells #[.slice none 0 0, .int .i64 0, .int .i64 0, .int .i64 0, .slice none 0 0] 30) := ⟨_, rfl⟩
  have HB0 : Hid (Below w.heap.size w wb) := by rw [hwb]; exact (Below.refl _ w).alloc (Nat.le_refl _) _
  have HBE : Hid (wb.heap[w.heap.size]? = some (.cells #[.slice none 0 0, .int .i64 0, .int .i64 0, .int .i64 0, .slice none 0 0] 30 (0, 0))) := by rw [hwb]; exact heap_alloc_new _ _
  go_enter Tryz.func10, Tryz.ntmps10
  go_wp2_with fail
  rw [← hwb]
  clear hwb
  refine (HHT.out _ (sumTab_later HB0.out HT.out)).mono ?_
  rintro e w1 ⟨rfl, b1⟩
  have B1 := hide (HB0.out.trans (b1.mono HB0.out.size))
  have HE1 := hide ((b1.block _ (heap_lt HBE.out)).trans HBE.out)
  clear b1
  go_wp2_with fail
  refine (HSN.out _).mono ?_
  rintro e w2 ⟨rfl, rfl⟩
  go_wp2_with fail
  obtain ⟨w3, hw3⟩ : ∃ w3, w3 = (w2.alloc (.cells #[.string NM, .string T, .int .i64 (T.size : Int)] 74)).alloc (.cells #[.slice (some ⟨w2.heap.size, 0, none⟩) 1 1] 27) := ⟨_, rfl⟩
  have B3 : Hid (Below w2.heap.size w2 w3) := by rw [hw3]; exact ((Below.refl _ w2).alloc (Nat.le_refl _) _).alloc (by simp) _
  have HK3 : Hid (w3.heap[w2.heap.size]? = some (.cells #[.string NM, .string T, .int .i64 (T.size : Int)] 74 (0, 0))) := by
    show _ = _
    rw [hw3]
    exact (Below.heap_alloc _ _ _ (by simp)).trans (heap_alloc_new _ _)
  have HF3 : Hid (FilesAt w3 (some ⟨w2.heap.size, 0, none⟩) [⟨NM, T, (T.size : Int)⟩]) := by
    intro j hj
    obtain rfl : j = 0 := by simpa using hj
    exact ⟨w2.heap.size, 0, rfl, heap_lt HK3.out, (cell_of_row w3 _ 0 _ _ (0, 0) HK3.out).trans rfl, (cell_of_row w3 _ 1 _ _ (0, 0) HK3.out).trans rfl, (cell_of_row w3 _ 2 _ _ (0, 0) HK3.out).trans rfl⟩
  have BW3 := hide (B1.out.trans (B3.out.mono B1.out.size))
  rw [← hw3]
  clear hw3
  refine (HOE.out (some ⟨w2.heap.size, 0, none⟩) 1 _ HF3.out (sumTab_later BW3.out HT.out)).mono ?_
  have HE3 := hide ((B3.out.block _ (heap_lt HE1.out)).trans HE1.out)
  rintro e w4 ⟨b4, ⟨hr, vd, vr, va, rfl, hrf, hrs, hac⟩ | ⟨hr, rfl⟩⟩
  · obtain ⟨ad3, cd3, hvd, -⟩ := rowF_at hrf
    obtain ⟨ar3, cr3, hvr, -⟩ := rowSpot_at hrs
    obtain ⟨aa, ca, hva⟩ := slice_form hac
    subst hvd hvr hva
    have BW4 := hide (BW3.out.trans (b4.mono BW3.out.size))
    have HE4 := hide ((b4.block _ (heap_lt HE3.out)).trans HE3.out)
    have HRF := hide (rowF_le hrf BW3.out.size)
    have HRS := hide (rowSpot_le hrs BW3.out.size)
    clear hrf hrs hac b4
    have HE5 : Hid ((w4.alloc (.cells #[.slice ad3 1 cd3, .int .i64 room, .int .i64 0, .int .i64 0, .slice ar3 0 cr3] 30)).heap[w.heap.size]? = some (.cells #[.slice none 0 0, .int .i64 0, .int .i64 0, .int .i64 0, .slice none 0 0] 30 (0, 0))) := (Below.heap_alloc _ _ _ (heap_lt HE4.out)).trans HE4.out
    have BW5 : Hid (Below w.heap.size w (w4.alloc (.cells #[.slice ad3 1 cd3, .int .i64 room, .int .i64 0, .int .i64 0, .slice ar3 0 cr3] 30))) := BW4.out.alloc BW4.out.size _
    obtain ⟨z0, z1, z2, z3, z4, f0, f1, f2, f3, f4⟩ := five_cells HE5.out
    go_wp2
    clear z0 z1 z2 z3 z4 f0 f1 f2 f3 f4
    obtain ⟨y0, y1, y2⟩ := box5 (.slice ad3 1 cd3) (.int .i64 room) (.int .i64 0) (.int .i64 0) (.slice ar3 0 cr3) HE5.out BW5.out (Nat.le_refl _) _ rfl
    obtain ⟨x0, x1, x2, x3, x4, -⟩ := five_cells y0
    refine bodyPost_ret (v := .tuple #[.agg #[.slice ad3 1 cd3, .int .i64 room, .int .i64 0, .int .i64 0, .slice ar3 0 cr3], .bool true]) ?_ rfl ?_
    · simp [results, Tryz.results10, go_sem, x0, x1, x2, x3, x4]
    · exact ⟨y1, .inl ⟨hr, _, _, rfl, files_box (rowF_below HRF.out ((Below.refl _ _).alloc (Nat.le_refl _) _)) HE5.out y2, spots_box (rowSpot_below HRS.out ((Below.refl _ _).alloc (Nat.le_refl _) _)) HE5.out y2⟩⟩
  · have BW4 := hide (BW3.out.trans (b4.mono BW3.out.size))
    have HE4 := hide ((b4.block _ (heap_lt HE3.out)).trans HE3.out)
    clear b4
    have HE5 : Hid ((w4.alloc (.cells #[.slice none 0 0, .int .i64 0, .int .i64 0, .int .i64 0, .slice none 0 0] 30)).heap[w.heap.size]? = some (.cells #[.slice none 0 0, .int .i64 0, .int .i64 0, .int .i64 0, .slice none 0 0] 30 (0, 0))) := (Below.heap_alloc _ _ _ (heap_lt HE4.out)).trans HE4.out
    have BW5 : Hid (Below w.heap.size w (w4.alloc (.cells #[.slice none 0 0, .int .i64 0, .int .i64 0, .int .i64 0, .slice none 0 0] 30))) := BW4.out.alloc BW4.out.size _
    obtain ⟨z0, z1, z2, z3, z4, f0, f1, f2, f3, f4⟩ := five_cells HE5.out
    go_wp2
    clear z0 z1 z2 z3 z4 f0 f1 f2 f3 f4
    obtain ⟨y0, y1, y2⟩ := box5 (.slice none 0 0) (.int .i64 0) (.int .i64 0) (.int .i64 0) (.slice none 0 0) HE5.out BW5.out (Nat.le_refl _) _ rfl
    obtain ⟨x0, x1, x2, x3, x4, -⟩ := five_cells y0
    refine bodyPost_ret (v := .tuple #[.agg #[.slice none 0 0, .int .i64 0, .int .i64 0, .int .i64 0, .slice none 0 0], .bool false]) ?_ rfl ?_
    · simp [results, Tryz.results10, go_sem, x0, x1, x2, x3, x4]
    · exact ⟨y1, .inr ⟨hr, rfl⟩⟩
theorem specFormat_any (room : Int) (w : World) :
    Calls Tryz.prog 11 #[.int .i64 room] w fun e w' => Below w.heap.size w w' ∧
      ((roomB room = true ∧ ∃ vd vr, e = .returned (.tuple #[.agg #[vd, .int .i64 room, .int .i64 0, .int .i64 0, vr], .bool true]) ∧ RowF w' w.heap.size vd [fmtF] ∧ RowSpot w' w.heap.size vr []) ∨
       (roomB room = false ∧ e = .returned (.tuple #[.agg #[.slice none 0 0, .int .i64 0, .int .i64 0, .int .i64 0, .slice none 0 0], .bool false]))) := by
  have HHT := hide (fun W => specHeadText_any 0 0 W)
  have HSN := hide (fun W => specSegName_any 0 W)
  have HIN := hide (fun W => l01In_any room 100 20000 W)
  have hF : fmtF = ⟨segNm 0, headT 0 0, ((headT 0 0).size : Int)⟩ := rfl
  have hts : (headT 0 0).size ≤ 1048576 := (fmt_small fmtF (by simp)).2
  rw [hF]
  clear hF
  generalize headT 0 0 = T at HHT hts ⊢
  generalize segNm 0 = NM at HSN ⊢
  obtain ⟨R, HR⟩ : ∃ R, Hid (roomB room = R) := ⟨_, hide rfl⟩
  have HR2 : (decide (100 ≤ room) && decide (room ≤ 20000)) = R := HR.out
  rw [HR2] at HIN
  rw [HR.out]
  clear HR2
  obtain ⟨wb, hwb⟩ : ∃ wb, wb = w.alloc (.cells #[.slice none 0 0, .int .i64 0, .int .i64 0, .int .i64 0, .slice none 0 0] 30) := ⟨_, rfl⟩
  have HB0 : Hid (Below w.heap.size w wb) := by rw [hwb]; exact (Below.refl _ w).alloc (Nat.le_refl _) _
  have HBE : Hid (wb.heap[w.heap.size]? = some (.cells #[.slice none 0 0, .int .i64 0, .int .i64 0, .int .i64 0, .slice none 0 0] 30 (0, 0))) := by rw [hwb]; exact heap_alloc_new _ _
  go_enter Tryz.func11, Tryz.ntmps11
  go_wp2_with fail
  rw [← hwb]
  clear hwb
  refine (HIN.out _).mono ?_
  rintro e w0 ⟨rfl, rfl⟩
  cases R with
  | false =>
    obtain ⟨z0, z1, z2, z3, z4, f0, f1, f2, f3, f4⟩ := five_cells HBE.out
    go_wp2
    clear z0 z1 z2 z3 z4 f0 f1 f2 f3 f4
    obtain ⟨y0, y1, y2⟩ := box5 (.slice none 0 0) (.int .i64 0) (.int .i64 0) (.int .i64 0) (.slice none 0 0) HBE.out HB0.out (Nat.le_refl _) _ rfl
    obtain ⟨x0, x1, x2, x3, x4, -⟩ := five_cells y0
    refine bodyPost_ret (v := .tuple #[.agg #[.slice none 0 0, .int .i64 0, .int .i64 0, .int .i64 0, .slice none 0 0], .bool false]) ?_ rfl ?_
    · simp [results, Tryz.results11, go_sem, x0, x1, x2, x3, x4]
    · first | exact ⟨y1, .inr ⟨rfl, rfl⟩⟩ | exact ⟨y1, rfl⟩
  | true =>
    go_wp2_with fail
    refine (HHT.out _).mono ?_
    rintro e w1 ⟨rfl, b1⟩
    have B1 := hide (HB0.out.trans (b1.mono HB0.out.size))
    have HE1 := hide ((b1.block _ (heap_lt HBE.out)).trans HBE.out)
    clear b1
    go_wp2_with fail
    refine (HSN.out _).mono ?_
    rintro e w2 ⟨rfl, b2⟩
    have B2 := hide (B1.out.trans (b2.mono B1.out.size))
    have HE2 := hide ((b2.block _ (heap_lt HE1.out)).trans HE1.out)
    clear b2
    have HE3 : Hid ((w2.alloc (.cells #[.string NM, .string T, .int .i64 (T.size : Int)] 74)).heap[w.heap.size]? = some (.cells #[.slice none 0 0, .int .i64 0, .int .i64 0, .int .i64 0, .slice none 0 0] 30 (0, 0))) := (Below.heap_alloc _ _ _ (heap_lt HE2.out)).trans HE2.out
    have B3 : Hid (Below w.heap.size w (w2.alloc (.cells #[.string NM, .string T, .int .i64 (T.size : Int)] 74))) := B2.out.alloc B2.out.size _
    have HK3 := heap_alloc_new w2 (.cells #[.string NM, .string T, .int .i64 (T.size : Int)] 74)
    have HRF : Hid (RowF (w2.alloc (.cells #[.string NM, .string T, .int .i64 (T.size : Int)] 74)) w.heap.size (.slice (some ⟨w2.heap.size, 0, none⟩) 1 1) [⟨NM, T, (T.size : Int)⟩]) := by
      refine .inr ⟨w2.heap.size, 1, _, rfl, B2.out.size, HK3, by simp, ?_⟩
      intro j hj _
      obtain rfl : j = 0 := by simpa using hj
      exact ⟨rfl, rfl, rfl⟩
    clear HK3
    obtain ⟨z0, z1, z2, z3, z4, f0, f1, f2, f3, f4⟩ := five_cells HE3.out
    go_wp2
    clear z0 z1 z2 z3 z4 f0 f1 f2 f3 f4
    obtain ⟨y0, y1, y2⟩ := box5 (.slice (some ⟨w2.heap.size, 0, none⟩) 1 1) (.int .i64 room) (.int .i64 0) (.int .i64 0) (.slice none 0 0) HE3.out B3.out (Nat.le_refl _) _ rfl
    obtain ⟨x0, x1, x2, x3, x4, -⟩ := five_cells y0
    refine bodyPost_ret (v := .tuple #[.agg #[.slice (some ⟨w2.heap.size, 0, none⟩) 1 1, .int .i64 room, .int .i64 0, .int .i64 0, .slice none 0 0], .bool true]) ?_ rfl ?_
    · simp [results, Tryz.results11, go_sem, x0, x1, x2, x3, x4]
    · have r9 := files_box HRF.out HE3.out y2
      first | exact ⟨y1, .inl ⟨rfl, _, _, rfl, r9, .inl ⟨rfl, rfl⟩⟩⟩ | exact ⟨y1, _, _, rfl, r9, .inl ⟨rfl, rfl⟩⟩
def recAt (fs : List FileD) (seg pos : Int) : Option ByteArray :=
  match fileD fs (segNm seg) with
  | none => none
  | some F => if 0 ≤ pos ∧ pos ≤ F.text.size then
      match unf (F.text.extract pos.toNat F.text.size) with
      | [] => none
      | x :: _ => some ((F.text.extract pos.toNat F.text.size).extract x.1 x.2)
    else none
def batSeq (o : Option ByteArray) : Int := (o.map rdSeq).getD 0
def batOk (o : Option ByteArray) : Bool := (o.map rdOk).getD false
def batChs (o : Option ByteArray) : List ChangeD := (o.map rdChanges).getD []
theorem recAt_none {fs : List FileD} {seg pos : Int} (h : fileD fs (segNm seg) = none) : recAt fs seg pos = none := by unfold recAt; rw [h]
theorem recAt_out {fs : List FileD} {seg pos : Int} {F : FileD} (h : fileD fs (segNm seg) = some F) (hp : ¬ (0 ≤ pos ∧ pos ≤ F.text.size)) : recAt fs seg pos = none := by
  unfold recAt; rw [h]; simp only []; rw [if_neg hp]
theorem recAt_nil {fs : List FileD} {seg : Int} {p : Nat} {F : FileD} {T : ByteArray} (h : fileD fs (segNm seg) = some F) (hp : p ≤ F.text.size) (hT : F.text.extract p F.text.size = T) (hu : unf T = []) : recAt fs seg (p : Int) = none := by
  unfold recAt; rw [h]; simp only []; rw [if_pos ⟨by omega, by omega⟩, Int.toNat_natCast, hT, hu]
theorem recAt_some {fs : List FileD} {seg : Int} {p : Nat} {F : FileD} {T : ByteArray} {x : Nat × Nat} {r : List (Nat × Nat)} (h : fileD fs (segNm seg) = some F) (hp : p ≤ F.text.size) (hT : F.text.extract p F.text.size = T) (hu : unf T = x :: r) : recAt fs seg (p : Int) = some (T.extract x.1 x.2) := by
  unfold recAt; rw [h]; simp only []; rw [if_pos ⟨by omega, by omega⟩, Int.toNat_natCast, hT, hu]
theorem two_cells {wb W : World} {g : Nat} {x y : Value} {t : Nat} (h : wb.heap[g]? = some (.cells #[x, y] t (0, 0))) (hb : Below wb.heap.size wb W) :
    W.heap[g]? = some (.cells #[x, y] t (0, 0)) := (hb.block g (heap_lt h)).trans h
def valIn (key : ByteArray) : List ChangeD → Option ByteArray
  | [] => none
  | A :: r => if A.key = key ∧ A.gone = false then some A.value else valIn key r
def valRight (fs : List FileD) (s : SpotD) : Bool := diskOkD fs && (batOk (recAt fs s.seg s.pos) && decide (batSeq (recAt fs s.seg s.pos) = s.seq))
def valD (fs : List FileD) (s : SpotD) : Option ByteArray := if valRight fs s = true then valIn s.key (batChs (recAt fs s.seg s.pos)) else none
def outTx : Option ByteArray → ByteArray
  | none => ⟨#[]⟩
  | some t => t
theorem batChs_len (r : Option ByteArray) : (batChs r).length ≤ 40 := by
  cases r with
  | none => exact Nat.zero_le _
  | some t =>
    show (rdChanges t).length ≤ 40
    cases h : rdOk t with
    | false => simp [rdChanges, h]
    | true =>
      have h1 := (rd_text h).1
      unfold textOkD at h1
      simp only [Bool.and_eq_true] at h1
      exact (batchOkD_bounds h1.1).2.2.2
end Go.Proofs.YtmmchemgegmhhaaGreatDoor
namespace Go.Proofs
abbrev Tryz.muLink : Go.Conc.Locks.MuLink := { lock := 90, unlock := 91, ilock := 137, iunlock := 138, lockSlow := 179, unlockSlow := 182, disable := 175, enable := 177, acquire := 178, relMerge := 180, cas32 := 176, add32 := 181, tMutex := 137, tIMutex := 135, tPMutex := 191, tPIMutex := 234, tPI32 := 236, tUP := 238, tNoCopy := 132, tU32 := 133 }
theorem Tryz.muLib : Go.Conc.Locks.MuLib Tryz.prog Tryz.muLink :=
  ⟨Tryz.func90, Tryz.func91, Tryz.func137, Tryz.func138, Tryz.func175, Tryz.func177, Tryz.func178, Tryz.func180, Tryz.func176, Tryz.func181, Tryz.underlying135, Tryz.runUnderlying135, Tryz.sizeOf135, Tryz.isAgg135, Tryz.zeroValue135, Tryz.underlying137, Tryz.runUnderlying137, Tryz.sizeOf137, Tryz.isAgg137, Tryz.zeroValue137, Tryz.underlying191, Tryz.runUnderlying191, Tryz.sizeOf191, Tryz.isAgg191, Tryz.zeroValue191, Tryz.underlying234, Tryz.runUnderlying234, Tryz.sizeOf234, Tryz.isAgg234, Tryz.zeroValue234, Tryz.underlying236, Tryz.runUnderlying236, Tryz.sizeOf236, Tryz.isAgg236, Tryz.zeroValue236, Tryz.underlying238, Tryz.runUnderlying238, Tryz.sizeOf238, Tryz.isAgg238, Tryz.zeroValue238, Tryz.underlying132, Tryz.runUnderlying132, Tryz.sizeOf132, Tryz.isAgg132, Tryz.zeroValue132, Tryz.underlying21, Tryz.runUnderlying21, Tryz.sizeOf21, Tryz.isAgg21, Tryz.zeroValue21, (by kernel_rfl)⟩
end Go.Proofs
namespace Go.Proofs.YtmmchemgegmhhaaGreatDoor
open Go.RowKit
def usedL : List FileD → Nat
  | [] => 0
  | F :: r => F.text.size + usedL r
theorem usedL_app (a b : List FileD) : usedL (a ++ b) = usedL a + usedL b := by
  induction a with
  | nil => simp [usedL]
  | cons x r ih => simp [usedL, ih]; omega
theorem usedL_step {fs : List FileD} {k : Nat} (h : k < fs.length) : usedL (fs.take (k + 1)) = usedL (fs.take k) + fs[k].text.size := by
  rw [List.take_succ_eq_append_getElem h, usedL_app]
  simp [usedL]
theorem usedL_le : ∀ {fs : List FileD}, (∀ F ∈ fs, F.name.size ≤ 1048576 ∧ F.text.size ≤ 1048576) → usedL fs ≤ fs.length * 1048576
  | [], _ => by simp [usedL]
  | F :: r, h => by
    have h1 := (h F (by simp)).2
    have h2 := usedL_le (fs := r) (fun G hG => h G (by simp [hG]))
    simp only [usedL, List.length_cons]
    omega
theorem usedL_take_le {fs : List FileD} (hsz : ∀ F ∈ fs, F.name.size ≤ 1048576 ∧ F.text.size ≤ 1048576) (k : Nat) (hl : fs.length ≤ 1048576) : usedL (fs.take k) ≤ 1048576 * 1048576 := by
  have h := usedL_le (fs := fs.take k) (fun F hF => hsz F (List.mem_of_mem_take hF))
  have h2 : (fs.take k).length ≤ fs.length := by simp; omega
  calc usedL (fs.take k) ≤ (fs.take k).length * 1048576 := h
    _ ≤ 1048576 * 1048576 := Nat.mul_le_mul_right _ (by omega)
theorem bytesOf_any (fs : List FileD) (ao : Option Addr) (cap : Nat) (w : World) (hl : fs.length ≤ 1048576) (hfs : FilesAt w ao fs) (hsz : ∀ F ∈ fs, F.name.size ≤ 1048576 ∧ F.text.size ≤ 1048576) :
    Calls Tryz.prog 94 #[.agg #[.slice ao fs.length cap]] w fun e w' => e = .returned (.int .i64 (usedL fs : Nat)) ∧ Below w.heap.size w w' := by
  have HF := hide hfs
  have HS := hide hsz
  have HU := hide (fun k => usedL_take_le hsz k hl)
  clear hfs hsz
  have HE : Hid (usedL (fs.take fs.length) = usedL fs) := by show _ = _; rw [List.take_length]
  have HZ : Hid (usedL (fs.take 0) = 0) := by show _ = _; rfl
  obtain ⟨R, HR⟩ : ∃ R, Hid (usedL fs = R) := ⟨_, hide rfl⟩
  rw [HR.out]
  go_enter Tryz.func94, Tryz.ntmps94
  go_wp2
  go_loopw [3, 9] (fun nn ii wr => ∃ (k : Nat), nn = .int .i64 (usedL (fs.take k) : Nat) ∧ ii = .int .i64 k ∧ k ≤ fs.length ∧ Hid (Below w.heap.size w wr)) (fun _ ii _ => fs.length - (intOf ii).toNat)
  case atStart => exact ⟨0, rfl, rfl, Nat.zero_le _, (Below.refl _ w).alloc (Nat.le_refl _) _⟩
  case round =>
    obtain ⟨k, rfl, rfl, hk, HB⟩ := hrel
    by_cases hlt : k < fs.length
    · have hlt' : decide ((k : Int) < (fs.length : Int)) = true := by simp; omega
      obtain ⟨b, off, rfl, hbw, hc0, hc1, hc2⟩ := filesAt_keep HF.out HB.out k hlt
      have HST := hide (usedL_step hlt)
      have hs2 := (HS.out fs[k] (List.getElem_mem hlt)).2
      have hu := HU.out k
      have hu1 := HU.out (k + 1)
      have HSS : Hid (usedL (fs.take (k + 1)) = usedL (fs.take k) + fs[k].text.size) := HST.out
      obtain ⟨F, HFk⟩ : ∃ F, Hid (fs[k] = F) := ⟨fs[k], hide rfl⟩
      rw [HFk.out] at hc0 hc1 hc2 hs2 HSS
      obtain ⟨U, hU⟩ : ∃ U, usedL (fs.take k) = U := ⟨_, rfl⟩
      have HV : Hid (usedL (fs.take (k + 1)) = U + F.text.size) := by show _ = _; rw [HSS.out, hU]
      rw [hU] at hu ⊢
      clear HSS HST hu1
      have hi0 : (0 : Int) ≤ (k : Int) := by omega
      have hi1 : (k : Int) < (fs.length : Int) := by omega
      have hw : IntKind.i64.wrap ((U : Int) + (F.text.size : Int)) = ((U + F.text.size : Nat) : Int) := by rw [IntKind.wrap_i64]; omega
      go_wp2
      go_roundw
      case rel => exact ⟨k + 1, by rw [HV.out]; first | rfl | go_num, by go_num, by omega, HB.out.alloc HB.out.size _⟩
      case measure => simp [intOf]; omega
    · have hlt' : decide ((k : Int) < (fs.length : Int)) = false := by simp; omega
      have hR : Hid (usedL (fs.take k) = R) := by show _ = _; rw [show k = fs.length from by omega, HE.out, HR.out]
      rw [hR.out]
      go_wp2
      go_ret
      exact ⟨rfl, HB.out⟩
theorem storeAt_lock {w : World} {B g : Nat} {fs : List FileD} {room : Int} {vd vr vs : Value} (h : StoreAt w B g fs room vd vr vs) (z : Value) :
    (w.setCell ⟨g, 0, none⟩ z).heap[g]? = some (.cells #[z, .int .u32 0, vd, .int .i64 room, .int .i64 ((lastG fs).num : Int), .int .i64 (seqD (segsL fs)), vr, vs] 140 (0, 0)) :=
  (heap_setCell_same w g 0 _ _ z h.blk).trans rfl
theorem storeAt_disk {w : World} {B g : Nat} {fs : List FileD} {room : Int} {vd vr vs : Value} (h : StoreAt w B g fs room vd vr vs) (z : Value) : RowF (w.setCell ⟨g, 0, none⟩ z) B vd (actsF fs (actsI fs)).1 := by
  have hb := h.blk
  refine rowF_keep h.disk (fun x hx => ?_)
  have hne : x ≠ g := by
    rintro rfl
    rcases h.disk with ⟨rfl, -⟩ | ⟨g', cap, C, rfl, -, hC, -⟩
    · cases hx
    · obtain rfl : g' = x := by simpa [Value.ownBlock] using hx
      rw [hC] at hb
      simp at hb
  exact Below.heap_setCell _ _ _ _ hne
theorem used_any (fs : List FileD) (room : Int) (B g : Nat) (vd vr vs : Value) (w : World) (hl : fs.length ≤ 1048576) (hsz : ∀ F ∈ fs, F.name.size ≤ 1048576 ∧ F.text.size ≤ 1048576) (hst : StoreAt w B g fs room vd vr vs) (hca : calmB fs = true) :
    Calls Tryz.prog 49 #[.pointer (some ⟨g, 0, none⟩)] w fun e w' => e = .returned (.int .i64 (usedL fs : Nat)) ∧ Below B w w' := by
  have hA : (actsF fs (actsI fs)).1 = fs := by rw [calm_acts hca]; rfl
  have hle := hst.le
  have hd1 := storeAt_disk hst (.int .i32 1)
  rw [hA] at hd1
  obtain ⟨ad, cd, rfl, hfs⟩ := rowF_at hd1
  have HFS := hide hfs
  have HB1 := hide (storeAt_lock hst (.int .i32 1))
  have HK := hide (eight_cells hst.blk)
  have HBO := hide (fun W h => bytesOf_any fs ad cd W hl h hsz)
  clear hfs hd1 hst hsz
  obtain ⟨w1, hw1⟩ : ∃ w1, w1 = w.setCell ⟨g, 0, none⟩ (.int .i32 1) := ⟨_, rfl⟩
  rw [← hw1] at HB1 HFS
  have HW1 : Hid (Below B w w1) := by show Below _ _ _; rw [hw1]; exact (Below.refl _ w).setCell (p := ⟨g, 0, none⟩) hle _
  have hgl : g < w1.heap.size := heap_lt HB1.out
  obtain ⟨k0, k1, k2, k3, k4, k5, k6, k7, k8⟩ := eight_cells HB1.out
  obtain ⟨R, HR⟩ : ∃ R, Hid (usedL fs = R) := ⟨_, hide rfl⟩
  rw [HR.out] at HBO ⊢
  go_enter_defers Tryz.func49, Tryz.ntmps49
  go_wp2_with fail
  refine (Go.MuLone.lock_free Tryz.muLib ⟨g, 0, none⟩ w HK.out.1 HK.out.2.2.2.2.2.2.2.2).mono ?_
  rintro e w' ⟨rfl, rfl⟩
  rw [← hw1]
  clear hw1
  go_wp2_with fail
  refine (HBO.out _ HFS.out).mono ?_
  rintro e w2 ⟨rfl, b2⟩
  have h0 : w2.cell? ⟨g, 0, none⟩ = some (.int .i32 1) := (b2.cell (p := ⟨g, 0, none⟩) hgl).trans k0
  have hz : w2.frozen? ⟨g, 0, none⟩ = false := frozen_of_row w2 g 0 _ _ ((b2.block _ hgl).trans HB1.out)
  go_wp2
  refine leaves_cons (f := 91) (args := #[.pointer (some ⟨g, 0, none⟩)]) (by simp) (by simp [go_sem]) ?_
  refine (Go.MuLone.unlock_deferred Tryz.muLib ⟨g, 0, none⟩ .returning _ h0 hz).mono ?_
  rintro e u' w'' ⟨rfl, rfl, rfl⟩
  exact ⟨_, results_tmp rfl _ _ _, rfl, (HW1.out.trans (b2.mono (Nat.le_of_lt (Nat.lt_of_le_of_lt hle hgl)))).setCell (p := ⟨g, 0, none⟩) hle _⟩
def usedE (fs : List FileD) (room act seq : Int) (dir : List SpotD) : Nat := bif engOkB fs room act seq dir then usedL fs else 0
theorem usedE_yes {fs : List FileD} {room act seq : Int} {dir : List SpotD} (h : engOkB fs room act seq dir = true) : usedE fs room act seq dir = usedL fs := by
  unfold usedE
  rw [h]
  rfl
theorem usedE_no {fs : List FileD} {room act seq : Int} {dir : List SpotD} (h : engOkB fs room act seq dir = false) : usedE fs room act seq dir = 0 := by
  unfold usedE
  rw [h]
  rfl
theorem implUsed_any (fs : List FileD) (ao ad : Option Addr) (cap cd : Nat) (room act seq : Int) (dir : List SpotD) (w : World) (hl : fs.length ≤ 1048576) (hfs : FilesAt w ao fs) (hsz : ∀ F ∈ fs, F.name.size ≤ 1048576 ∧ F.text.size ≤ 1048576) (hds : SpotsAt w ad dir) (hT : SumTab w) :
    Calls Tryz.prog 15 #[.agg #[.slice ao fs.length cap, .int .i64 room, .int .i64 act, .int .i64 seq, .slice ad dir.length cd]] w fun e w' => e = .returned (.int .i64 (usedE fs room act seq dir : Nat)) ∧ Below w.heap.size w w' := by
  have HSO := hide (fun W h1 h2 hT => storeOf_any fs ao ad cap cd room act seq dir W hl h1 hsz h2 hT)
  have HUS := hide (fun B g vd vr vs W => used_any fs room B g vd vr vs W hl hsz)
  have HF := hide hfs
  have HD := hide hds
  have HT := hide hT
  clear hfs hds hsz hT
  obtain ⟨wb, hwb⟩ : ∃ wb, wb = w.alloc (.cells #[.slice ao fs.length cap, .int .i64 room, .int .i64 act, .int .i64 seq, .slice ad dir.length cd] 30) := ⟨_, rfl⟩
  have HB0 : Hid (Below w.heap.size w wb) := by rw [hwb]; exact (Below.refl _ w).alloc (Nat.le_refl _) _
  obtain ⟨R, HR⟩ : ∃ R, Hid (usedE fs room act seq dir = R) := ⟨_, hide rfl⟩
  rw [HR.out]
  go_enter Tryz.func15, Tryz.ntmps15
  go_wp2_with fail
  rw [← hwb]
  clear hwb
  refine (HSO.out _ (filesAt_keep HF.out HB0.out) (spotsAt_keep HD.out HB0.out) (sumTab_later HB0.out HT.out)).mono ?_
  rintro e w1 ⟨b1, ⟨he, g, vd, vr, vs, rfl, hst⟩ | ⟨he, s, rfl⟩⟩
  · have hR : Hid (R = usedL fs) := HR.out.symm.trans (usedE_yes (engOkB_yes he))
    have HST := hide hst
    have HC := hide he.2.2.1
    have HW1 := hide (HB0.out.trans (b1.mono HB0.out.size))
    clear hst he b1
    go_wp2_with fail
    refine (HUS.out _ g vd vr vs _ HST.out HC.out).mono ?_
    rintro e w2 ⟨rfl, b2⟩
    rw [← hR.out]
    go_wp2
    go_ret
    exact ⟨rfl, HW1.out.trans (b2.mono HB0.out.size)⟩
  · have hR : Hid (R = 0) := HR.out.symm.trans (usedE_no (engOkB_no he))
    go_wp2
    go_ret
    rw [hR.out]
    exact ⟨rfl, HB0.out.trans (b1.mono HB0.out.size)⟩
theorem box4_cells {w0 W : World} {g : Nat} {a b c d : Value} {t : Nat} (h : w0.heap[g]? = some (.cells #[a, b, c, d] t (0, 0))) (hb : Below w0.heap.size w0 W) :
    W.cell? ⟨g, 0, none⟩ = some a ∧ W.cell? ⟨g, 1, none⟩ = some b ∧ W.cell? ⟨g, 2, none⟩ = some c ∧ W.cell? ⟨g, 3, none⟩ = some d := by
  have h1 := (hb.block g (heap_lt h)).trans h
  exact ⟨(cell_of_row W _ 0 _ _ (0, 0) h1).trans rfl, (cell_of_row W _ 1 _ _ (0, 0) h1).trans rfl, (cell_of_row W _ 2 _ _ (0, 0) h1).trans rfl, (cell_of_row W _ 3 _ _ (0, 0) h1).trans rfl⟩
end Go.Proofs.YtmmchemgegmhhaaGreatDoor
