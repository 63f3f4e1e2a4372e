import Derived.Test.YthpolfmbcipjaaaGreatDoorCo45
import Derived.Test.YthpolfmbcipjaaaGreatDoorCo7
import Derived.Test.YthpolfmbcipjaaaGreatDoorCo22
import Derived.Test.YthpolfmbcipjaaaGreatDoorCo42
import Derived.Test.YthpolfmbcipjaaaGreatDoorCo25
set_option maxRecDepth 100000
set_option maxHeartbeats 3200000
namespace Go.Proofs.YthpolfmbcipjaaaGreatDoor
open Go.RowKit
theorem openS_calm {fs : List FileD} {room : Int} (h : calmB fs = true) : openSB fs room = (roomB room && soundB fs) := by
  unfold openSB
  rw [(actsS_empty fs).2 (calm_acts h)]
  simp [actsF]
theorem eng_not_openS {fs : List FileD} {room act seq : Int} {dir : List SpotD} (h : openSB fs room = false) : ¬ engB fs room act seq dir := fun he => by
  rw [openS_calm he.2.2.1, he.1, he.2.1] at h
  cases h
theorem openS_room {fs : List FileD} {room : Int} (h : openSB fs room = true) : roomB room = true ∧ soundB fs = true := by
  unfold openSB at h
  simp only [Bool.and_eq_true] at h
  exact ⟨h.1, h.2.1⟩
theorem calm_of_S {fs : List FileD} (h : (actsS fs).length = 0) : calmB fs = true := by
  unfold calmB
  rw [(actsS_empty fs).1 (List.eq_nil_of_length_eq_zero h)]
  rfl
theorem specEngineOk_any (fs : List FileD) (ao ad : Option Addr) (cap cd : Nat) (room act seq : Int) (dir : List SpotD) (w : World) (hl : fs.length ≤ 1048576) (hfs : FilesAt w ao fs) (hsz : ∀ F ∈ fs, F.name.size ≤ 1048576 ∧ F.text.size ≤ 1048576) (hld : dir.length ≤ 1048576) (hds : SpotsAt w ad dir) :
    Calls Tryz.prog 22 #[.agg #[.slice ao fs.length cap, .int .i64 room, .int .i64 act, .int .i64 seq, .slice ad dir.length cd]] w fun e w' => e = .returned (.bool (engOkB fs room act seq dir)) ∧ Below w.heap.size w w' := by
  have HF := hide hfs
  have HD := hide hds
  have HOS := hide (fun W hW => specOpenEngine_any fs ao cap room W hl hW hsz)
  clear hfs hds hsz
  obtain ⟨wb, hwb⟩ : ∃ wb, wb = w.alloc (.cells #[.slice ao fs.length cap, .int .i64 room, .int .i64 act, .int .i64 seq, .slice ad dir.length cd] 37) := ⟨_, rfl⟩
  have HB0 : Hid (Below w.heap.size w wb) := by rw [hwb]; exact (Below.refl _ w).alloc (Nat.le_refl _) _
  have HBK : Hid (wb.heap[w.heap.size]? = some (.cells #[.slice ao fs.length cap, .int .i64 room, .int .i64 act, .int .i64 seq, .slice ad dir.length cd] 37 (0, 0))) := by rw [hwb]; exact heap_alloc_new w _
  obtain ⟨hz0, hz1, hz2, hz3, hz4, -⟩ := five_cells HBK.out
  obtain ⟨R, HR⟩ : ∃ R, Hid (engOkB fs room act seq dir = R) := ⟨_, hide rfl⟩
  rw [HR.out]
  go_enter Tryz.func22, Tryz.ntmps22
  go_wp2_with fail
  rw [← hwb]
  clear hwb
  go_wp2_with fail
  refine (HOS.out _ (filesAt_keep HF.out HB0.out)).mono ?_
  rintro e w1 ⟨b1, ⟨ho, vd, vr, va, rfl, hrf, hrs, hac⟩ | ⟨ho, va, rfl, hac⟩⟩
  · obtain ⟨ad3, cd3, hvd, -⟩ := rowF_at hrf
    obtain ⟨ar3, cr3, hvr, hvr2⟩ := rowSpot_at hrs
    obtain ⟨aa, ca, hva⟩ := slice_form hac
    subst hvd hvr hva
    have B1 := hide (HB0.out.trans (b1.mono HB0.out.size))
    have HBK1 := hide ((b1.block _ (heap_lt HBK.out)).trans HBK.out)
    have HRM := openS_room ho
    have HVR := hide hvr2
    obtain ⟨DL, HDL⟩ : ∃ d, Hid (dirD fs = d) := ⟨_, hide rfl⟩
    obtain ⟨AL, HAL⟩ : ∃ n, Hid ((actsS fs).length = n) := ⟨_, hide rfl⟩
    obtain ⟨NU, HNU⟩ : ∃ n : Nat, Hid ((lastG fs).num = n) := ⟨_, hide rfl⟩
    obtain ⟨SQ, HSQ⟩ : ∃ n, Hid (seqD (segsL fs) = n) := ⟨_, hide rfl⟩
    generalize (actsF fs (actsS fs)).1.length = FL
    rw [HDL.out] at HVR
    rw [HDL.out, HAL.out, HNU.out, HSQ.out]
    have hDl : DL.length ≤ 666700 := by rw [← HDL.out]; exact dirD_len fs
    clear hrf hrs hac hvr2 b1 hz0 hz1 hz2 hz3 hz4
    obtain ⟨wX, hwX⟩ : ∃ x, x = w1.alloc (.cells #[.slice ad3 FL cd3, .int .i64 room, .int .i64 (NU : Int), .int .i64 SQ, .slice ar3 DL.length cr3] 37) := ⟨_, rfl⟩
    have BX : Hid (Below w1.heap.size w1 wX) := by rw [hwX]; exact (Below.refl _ w1).alloc (Nat.le_refl _) _
    have BwX : Hid (Below w.heap.size w wX) := B1.out.trans (BX.out.mono B1.out.size)
    have HBX := hide ((BX.out.block _ (heap_lt HBK1.out)).trans HBK1.out)
    have HXX : Hid (wX.heap[w1.heap.size]? = some (.cells #[.slice ad3 FL cd3, .int .i64 room, .int .i64 (NU : Int), .int .i64 SQ, .slice ar3 DL.length cr3] 37 (0, 0))) := by rw [hwX]; exact heap_alloc_new w1 _
    have HD1 := hide (spotsAt_keep HVR.out BX.out)
    have HD2 := hide (spotsAt_keep HD.out BwX.out)
    obtain ⟨hy0, hy1, hy2, hy3, hy4, -⟩ := five_cells HBX.out
    obtain ⟨hx0, hx1, hx2, hx3, hx4, -⟩ := five_cells HXX.out
    have HNO : Hid (¬ (AL = 0 ∧ (NU : Int) = act ∧ SQ = seq ∧ DL = dir) → R = false) := fun h => HR.out.symm.trans <| engOkB_no (fun he => h ⟨by rw [← HAL.out, (actsS_empty fs).2 (calm_acts he.2.2.1)]; rfl, by rw [← HNU.out]; exact he.2.2.2.1, by rw [← HSQ.out]; exact he.2.2.2.2.1, by rw [← HDL.out]; exact he.2.2.2.2.2⟩)
    have HYS : Hid (AL = 0 → (NU : Int) = act → SQ = seq → DL = dir → R = true) := fun h1 h2 h3 h4 => HR.out.symm.trans <| engOkB_yes ⟨HRM.1, HRM.2, calm_of_S (by rw [HAL.out]; exact h1), by rw [HNU.out]; exact h2, by rw [HSQ.out]; exact h3, by rw [HDL.out]; exact h4⟩
    clear HRM HOS
    subst hwX
    by_cases ha0 : AL = 0
    · subst ha0
      by_cases hna : (NU : Int) = act
      · subst hna
        have hna' : ((NU : Int) != (NU : Int)) = false := by simp
        by_cases hsq : SQ = seq
        · subst hsq
          have hsq' : (SQ != SQ) = false := by simp
          by_cases hln : DL.length = dir.length
          · have hln' : (((DL.length : Int)) != ((dir.length : Int))) = false := by rw [bne_eq_false_iff_eq]; omega
            have HLN := hide hln
            clear hln
            go_wp2_with fail
            go_loopw [6] (fun ii wr => ∃ (k : Nat), ii = .int .i64 k ∧ k ≤ DL.length ∧ Hid (∀ j (h1 : j < DL.length) (h2 : j < dir.length), j < k → spotEq DL[j] dir[j] = true) ∧ Hid (Below (w1.alloc (.cells #[.slice ad3 FL cd3, .int .i64 room, .int .i64 (NU : Int), .int .i64 SQ, .slice ar3 DL.length cr3] 37)).heap.size (w1.alloc (.cells #[.slice ad3 FL cd3, .int .i64 room, .int .i64 (NU : Int), .int .i64 SQ, .slice ar3 DL.length cr3] 37)) wr)) (fun ii _ => DL.length - (intOf ii).toNat)
            case atStart => exact ⟨0, rfl, Nat.zero_le _, fun j _ _ h => absurd h (by omega), Below.refl _ _⟩
            case round =>
              obtain ⟨k, rfl, hk, HK, HB⟩ := hrel
              obtain ⟨hy0, hy1, hy2, hy3, hy4, -⟩ := five_cells ((HB.out.block _ (heap_lt HBX.out)).trans HBX.out)
              obtain ⟨hx0, hx1, hx2, hx3, hx4, -⟩ := five_cells ((HB.out.block _ (heap_lt HXX.out)).trans HXX.out)
              have HBf := hide (BwX.out.trans (HB.out.mono BwX.out.size))
              by_cases hlt : k < DL.length
              · have hlt' : decide ((k : Int) < (DL.length : Int)) = true := by simp; omega
                have hi0 : (0 : Int) ≤ (k : Int) := by omega
                have hi1 : (k : Int) < (DL.length : Int) := by omega
                have hkb : k < dir.length := by have := HLN.out; omega
                have hi2 : (k : Int) < (dir.length : Int) := by omega
                obtain ⟨b1, o1, hab1, hw1, d0, d1, d2, d3⟩ := spotsAt_keep HD1.out HB.out k hlt
                obtain ⟨b2, o2, hab2, hw2, e0, e1, e2, e3⟩ := spotsAt_keep HD2.out HB.out k hkb
                have hnq := neq_spot DL[k] dir[k]
                have HNE : Hid (spotEq DL[k] dir[k] = false → R = false) := fun h => HNO.out (fun h9 => by
                  have e9 := h9.2.2.2
                  subst e9
                  rw [(spotEq_iff _ _).2 rfl] at h
                  cases h)
                have HYY : Hid (spotEq DL[k] dir[k] = true → ∀ j (h1 : j < DL.length) (h2 : j < dir.length), j < k + 1 → spotEq DL[j] dir[j] = true) := by
                  intro h j h1 h2 hj
                  by_cases hjk : j < k
                  · exact HK.out j h1 h2 hjk
                  · obtain rfl : j = k := by omega
                    exact h
                generalize DL[k] = A at d0 d1 d2 d3 hnq HNE HYY
                generalize dir[k] = D at e0 e1 e2 e3 hnq HNE HYY
                subst hab1 hab2
                cases hq : spotEq A D with
                | true =>
                  rw [hq] at hnq HYY
                  go_wp2_with fail
                  go_quiet (fail)
                  go_wp2_with fail
                  go_roundw
                  case rel => exact ⟨k + 1, by go_num, by omega, HYY.out (by first | rfl | trivial), below_drewN HB.out _⟩
                  case measure => simp [intOf]; omega
                | false =>
                  rw [hq] at hnq HNE
                  have hR := hide (HNE.out rfl)
                  go_wp2_with fail
                  go_quiet (fail)
                  go_wp2
                  go_ret
                  rw [hR.out]
                  exact ⟨rfl, below_drewN HBf.out _⟩
              · have hlt' : decide ((k : Int) < (DL.length : Int)) = false := by simp; omega
                have hR := hide (HYS.out (by first | rfl | trivial) (by first | rfl | trivial) (by first | rfl | trivial) ((spotsEq_iff _ _).1 (spotsEq_all HLN.out (fun j h1 h2 => HK.out j h1 h2 (by omega)))))
                go_wp2
                go_ret
                rw [hR.out]
                exact ⟨rfl, HBf.out⟩
          · have hln' : (((DL.length : Int)) != ((dir.length : Int))) = true := by rw [bne_iff_ne]; omega
            have hR := hide (HNO.out (fun h => hln (by rw [h.2.2.2])))
            clear hln
            go_wp2
            go_ret
            rw [hR.out]
            exact ⟨rfl, BwX.out⟩
        · have hsq' : (SQ != seq) = true := by rw [bne_iff_ne]; exact hsq
          have hR := hide (HNO.out (fun h => hsq h.2.2.1))
          clear hsq
          go_wp2
          go_ret
          rw [hR.out]
          exact ⟨rfl, BwX.out⟩
      · have hna' : ((NU : Int) != act) = true := by rw [bne_iff_ne]; exact hna
        have hR := hide (HNO.out (fun h => hna h.2.1))
        clear hna
        go_wp2
        go_ret
        rw [hR.out]
        exact ⟨rfl, BwX.out⟩
    · have ha0' : decide ((0 : Int) < (AL : Int)) = true := by rw [decide_eq_true_eq]; omega
      have ha0n : decide (0 < AL) = true := by rw [decide_eq_true_eq]; omega
      have hR := hide (HNO.out (fun h => ha0 h.1))
      clear ha0
      go_wp2
      go_ret
      rw [hR.out]
      exact ⟨rfl, BwX.out⟩
  · have HE := hide (engOkB_no (eng_not_openS (act := act) (seq := seq) (dir := dir) ho))
    obtain ⟨aa, ca, rfl⟩ := slice_form hac
    have hR : Hid (R = false) := HR.out.symm.trans HE.out
    go_wp2
    go_ret
    rw [hR.out]
    exact ⟨rfl, (HB0.out.trans (b1.mono HB0.out.size)).alloc (by have := HB0.out.size; have := b1.size; omega) _⟩
def recAt (fs : List FileD) (seg pos : Int) : Option ByteArray :=
  match fileD fs (segNm seg) with
  | none => none
  | some F => if 0 ≤ pos ∧ pos ≤ F.text.size then
      match unf (F.text.extract pos.toNat F.text.size) with
      | [] => none
      | x :: _ => some ((F.text.extract pos.toNat F.text.size).extract x.1 x.2)
    else none
def batSeq (o : Option ByteArray) : Int := (o.map rdSeq).getD 0
def batOk (o : Option ByteArray) : Bool := (o.map rdOk).getD false
def batChs (o : Option ByteArray) : List ChangeD := (o.map rdChanges).getD []
theorem recAt_none {fs : List FileD} {seg pos : Int} (h : fileD fs (segNm seg) = none) : recAt fs seg pos = none := by unfold recAt; rw [h]
theorem recAt_out {fs : List FileD} {seg pos : Int} {F : FileD} (h : fileD fs (segNm seg) = some F) (hp : ¬ (0 ≤ pos ∧ pos ≤ F.text.size)) : recAt fs seg pos = none := by
  unfold recAt; rw [h]; simp only []; rw [if_neg hp]
theorem recAt_nil {fs : List FileD} {seg : Int} {p : Nat} {F : FileD} {T : ByteArray} (h : fileD fs (segNm seg) = some F) (hp : p ≤ F.text.size) (hT : F.text.extract p F.text.size = T) (hu : unf T = []) : recAt fs seg (p : Int) = none := by
  unfold recAt; rw [h]; simp only []; rw [if_pos ⟨by omega, by omega⟩, Int.toNat_natCast, hT, hu]
theorem recAt_some {fs : List FileD} {seg : Int} {p : Nat} {F : FileD} {T : ByteArray} {x : Nat × Nat} {r : List (Nat × Nat)} (h : fileD fs (segNm seg) = some F) (hp : p ≤ F.text.size) (hT : F.text.extract p F.text.size = T) (hu : unf T = x :: r) : recAt fs seg (p : Int) = some (T.extract x.1 x.2) := by
  unfold recAt; rw [h]; simp only []; rw [if_pos ⟨by omega, by omega⟩, Int.toNat_natCast, hT, hu]
theorem two_cells {wb W : World} {g : Nat} {x y : Value} {t : Nat} (h : wb.heap[g]? = some (.cells #[x, y] t (0, 0))) (hb : Below wb.heap.size wb W) :
    W.heap[g]? = some (.cells #[x, y] t (0, 0)) := (hb.block g (heap_lt h)).trans h
theorem l07Batch_any (fs : List FileD) (ao : Option Addr) (cap : Nat) (seg pos : Int) (w : World) (hl : fs.length ≤ 1048576) (hfs : FilesAt w ao fs) (hsz : ∀ F ∈ fs, F.name.size ≤ 1048576 ∧ F.text.size ≤ 1048576) :
    Calls Tryz.prog 45 #[.agg #[.slice ao fs.length cap], .int .i64 seg, .int .i64 pos] w fun e w' => (∃ v, e = .returned (.tuple #[.agg #[.int .i64 (batSeq (recAt fs seg pos)), v], .bool (batOk (recAt fs seg pos))]) ∧ RowChange w' w.heap.size v (batChs (recAt fs seg pos))) ∧ Below w.heap.size w w' := by
  have HF := hide hfs
  have HS := hide hsz
  clear hfs hsz
  obtain ⟨wb, hwb⟩ : ∃ wb, wb = (w.alloc (.cells #[.slice ao fs.length cap] 34)).alloc (.cells #[.int .i64 0, .slice none 0 0] 88) := ⟨_, rfl⟩
  have HB0 : Hid (Below w.heap.size w wb) := by rw [hwb]; exact ((Below.refl _ w).alloc (Nat.le_refl _) _).alloc (by simp) _
  have hbs2 : w.heap.size + 2 ≤ wb.heap.size := by rw [hwb]; simp
  have hbs : w.heap.size < wb.heap.size := by omega
  have hc0 : wb.cell? ⟨w.heap.size, 0, none⟩ = some (.slice ao fs.length cap) := by
    have h1 : (w.alloc (.cells #[.slice ao fs.length cap] 34)).cell? ⟨w.heap.size, 0, none⟩ = some (.slice ao fs.length cap) := (cell_of_row _ _ 0 _ _ (0, 0) (heap_alloc_new w _)).trans rfl
    rw [hwb]
    exact ((((Below.refl _ (w.alloc (.cells #[.slice ao fs.length cap] 34))).alloc (Nat.le_refl _) (.cells #[.int .i64 0, .slice none 0 0] 88)).cell (p := ⟨w.heap.size, 0, none⟩) (by simp))).trans h1
  have HR0 : Hid (wb.heap[w.heap.size + 1]? = some (.cells #[.int .i64 0, .slice none 0 0] 88 (0, 0))) := by
    show _ = _
    rw [hwb, show w.heap.size + 1 = (w.alloc (.cells #[.slice ao fs.length cap] 34)).heap.size from by simp]
    exact heap_alloc_new _ _
  obtain ⟨NM, HNM⟩ : ∃ NM, Hid (segNm seg = NM) := ⟨_, rfl⟩
  have HN : Hid (∀ W : World, Calls Tryz.prog 59 #[.int .i64 seg] W fun e w' => e = .returned (.string NM) ∧ Below W.heap.size W w') := fun W => by rw [← HNM.out]; exact specSegName_any seg W
  cases hfd : fileD fs (segNm seg) with
  | none =>
    have HE := hide (recAt_none (pos := pos) hfd)
    have HAT : Hid (∀ W, Below wb.heap.size wb W → Calls Tryz.prog 58 #[.agg #[.slice ao fs.length cap], .string NM] W fun e w' => e = .returned (.tuple #[.string ⟨#[]⟩, .bool false]) ∧ Below W.heap.size W w') := fun W hW => specFileAt_none' fs ao cap NM W hl (filesAt_keep (filesAt_keep HF.out HB0.out) hW) (by rw [← HNM.out]; exact hfd)
    clear hfd
    go_enter Tryz.func45, Tryz.ntmps45
    go_wp2_with fail
    rw [← hwb]
    clear hwb
    go_region_held3 (fun w' => w'.cell? ⟨w.heap.size, 0, none⟩ = some (.slice ao fs.length cap)) (first | go_keep | (exact hc0) | (exact (b1.cell (p := ⟨w.heap.size, 0, none⟩) hbs).trans hc0) | (exact ((b1.trans (b2.mono b1.size)).cell (p := ⟨w.heap.size, 0, none⟩) hbs).trans hc0)) ((first | (go_at_call 59; refine (HN.out _).mono ?_; rintro e w1 ⟨rfl, b1⟩) | (go_at_call 58; refine (HAT.out _ (by first | exact b1 | exact (Below.refl _ _).drew.trans b1)).mono ?_; rintro e w2 ⟨rfl, b2⟩)))
    have B2 : Hid (Below wb.heap.size wb w2) := (Below.refl _ _).drew.trans (b1.trans (b2.mono b1.size))
    clear b1 b2
    have B3 := hide (HB0.out.trans (B2.out.mono HB0.out.size))
    have hr0 : w2.cell? ⟨w.heap.size + 1, 0, none⟩ = some (.int .i64 0) := (cell_of_row w2 _ 0 _ _ (0, 0) (two_cells HR0.out B2.out)).trans rfl
    have hr1 : w2.cell? ⟨w.heap.size + 1, 1, none⟩ = some (.slice none 0 0) := (cell_of_row w2 _ 1 _ _ (0, 0) (two_cells HR0.out B2.out)).trans rfl
    have hrf0 := frozen_of_row w2 (w.heap.size + 1) 0 _ _ (two_cells HR0.out B2.out)
    have hrf1 := frozen_of_row w2 (w.heap.size + 1) 1 _ _ (two_cells HR0.out B2.out)
    go_wp2_with fail
    refine bodyPost_ret (v := .tuple #[.agg #[.int .i64 0, .slice none 0 0], .bool false]) (by simp [results, Tryz.results45, go_sem, hr0, hr1]) rfl ⟨⟨.slice none 0 0, by rw [HE.out]; rfl, by rw [HE.out]; exact .inl ⟨rfl, rfl⟩⟩, ?_⟩
    exact (B3.out.setCell (p := ⟨w.heap.size + 1, 0, none⟩) (by simp) _).setCell (p := ⟨w.heap.size + 1, 1, none⟩) (by simp) _
  | some F =>
    have hFs := (HS.out F (List.mem_of_find?_eq_some hfd)).2
    have HAT : Hid (∀ W, Below wb.heap.size wb W → Calls Tryz.prog 58 #[.agg #[.slice ao fs.length cap], .string NM] W fun e w' => e = .returned (.tuple #[.string F.text, .bool true]) ∧ Below W.heap.size W w') := fun W hW => specFileAt_some' fs ao cap NM W F hl (filesAt_keep (filesAt_keep HF.out HB0.out) hW) (by rw [← HNM.out]; exact hfd)
    have HFD := hide hfd
    clear hfd
    go_enter Tryz.func45, Tryz.ntmps45
    go_wp2_with fail
    rw [← hwb]
    clear hwb
    go_region_held3 (fun w' => w'.cell? ⟨w.heap.size, 0, none⟩ = some (.slice ao fs.length cap)) (first | go_keep | (exact hc0) | (exact (b1.cell (p := ⟨w.heap.size, 0, none⟩) hbs).trans hc0) | (exact ((b1.trans (b2.mono b1.size)).cell (p := ⟨w.heap.size, 0, none⟩) hbs).trans hc0)) ((first | (go_at_call 59; refine (HN.out _).mono ?_; rintro e w1 ⟨rfl, b1⟩) | (go_at_call 58; refine (HAT.out _ (by first | exact b1 | exact (Below.refl _ _).drew.trans b1)).mono ?_; rintro e w2 ⟨rfl, b2⟩)))
    have B2 : Hid (Below wb.heap.size wb w2) := (Below.refl _ _).drew.trans (b1.trans (b2.mono b1.size))
    clear b1 b2
    have B3 := hide (HB0.out.trans (B2.out.mono HB0.out.size))
    have HR2 := hide (two_cells HR0.out B2.out)
    by_cases hp : 0 ≤ pos ∧ pos ≤ F.text.size
    · obtain ⟨p, rfl⟩ := Int.eq_ofNat_of_zero_le hp.1
      have hp2 : p ≤ F.text.size := by omega
      obtain ⟨T, hTT⟩ : ∃ T, F.text.extract p F.text.size = T := ⟨_, rfl⟩
      have hTz : T.size ≤ 1048576 := by rw [← hTT, ByteArray.size_extract]; omega
      have hcut := cut_from F.text p (p : Int) T rfl hp2 hTT
      have HTT := hide hTT
      clear hTT
      have HU := hide (fun W => specUnframe_any T W hTz)
      obtain ⟨U, HUU⟩ : ∃ U, Hid (unf T = U) := ⟨_, rfl⟩
      have HCH : Hid (chained T 0 U) := by show chained _ _ _; rw [← HUU.out]; exact unf_chained T
      obtain ⟨L, HL⟩ : ∃ L, Hid (recs T U = L) := ⟨_, rfl⟩
      have hUl : U.length ≤ 20001 := by rw [← HUU.out]; exact unf_len T
      have hLl : L.length = U.length := by rw [← HL.out, recs_len]
      obtain ⟨eo, HEO⟩ : ∃ eo : Int, Hid (((endOf U : Nat) : Int) = eo) := ⟨_, rfl⟩
      have HUN : Hid (∀ W, Calls Tryz.prog 84 #[.string T] W fun e w' => ∃ v, e = .returned (.tuple #[v, .int .i64 eo]) ∧ w'.ownsRow W.heap.size 9 1 v L.length (L.map sv) ∧ Below W.heap.size W w') := by
        intro W
        have h := HU.out W
        unfold FramesLeft at h
        rw [HUU.out, HL.out, HEO.out] at h
        exact h
      clear HU HEO
      go_wp2_with fail
      refine (l01In_yes _ _ _ _ (by omega) (by omega)).mono ?_
      rintro e w3 ⟨rfl, rfl⟩
      go_wp2_with fail
      refine (HUN.out _).mono ?_
      rintro e w4 ⟨lv, rfl, hown, b4⟩
      have B4 := hide (B2.out.trans (b4.mono B2.out.size))
      have B5 := hide (HB0.out.trans (B4.out.mono HB0.out.size))
      have HO := hide hown
      clear hown b4 HR2
      cases U with
      | nil =>
        have HE := hide (recAt_nil (p := p) HFD.out hp2 HTT.out HUU.out)
        obtain rfl : L = [] := List.eq_nil_of_length_eq_zero hLl
        obtain ⟨a, c, rfl⟩ := slice_form HO.out
        have hr0 : w4.cell? ⟨w.heap.size + 1, 0, none⟩ = some (.int .i64 0) := (cell_of_row w4 _ 0 _ _ (0, 0) (two_cells HR0.out B4.out)).trans rfl
        have hr1 : w4.cell? ⟨w.heap.size + 1, 1, none⟩ = some (.slice none 0 0) := (cell_of_row w4 _ 1 _ _ (0, 0) (two_cells HR0.out B4.out)).trans rfl
        have hrf0 := frozen_of_row w4 (w.heap.size + 1) 0 _ _ (two_cells HR0.out B4.out)
        have hrf1 := frozen_of_row w4 (w.heap.size + 1) 1 _ _ (two_cells HR0.out B4.out)
        go_wp2_with fail
        refine bodyPost_ret (v := .tuple #[.agg #[.int .i64 0, .slice none 0 0], .bool false]) (by simp [results, Tryz.results45, go_sem, hr0, hr1]) rfl ⟨⟨.slice none 0 0, by rw [HE.out]; rfl, by rw [HE.out]; exact .inl ⟨rfl, rfl⟩⟩, ?_⟩
        exact (B5.out.setCell (p := ⟨w.heap.size + 1, 0, none⟩) (by simp) _).setCell (p := ⟨w.heap.size + 1, 1, none⟩) (by simp) _
      | cons x0 r =>
        have HE := hide (recAt_some (p := p) HFD.out hp2 HTT.out HUU.out)
        have hx0 := chained_get HCH.out x0 (List.mem_cons_self ..)
        obtain ⟨T0, HT0⟩ : ∃ T0, Hid (T.extract x0.1 x0.2 = T0) := ⟨_, rfl⟩
        rw [HT0.out] at hx0 HE
        have hg0 : L[0]? = some T0.data.toList := by rw [← HL.out, recs_get T (x0 :: r) 0 x0 rfl, HT0.out]
        have hL1 : 1 ≤ L.length := by rw [hLl]; simp
        have hz : ((L.length : Int) == 0) = false := by rw [beq_eq_false_iff_ne]; omega
        obtain ⟨g, cap, hlv⟩ : ∃ g cap, lv = .slice (some ⟨g, 0, none⟩) L.length cap := by
          rcases HO.out.2 with ⟨-, h⟩ | ⟨g, cap, cur, h, _⟩
          · omega
          · exact ⟨g, cap, h⟩
        subst hlv
        have hcell := str_cell HO.out 0 (by omega) _ hg0
        rw [data_back] at hcell
        clear hg0
        have HRB := hide (fun W => specReadBatch_any T0 W (by omega))
        obtain ⟨q, HQ⟩ : ∃ q, Hid (rdSeq T0 = q) := ⟨_, rfl⟩
        obtain ⟨ok, HOK⟩ : ∃ q, Hid (rdOk T0 = q) := ⟨_, rfl⟩
        obtain ⟨cs, HCS⟩ : ∃ q, Hid (rdChanges T0 = q) := ⟨_, rfl⟩
        rw [HQ.out, HOK.out, HCS.out] at HRB
        go_wp2_with fail
        refine (HRB.out _).mono ?_
        rintro e w6 ⟨⟨v6, rfl, r6⟩, b6⟩
        have B6 := hide (B4.out.trans (b6.mono B4.out.size))
        have B7 := hide (HB0.out.trans (B6.out.mono HB0.out.size))
        have h4 : wb.heap.size ≤ w4.heap.size := B4.out.size
        have R6 := hide r6
        clear r6 b6 hcell
        have hr0 : w6.cell? ⟨w.heap.size + 1, 0, none⟩ = some (.int .i64 0) := (cell_of_row w6 _ 0 _ _ (0, 0) (two_cells HR0.out B6.out)).trans rfl
        have hr1 : w6.cell? ⟨w.heap.size + 1, 1, none⟩ = some (.slice none 0 0) := (cell_of_row w6 _ 1 _ _ (0, 0) (two_cells HR0.out B6.out)).trans rfl
        have hrf0 := frozen_of_row w6 (w.heap.size + 1) 0 _ _ (two_cells HR0.out B6.out)
        have hrf1 := frozen_of_row w6 (w.heap.size + 1) 1 _ _ (two_cells HR0.out B6.out)
        obtain ⟨a6, c6, rfl, -⟩ := rowChange_at R6.out
        go_wp2_with fail
        refine bodyPost_ret (v := .tuple #[.agg #[.int .i64 q, .slice a6 cs.length c6], .bool ok]) (by simp [results, Tryz.results45, go_sem, hr0, hr1]) rfl ⟨⟨.slice a6 cs.length c6, by rw [HE.out]; show _ = Ending.returned (.tuple #[.agg #[.int .i64 (rdSeq T0), _], .bool (rdOk T0)]); rw [HQ.out, HOK.out], ?_⟩, ?_⟩
        · rw [HE.out]
          show RowChange _ _ _ (rdChanges T0)
          rw [HCS.out]
          exact rowChange_le (rowChange_grown R6.out (grownBy_store (grownBy_store (World.grownBy.refl _ _) 0 _) 1 _) (fun g hg => by have := (rowChange_lt R6.out g hg).1; simp; omega)) (by omega)
        · exact (B7.out.setCell (p := ⟨w.heap.size + 1, 0, none⟩) (by simp) _).setCell (p := ⟨w.heap.size + 1, 1, none⟩) (by simp) _
    · have HE := hide (recAt_out HFD.out hp)
      have hpo : pos < 0 ∨ (F.text.size : Int) < pos := by omega
      clear hp
      go_wp2_with fail
      refine (l01In_no _ _ _ _ hpo).mono ?_
      rintro e w3 ⟨rfl, rfl⟩
      have hr0 : w3.cell? ⟨w.heap.size + 1, 0, none⟩ = some (.int .i64 0) := (cell_of_row w3 _ 0 _ _ (0, 0) HR2.out).trans rfl
      have hr1 : w3.cell? ⟨w.heap.size + 1, 1, none⟩ = some (.slice none 0 0) := (cell_of_row w3 _ 1 _ _ (0, 0) HR2.out).trans rfl
      have hrf0 := frozen_of_row w3 (w.heap.size + 1) 0 _ _ HR2.out
      have hrf1 := frozen_of_row w3 (w.heap.size + 1) 1 _ _ HR2.out
      go_wp2_with fail
      refine bodyPost_ret (v := .tuple #[.agg #[.int .i64 0, .slice none 0 0], .bool false]) (by simp [results, Tryz.results45, go_sem, hr0, hr1]) rfl ⟨⟨.slice none 0 0, by rw [HE.out]; rfl, by rw [HE.out]; exact .inl ⟨rfl, rfl⟩⟩, ?_⟩
      exact (B3.out.setCell (p := ⟨w.heap.size + 1, 0, none⟩) (by simp) _).setCell (p := ⟨w.heap.size + 1, 1, none⟩) (by simp) _
end Go.Proofs.YthpolfmbcipjaaaGreatDoor
