import Derived.Test.YtlcfblodflgleaaGreatDoorBe32
import Derived.Test.YtlcfblodflgleaaGreatDoorBe27
import Derived.Test.YtlcfblodflgleaaGreatDoorBe29
set_option maxRecDepth 100000
set_option maxHeartbeats 3200000
namespace Go.Proofs.YtlcfblodflgleaaGreatDoor
open Go.RowKit
theorem mendingActs_any (fs : List FileD) (ao : Option Addr) (cap : Nat) (v : Value) (B K : Nat) (w : World) (hl : fs.length ≤ 1048576) (hfs : FilesAt w ao fs) (hsz : ∀ F ∈ fs, F.name.size ≤ 1048576 ∧ F.text.size ≤ 1048576) (h0 : 0 < (segsL fs).length) (hG : BuildG w B K v (segsL fs)) :
    Calls Tryz.prog 105 #[.agg #[.slice ao fs.length cap], v] w fun e w' => (∃ v, e = .returned v ∧ w'.ownsRow w.heap.size 61 4 v (actsI fs).length (cellsAct (actsI fs))) ∧ Below w.heap.size w w' := by
  obtain ⟨a1, c1, rfl⟩ := buildG_form hG
  have HF := hide hfs
  have HS := hide hsz
  have HG := hide hG
  have hll := segsL_len fs
  clear hfs hsz hG
  obtain ⟨wb, hwb⟩ : ∃ wb, wb = w.alloc (.cells #[.slice ao fs.length cap] 31) := ⟨_, rfl⟩
  have HB0 : Hid (Below w.heap.size w wb) := by rw [hwb]; exact (Below.refl _ w).alloc (Nat.le_refl _) _
  have hbs : w.heap.size + 1 ≤ wb.heap.size := by rw [hwb]; simp
  have hbc : wb.cell? ⟨w.heap.size, 0, none⟩ = some (.slice ao fs.length cap) := by rw [hwb]; exact (cell_of_row _ _ 0 _ _ (0, 0) (heap_alloc_new w _)).trans rfl
  go_enter Tryz.func105, Tryz.ntmps105
  go_wp2_with fail
  rw [← hwb]
  clear hwb
  obtain ⟨l, HLL⟩ : ∃ l, Hid (segsL fs = l) := ⟨_, hide rfl⟩
  rw [HLL.out] at HG h0 hll
  rw [HLL.out]
  obtain ⟨m, HM⟩ : ∃ m, Hid (firstG fs = m) := ⟨_, hide rfl⟩
  have hm0 : Hid (l[0].num = m) := by
    show _ = _
    rw [← HM.out]
    unfold firstG
    rw [HLL.out, List.head?_eq_getElem?, List.getElem?_eq_getElem h0]
    rfl
  have hm1 : m ≤ 100 := by
    have := (segsTo_mem (segsL_mem (fs := fs) (s := l[0]) (by rw [HLL.out]; exact List.getElem_mem h0))).1
    have := hm0.out
    omega
  obtain ⟨g0, hg0, hgw0, hz0, -⟩ := buildG_at HG.out 0 h0
  subst hg0
  have HZ0 : Hid (w.cell? ⟨g0, 0, none⟩ = some (.int .i64 (m : Int))) := by show _ = _; rw [← hm0.out]; simpa using hz0
  clear hz0
  have hs0 : (0 : Int) < (l.length : Int) := by omega
  go_wp2_with fail
  go_loopw [5, 15] (fun vo ii wr => ∃ (k : Nat), ii = .int .i64 k ∧ k ≤ fs.length ∧ Hid (wr.ownsRow wb.heap.size 61 4 vo (dropsI m (fs.take k)).length (cellsAct (dropsI m (fs.take k)))) ∧ Hid (Below wb.heap.size wb wr)) (fun _ ii _ => fs.length - (intOf ii).toNat)
  case atStart => exact ⟨0, rfl, Nat.zero_le _, World.ownsRow_nil _ _ _ _, Below.refl _ _⟩
  case round =>
    obtain ⟨k, rfl, hk, HO, HB⟩ := hrel
    have hws := HB.out.size
    have HBw : Hid (Below w.heap.size w wr) := HB0.out.trans (HB.out.mono HB0.out.size)
    by_cases hlt : k < fs.length
    · have hlt' : decide ((k : Int) < (fs.length : Int)) = true := by simp; omega
      have hi0 : (0 : Int) ≤ (k : Int) := by omega
      have hi1 : (k : Int) < (fs.length : Int) := by omega
      obtain ⟨b, off, hab, hbw, hc0, hc1, hc2⟩ := filesAt_keep HF.out HBw.out k hlt
      have HX := (HS.out fs[k] (List.getElem_mem hlt)).1
      have htk := hide (List.take_succ_eq_append_getElem hlt)
      generalize fs[k] = F at hc0 hc1 hc2 HX htk
      subst hab
      obtain ⟨L, HL⟩ : ∃ L, Hid (dropsI m (fs.take k) = L) := ⟨_, hide rfl⟩
      have hLl : L.length ≤ 1048576 := by
        rw [← HL.out]
        have := dropsI_len m (fs.take k)
        rw [List.length_take] at this
        omega
      rw [HL.out] at HO
      obtain ⟨wX, hwX⟩ : ∃ x, x = wr.alloc (.cells #[.string F.name, .string F.text, .int .i64 F.kept] 109) := ⟨_, rfl⟩
      have BX : Hid (Below wr.heap.size wr wX) := by rw [hwX]; exact (Below.refl _ wr).alloc (Nat.le_refl _) _
      have hxs : wX.heap.size = wr.heap.size + 1 := by rw [hwX]; simp
      have HXB : Hid (wX.heap[wr.heap.size]? = some (.cells #[.string F.name, .string F.text, .int .i64 F.kept] 109 (0, 0))) := by rw [hwX]; exact heap_alloc_new wr _
      have hx0 : wX.cell? ⟨wr.heap.size, 0, none⟩ = some (.string F.name) := (cell_of_row wX _ 0 _ _ (0, 0) HXB.out).trans rfl
      have hy0 : wX.cell? ⟨g0, 0, none⟩ = some (.int .i64 (m : Int)) := ((HBw.out.trans (BX.out.mono HBw.out.size)).cell (p := ⟨g0, 0, none⟩) hgw0).trans HZ0.out
      have HOX := hide (ownsRow_below HO.out BX.out)
      have HIB := hide (fun W => isSegmentBelow_any m F.name W hm1)
      have HNW : Hid (isNew F.name = (F.name.toList == ([109, 43] : List UInt8))) := by show _ = _; unfold isNew; rw [show nmNew.toList = [109, 43] from by rw [ByteArray.toList_eq]]
      cases hn : (F.name.toList == ([109, 43] : List UInt8)) with
      | true =>
        have HGO : Hid (goesB m F = true) := by show _ = _; unfold goesB; rw [HNW.out, hn]; rfl
        go_wp2_with fail
        rw [← hwX]
        clear hwX
        go_quiet ((go_at_call 134; exact Calls.quiet_of_same (HIB.out _)))
        go_wp2_with fail
        refine (ownText_any F.name _ HX).mono ?_
        rintro e w3 ⟨rfl, b3⟩
        have B3 : Hid (Below wX.heap.size wX w3) := (drewN_below wX nq).trans (b3.mono (drewN_below wX nq).size)
        have hw3 : wX.heap.size ≤ w3.heap.size := B3.out.size
        clear b3
        go_wp2_with (at_builtin; refine app_act _ wb.heap.size (by rfl) _ _ (by rfl) _ L (dropA F.name) (by rfl) ((ownsRow_below HOX.out B3.out).alloc _) w3.heap.size (by rfl) (heap_alloc_new w3 _) hLl (by simp; omega) ?_; intro g5 cap5 w5 ho5 hb5 hg5 hgl5; have HO5 := hide ho5; have HB5 := hide hb5; clear ho5 hb5 hg5 hgl5)
        go_roundw
        case rel =>
          refine ⟨k + 1, by go_num, by omega, ?_, ((HB.out.trans ((BX.out.trans (B3.out.mono BX.out.size)).mono hws)).alloc (by omega) _).trans HB5.out⟩
          show World.ownsRow _ _ _ _ _ _ _
          rw [htk.out, dropsI_snoc_yes HGO.out, HL.out]
          exact HO5.out
        case measure => simp [intOf]; omega
      | false =>
        cases hbl : isBelow m F.name with
        | true =>
          have HGO : Hid (goesB m F = true) := by show _ = _; unfold goesB; rw [HNW.out, hn, hbl]; rfl
          rw [hbl] at HIB
          clear hbl
          go_wp2_with fail
          rw [← hwX]
          clear hwX
          go_quiet ((go_at_call 134; exact Calls.quiet_of_same (HIB.out _)))
          go_wp2_with fail
          refine (ownText_any F.name _ HX).mono ?_
          rintro e w3 ⟨rfl, b3⟩
          have B3 : Hid (Below wX.heap.size wX w3) := (drewN_below wX nq).trans (b3.mono (drewN_below wX nq).size)
          have hw3 : wX.heap.size ≤ w3.heap.size := B3.out.size
          clear b3
          go_wp2_with (at_builtin; refine app_act _ wb.heap.size (by rfl) _ _ (by rfl) _ L (dropA F.name) (by rfl) ((ownsRow_below HOX.out B3.out).alloc _) w3.heap.size (by rfl) (heap_alloc_new w3 _) hLl (by simp; omega) ?_; intro g5 cap5 w5 ho5 hb5 hg5 hgl5; have HO5 := hide ho5; have HB5 := hide hb5; clear ho5 hb5 hg5 hgl5)
          go_roundw
          case rel =>
            refine ⟨k + 1, by go_num, by omega, ?_, ((HB.out.trans ((BX.out.trans (B3.out.mono BX.out.size)).mono hws)).alloc (by omega) _).trans HB5.out⟩
            show World.ownsRow _ _ _ _ _ _ _
            rw [htk.out, dropsI_snoc_yes HGO.out, HL.out]
            exact HO5.out
          case measure => simp [intOf]; omega
        | false =>
          have HGO : Hid (goesB m F = false) := by show _ = _; unfold goesB; rw [HNW.out, hn, hbl]; rfl
          rw [hbl] at HIB
          clear hbl
          go_wp2_with fail
          rw [← hwX]
          clear hwX
          go_quiet ((go_at_call 134; exact Calls.quiet_of_same (HIB.out _)))
          go_wp2_with fail
          go_roundw
          case rel =>
            have bq := drewN_below wX nq
            refine ⟨k + 1, by go_num, by omega, ?_, HB.out.trans ((BX.out.trans (bq.mono BX.out.size)).mono hws)⟩
            show World.ownsRow _ _ _ _ _ _ _
            rw [htk.out, dropsI_snoc_no HGO.out, HL.out]
            exact ownsRow_below HOX.out bq
          case measure => simp [intOf]; omega
    · have hlt' : decide ((k : Int) < (fs.length : Int)) = false := by simp; omega
      have hke : k = fs.length := by omega
      subst hke
      rw [List.take_length] at HO
      have HLO := hide (fun W h => lastOf_any l (.slice (some ⟨g0, 0, none⟩) l.length c1) B K W hll h0 h)
      obtain ⟨Z, HZ⟩ : ∃ Z, Hid (l[l.length - 1]'(by omega) = Z) := ⟨_, hide rfl⟩
      rw [HZ.out] at HLO
      have HLG : Hid (lastG fs = Z) := by
        show _ = _
        unfold lastG
        rw [HLL.out, List.getLast?_eq_getElem?, List.getElem?_eq_getElem (by omega), HZ.out]
        rfl
      obtain ⟨hZ0, -, F, hF1, hF2, hF3⟩ := segsTo_mem (segsL_mem (fs := fs) (s := Z) (by rw [HLL.out, ← HZ.out]; exact List.getElem_mem _))
      have HTX : Hid (Z.torn = true → Z.fin < F.text.size) := fun ht => by
        rw [hF2] at ht ⊢
        unfold segOfFile segTorn at ht
        simp only [Bool.and_eq_true, decide_eq_true_eq] at ht
        exact ht.2
      have HFS := (HS.out F hF1).2
      have HFD := hide hF3
      clear hF2 hF1 hF3
      obtain ⟨L, HL⟩ : ∃ L, Hid (dropsI m fs = L) := ⟨_, hide rfl⟩
      have hLl : L.length ≤ 1048576 := by
        rw [← HL.out]
        have := dropsI_len m fs
        omega
      rw [HL.out] at HO
      obtain ⟨ag, cg, hvo⟩ := slice_form HO.out
      subst hvo
      cases ht : Z.torn with
      | false =>
        have HE : Hid (actsI fs = L) := by show _ = _; unfold actsI mendA; rw [HLG.out, ht, HM.out, HL.out]; simp
        go_wp2_with fail
        refine (HLO.out _ (buildG_below HG.out HBw.out)).mono ?_
        rintro e w3 ⟨⟨a, c, a', c', rfl, -⟩, b3⟩
        rw [ht]
        have B3 := hide b3
        obtain ⟨wX, hwX⟩ : ∃ x, x = w3.alloc (.cells #[.int .i64 (Z.num : Int), .int .i64 (Z.frm : Int), .slice a Z.bs.length c, .slice a' Z.pls.length c', .int .i64 (Z.fin : Int), .bool Z.right, .bool false] 173) := ⟨_, rfl⟩
        have BX : Hid (Below w3.heap.size w3 wX) := by rw [hwX]; exact (Below.refl _ w3).alloc (Nat.le_refl _) _
        obtain ⟨hx0, hx1, hx2, hx3, hx4, hx5, hx6⟩ := seven_cells (W := wX) (g := w3.heap.size) (by rw [hwX]; exact heap_alloc_new w3 _)
        clear b3
        go_wp2_with fail
        rw [← hwX]
        clear hwX
        go_wp2
        go_ret
        rw [HE.out]
        have B4 : Below wr.heap.size wr wX := B3.out.trans (BX.out.mono B3.out.size)
        exact ⟨⟨_, rfl, ownsRow_mono (ownsRow_below HO.out B4) HB0.out.size⟩, HBw.out.trans (B4.mono HBw.out.size)⟩
      | true =>
        have hlt2 := HTX.out ht
        obtain ⟨NM, HNM⟩ : ∃ NM, Hid (segNm (Z.num : Int) = NM) := ⟨_, hide rfl⟩
        have HN : Hid (∀ W : World, Calls Tryz.prog 115 #[.int .i64 (Z.num : Int)] W fun e w' => e = .returned (.string NM) ∧ w' = W) := fun W => by rw [← HNM.out]; exact implSegName_any (Z.num : Int) W
        rw [HNM.out] at HFD
        obtain ⟨TX, HTT⟩ : ∃ T, Hid (F.text.extract 0 Z.fin = T) := ⟨_, hide rfl⟩
        have hcut : ∀ W : World, (Instr.slice 9 (.string F.text) none (some (.int .i64 (Z.fin : Int))) none).run Tryz.prog W = .ok (.string TX) W := by
          intro W
          rw [run_slice_string_to_if W 9 F.text .i64 (Z.fin : Int) Tryz.underlying9, if_pos (by omega), Int.toNat_natCast, HTT.out]
        have HE : Hid (actsI fs = L ++ newA NM TX) := by
          show _ = _
          unfold actsI mendA
          rw [HLG.out, ht, HM.out, HL.out, HNM.out, HFD.out]
          simp only [Option.map_some, Option.getD_some, if_true, HTT.out]
        go_wp2_with fail
        refine (HLO.out _ (buildG_below HG.out HBw.out)).mono ?_
        rintro e w3 ⟨⟨a, c, a', c', rfl, -⟩, b3⟩
        rw [ht]
        have B3 := hide b3
        obtain ⟨wX, hwX⟩ : ∃ x, x = w3.alloc (.cells #[.int .i64 (Z.num : Int), .int .i64 (Z.frm : Int), .slice a Z.bs.length c, .slice a' Z.pls.length c', .int .i64 (Z.fin : Int), .bool Z.right, .bool true] 173) := ⟨_, rfl⟩
        have BX : Hid (Below w3.heap.size w3 wX) := by rw [hwX]; exact (Below.refl _ w3).alloc (Nat.le_refl _) _
        have HXB : Hid (wX.heap[w3.heap.size]? = some (.cells #[.int .i64 (Z.num : Int), .int .i64 (Z.frm : Int), .slice a Z.bs.length c, .slice a' Z.pls.length c', .int .i64 (Z.fin : Int), .bool Z.right, .bool true] 173 (0, 0))) := by rw [hwX]; exact heap_alloc_new w3 _
        obtain ⟨hx0, hx1, hx2, hx3, hx4, hx5, hx6⟩ := seven_cells HXB.out
        have hX3 : w3.heap.size < wX.heap.size := heap_lt HXB.out
        have B4 : Hid (Below wr.heap.size wr wX) := B3.out.trans (BX.out.mono B3.out.size)
        have hbX : wX.cell? ⟨w.heap.size, 0, none⟩ = some (.slice ao fs.length cap) := ((HB.out.trans (B4.out.mono hws)).cell (p := ⟨w.heap.size, 0, none⟩) (by show w.heap.size < _; omega)).trans hbc
        clear b3
        go_wp2_with fail
        rw [← hwX]
        clear hwX
        go_wp2_with fail
        refine (HN.out _).mono ?_
        rintro e w4 ⟨rfl, hw4⟩
        subst hw4
        have HBX : Hid (Below w.heap.size w w4) := HBw.out.trans (B4.out.mono HBw.out.size)
        go_wp2_with fail
        refine (fileAt_some fs ao cap NM _ F hl (filesAt_keep HF.out HBX.out) HS.out HFD.out).mono ?_
        rintro e w5 ⟨rfl, b5⟩
        have B5 := hide b5
        have hy4 : w5.cell? ⟨w3.heap.size, 4, none⟩ = some (.int .i64 (Z.fin : Int)) := (b5.cell (p := ⟨w3.heap.size, 4, none⟩) hX3).trans hx4
        clear b5
        go_wp2_with fail
        have HX8 := hide (heap_alloc_new w5 (.cells #[.string TX] 9))
        refine (newFileActs_one NM TX w5.heap.size _ (heap_lt HX8.out) ((cell_of_row _ _ 0 _ _ (0, 0) HX8.out).trans rfl)).mono ?_
        rintro e w6 ⟨⟨a6, c6, rfl, o6⟩, b6⟩
        have B56 : Hid (Below w5.heap.size w5 w6) := ((Below.refl _ w5).alloc (Nat.le_refl _) _).trans (b6.mono (by simp))
        have B6 : Hid (Below wr.heap.size wr w6) := (B4.out.trans (B5.out.mono B4.out.size)).trans (B56.out.mono (by have := B4.out.size; have := B5.out.size; omega))
        have HK6 := hide o6
        have HO6 := hide (ownsRow_below HO.out B6.out)
        have hw6 := B6.out.size
        clear b6 o6
        go_wp2_with (at_builtin; refine app_actsR _ wb.heap.size (by rfl) _ _ (by rfl) _ L (newA NM TX) (by rfl) HO6.out _ 3 _ (by rfl) (by rfl) HK6.out hLl (by omega) (by omega) (by omega) ?_; intro g7 cap7 w7 ho7 hb7 hg7 hgl7; have HO7 := hide ho7; have HB7 := hide hb7; clear ho7 hb7 hg7 hgl7)
        go_ret
        rw [HE.out]
        exact ⟨⟨_, rfl, ownsRow_mono HO7.out HB0.out.size⟩, HB0.out.trans (((HB.out.trans (B6.out.mono hws)).trans HB7.out).mono HB0.out.size)⟩
end Go.Proofs.YtlcfblodflgleaaGreatDoor
namespace Go.Proofs.YtlcfblodflgleaaGreatDoor
open Go.RowKit Go.Shelf
theorem buildG_cap {w : World} {B K n cap : Nat} {ao : Option Addr} {l : List SegD} (h : BuildG w B K (.slice ao n cap) l) (h0 : 0 < l.length) : l.length ≤ cap ∧ ∃ g, ao = some ⟨g, 0, none⟩ := by
  obtain ⟨vs, ps, -, -, h2, -, -⟩ := h
  rcases h2.2 with ⟨_, hn⟩ | ⟨g, cap', cur, hv, hB, hC, hle, _, hs, ht⟩
  · omega
  · cases hv
    exact ⟨by omega, g, rfl⟩
theorem whole_no {fs : List FileD} {k : Nat} (hk : k + 1 < (segsL fs).length) (h : ((segsL fs)[k]'(by omega)).torn = true) : wholeB fs = false := by
  unfold wholeB
  rw [List.all_eq_false]
  refine ⟨(segsL fs)[k]'(by omega), ?_, by rw [h]; simp⟩
  rw [List.mem_iff_getElem?]
  exact ⟨k, by rw [List.getElem?_dropLast, if_pos (by omega), List.getElem?_eq_getElem]⟩
theorem whole_yes {fs : List FileD} (h : ∀ j (hj : j + 1 < (segsL fs).length), ((segsL fs)[j]'(by omega)).torn = false) : wholeB fs = true := by
  unfold wholeB
  rw [List.all_eq_true]
  intro s hs
  rw [List.mem_iff_getElem?] at hs
  obtain ⟨j, hj⟩ := hs
  rw [List.getElem?_dropLast] at hj
  split at hj
  · rename_i hlt
    rw [List.getElem?_eq_getElem (by omega), Option.some.injEq] at hj
    rw [← hj, h j (by omega)]
    rfl
  · cases hj
theorem soundSegments_any (fs : List FileD) (ao : Option Addr) (cap : Nat) (w : World) (hl : fs.length ≤ 1048576) (hfs : FilesAt w ao fs) (hsz : ∀ F ∈ fs, F.name.size ≤ 1048576 ∧ F.text.size ≤ 1048576) (hT : SumTab w) :
    Calls Tryz.prog 104 #[.agg #[.slice ao fs.length cap]] w fun e w' => Below w.heap.size w w' ∧
      ((soundB fs = true ∧ ∃ v, e = .returned (.tuple #[v, .nilIface]) ∧ BuildG w' w.heap.size w.heap.size v (segsL fs)) ∨ (soundB fs = false ∧ ∃ s, e = .returned (.tuple #[.slice none 0 0, .iface 135 (.agg #[.int .i64 1, .string s])]))) := by
  have HF := hide hfs
  have HS := hide hsz
  have HT := hide hT
  have hll := segsL_len fs
  have HSO := hide (fun W hW hT => segmentsOf_any fs ao cap W hl hW hsz hT)
  have HAK := hide (fun W hW => allKept_any fs ao cap W hl hW hsz)
  have HBL := hide (segsL_bl (fs := fs))
  clear hfs hsz hT
  obtain ⟨wb, hwb⟩ : ∃ wb, wb = w.alloc (.cells #[.slice ao fs.length cap] 31) := ⟨_, rfl⟩
  have HB0 : Hid (Below w.heap.size w wb) := by rw [hwb]; exact (Below.refl _ w).alloc (Nat.le_refl _) _
  have hbs : w.heap.size < wb.heap.size := by rw [hwb]; simp
  have hbc : wb.cell? ⟨w.heap.size, 0, none⟩ = some (.slice ao fs.length cap) := by rw [hwb]; exact (cell_of_row _ _ 0 _ _ (0, 0) (heap_alloc_new w _)).trans rfl
  cases hok : segsOk fs with
  | false =>
    have HE : Hid (soundB fs = false) := by show _ = _; unfold soundB seqsRise; rw [hok]; rfl
    rw [hok] at HSO
    clear hok
    go_enter Tryz.func104, Tryz.ntmps104
    go_wp2_with fail
    rw [← hwb]
    clear hwb
    go_wp2_with fail
    refine (HSO.out _ (filesAt_keep HF.out HB0.out) (sumTab_later HB0.out HT.out)).mono ?_
    rintro e w1 ⟨⟨v1, rfl, g1⟩, b1⟩
    obtain ⟨a1, c1, rfl⟩ := buildG_form g1
    have B1 := hide (HB0.out.trans (b1.mono HB0.out.size))
    clear g1 b1
    go_wp2
    go_ret2
    exact ⟨B1.out, .inr ⟨HE.out, _, rfl⟩⟩
  | true =>
    obtain ⟨R, HR⟩ : ∃ R, Hid (riseI (-1) (seqsOf (segsL fs)) = R) := ⟨_, hide rfl⟩
    have HSR := hide (fun v B K W h => seqsRise_any (segsL fs) v B K W hll HBL.out h)
    rw [HR.out] at HSR
    have HE0 : Hid (soundB fs = (R && (allKeptD fs && wholeB fs))) := by show _ = _; unfold soundB seqsRise; rw [hok, HR.out]; rfl
    rw [hok] at HSO
    have h0 : 0 < (segsL fs).length := by
      have h5 := hok
      unfold segsOk at h5
      simp only [Bool.and_eq_true, decide_eq_true_eq] at h5
      unfold segsL
      rw [if_pos hok]
      exact h5.2.2
    clear hok
    cases hr : R with
    | false =>
      rw [hr] at HSR HE0
      have HE : Hid (soundB fs = false) := HE0
      clear hr HE0
      go_enter Tryz.func104, Tryz.ntmps104
      go_wp2_with fail
      rw [← hwb]
      clear hwb
      go_wp2_with fail
      refine (HSO.out _ (filesAt_keep HF.out HB0.out) (sumTab_later HB0.out HT.out)).mono ?_
      rintro e w1 ⟨⟨v1, rfl, g1⟩, b1⟩
      obtain ⟨a1, c1, rfl⟩ := buildG_form g1
      have B1 := hide (HB0.out.trans (b1.mono HB0.out.size))
      have G1 := hide g1
      clear g1 b1
      go_wp2_with fail
      refine (HSR.out _ _ _ _ G1.out).mono ?_
      rintro e w2 ⟨rfl, b2⟩
      have B2 := hide (B1.out.trans (b2.mono B1.out.size))
      clear b2
      go_wp2
      go_ret2
      exact ⟨B2.out, .inr ⟨HE.out, _, rfl⟩⟩
    | true =>
      rw [hr] at HSR HE0
      clear hr
      go_enter Tryz.func104, Tryz.ntmps104
      go_wp2_with fail
      rw [← hwb]
      clear hwb
      go_wp2_with fail
      refine (HSO.out _ (filesAt_keep HF.out HB0.out) (sumTab_later HB0.out HT.out)).mono ?_
      rintro e w1 ⟨⟨v1, rfl, g1⟩, b1⟩
      obtain ⟨a1, c1, rfl⟩ := buildG_form g1
      have BB1 := hide b1
      have G1 := hide g1
      clear g1 b1
      go_wp2_with fail
      refine (HSR.out _ _ _ _ G1.out).mono ?_
      rintro e w2 ⟨rfl, b2⟩
      have BB2 := hide (BB1.out.trans (b2.mono BB1.out.size))
      have B2 := hide (HB0.out.trans (BB2.out.mono HB0.out.size))
      have G2 := hide (buildG_mono (buildG_below G1.out b2) HB0.out.size HB0.out.size)
      have hc2 : w2.cell? ⟨w.heap.size, 0, none⟩ = some (.slice ao fs.length cap) := (BB2.out.cell (p := ⟨w.heap.size, 0, none⟩) hbs).trans hbc
      clear b2 G1
      cases hak : allKeptD fs with
      | false =>
        rw [hak] at HAK HE0
        have HE : Hid (soundB fs = false) := HE0
        clear hak HE0
        go_wp2_with fail
        refine (HAK.out _ (filesAt_keep HF.out B2.out)).mono ?_
        rintro e w3 ⟨rfl, b3⟩
        have B3 := hide (B2.out.trans (b3.mono B2.out.size))
        clear b3
        go_wp2
        go_ret2
        exact ⟨B3.out, .inr ⟨HE.out, _, rfl⟩⟩
      | true =>
        rw [hak] at HAK HE0
        have HE : Hid (soundB fs = wholeB fs) := HE0
        clear hak HE0
        go_wp2_with fail
        refine (HAK.out _ (filesAt_keep HF.out B2.out)).mono ?_
        rintro e w3 ⟨rfl, b3⟩
        have B3 := hide (B2.out.trans (b3.mono B2.out.size))
        have G3 := hide (buildG_below G2.out b3)
        clear b3 G2
        obtain ⟨hcp, gg, hag⟩ := buildG_cap G3.out h0
        subst hag
        obtain ⟨NL, HNL⟩ : ∃ n, Hid ((segsL fs).length = n) := ⟨_, hide rfl⟩
        have hcN : NL ≤ c1 := by rw [← HNL.out]; exact hcp
        have hN0 : 0 < NL := by rw [← HNL.out]; exact h0
        have hN1 : NL ≤ 100 := by rw [← HNL.out]; exact hll
        have hj0 : (0 : Int) ≤ (NL : Int) - 1 := by omega
        have hj1 : (NL : Int) - 1 ≤ (c1 : Int) := by omega
        have hjn : ((NL : Int) - 1).toNat = NL - 1 := by omega
        have hjw : IntKind.i64.wrap ((NL : Int) - 1) = (NL : Int) - 1 := by rw [IntKind.wrap_i64]; omega
        rw [HNL.out]
        clear hcp
        go_wp2_with fail
        go_loopw [33] (fun ii wr => ∃ (k : Nat), ii = .int .i64 k ∧ k ≤ NL - 1 ∧ Hid (∀ j (hj : j < (segsL fs).length), j < k → ((segsL fs)[j]'hj).torn = false) ∧ Hid (Below w3.heap.size w3 wr)) (fun ii _ => NL - 1 - (intOf ii).toNat)
        case atStart => exact ⟨0, rfl, Nat.zero_le _, fun j hj h => absurd h (by omega), Below.refl _ _⟩
        case round =>
          obtain ⟨k, rfl, hk, HK, HB⟩ := hrel
          by_cases hlt : k < NL - 1
          · have hlt' : decide ((k : Int) < ((NL - 1 : Nat) : Int)) = true := by rw [decide_eq_true_eq]; omega
            have hi0 : (0 : Int) ≤ (k : Int) := by omega
            have hi1 : (k : Int) < ((NL - 1 : Nat) : Int) := by omega
            have hkl : k < (segsL fs).length := by rw [HNL.out]; omega
            obtain ⟨g, hg, hgw, hc0, hc1, ⟨a, c, hc2, -⟩, ⟨a', c', hc3, -⟩, hc4, hc5, hc6⟩ := buildG_at (buildG_below G3.out HB.out) k hkl
            cases hg
            obtain ⟨F, HFk⟩ : ∃ F, Hid ((segsL fs)[k] = F) := ⟨_, hide rfl⟩
            rw [HFk.out] at hc0 hc1 hc2 hc3 hc4 hc5 hc6
            cases ht : F.torn with
            | true =>
              rw [ht] at hc6
              have HW : Hid (soundB fs = false) := by show _ = _; rw [HE.out]; exact whole_no (k := k) (by rw [HNL.out]; omega) (by rw [HFk.out]; exact ht)
              have hx6 : (wr.alloc (.cells #[.int .i64 (F.num : Int), .int .i64 (F.frm : Int), .slice a F.bs.length c, .slice a' F.pls.length c', .int .i64 (F.fin : Int), .bool F.right, .bool true] 173)).cell? ⟨wr.heap.size, 6, none⟩ = some (.bool true) := (cell_of_row _ _ 6 _ _ (0, 0) (heap_alloc_new wr _)).trans rfl
              clear ht
              go_wp2
              go_ret2
              exact ⟨B3.out.trans ((HB.out.alloc HB.out.size _).mono B3.out.size), .inr ⟨HW.out, _, rfl⟩⟩
            | false =>
              rw [ht] at hc6
              have HK1 : Hid (∀ j (hj : j < (segsL fs).length), j < k + 1 → ((segsL fs)[j]'hj).torn = false) := by
                intro j hj hjk
                by_cases hje : j < k
                · exact HK.out j hj hje
                · obtain rfl : j = k := by omega
                  rw [HFk.out]
                  exact ht
              have hx6 : (wr.alloc (.cells #[.int .i64 (F.num : Int), .int .i64 (F.frm : Int), .slice a F.bs.length c, .slice a' F.pls.length c', .int .i64 (F.fin : Int), .bool F.right, .bool false] 173)).cell? ⟨wr.heap.size, 6, none⟩ = some (.bool false) := (cell_of_row _ _ 6 _ _ (0, 0) (heap_alloc_new wr _)).trans rfl
              clear ht
              go_wp2
              go_roundw
              case rel => exact ⟨k + 1, by go_num, by omega, HK1, HB.out.alloc HB.out.size _⟩
              case measure => simp [intOf]; omega
          · have hlt' : decide ((k : Int) < ((NL - 1 : Nat) : Int)) = false := by rw [decide_eq_false_iff_not]; omega
            have HW : Hid (soundB fs = true) := by show _ = _; rw [HE.out]; exact whole_yes (fun j hj => HK.out j (by omega) (by rw [HNL.out] at hj; omega))
            have HGF := hide (buildG_below G3.out HB.out)
            rw [HNL.out] at HGF
            go_wp2
            go_ret2
            exact ⟨B3.out.trans (HB.out.mono B3.out.size), .inl ⟨HW.out, _, rfl, HGF.out⟩⟩
end Go.Proofs.YtlcfblodflgleaaGreatDoor
