import Derived.Test.YtmmchemgegmhhaaGreatDoorGv43
import Derived.Test.YtmmchemgegmhhaaGreatDoorGv50
import Derived.Test.YtmmchemgegmhhaaGreatDoorGv45
set_option maxRecDepth 100000
set_option maxHeartbeats 3200000
namespace Go.Proofs.YtmmchemgegmhhaaGreatDoor
open Go.RowKit
theorem specGetValue_any (fs : List FileD) (ao ad : Option Addr) (cap cd : Nat) (room act seq : Int) (dir : List SpotD) (key : ByteArray) (w : World) (hl : fs.length ≤ 1048576) (hfs : FilesAt w ao fs) (hsz : ∀ F ∈ fs, F.name.size ≤ 1048576 ∧ F.text.size ≤ 1048576) (hld : dir.length ≤ 1048576) (hds : SpotsAt w ad dir) :
    Calls Tryz.prog 17 #[.agg #[.slice ao fs.length cap, .int .i64 room, .int .i64 act, .int .i64 seq, .slice ad dir.length cd], .string key] w fun e w' => e = .returned (.tuple #[.string (outTx (getE fs room act seq dir key)), .bool (getE fs room act seq dir key).isSome]) ∧ Below w.heap.size w w' := by
  have HEO := hide (fun W h1 h2 => specEngineOk_any fs ao ad cap cd room act seq dir W hl h1 hsz hld h2)
  have HUS := hide (fun s W h => specValueOf_any fs ao cap s W hl h hsz)
  have HF := hide hfs
  have HD := hide hds
  clear hfs hds hsz
  obtain ⟨wb, hwb⟩ : ∃ wb, wb = w.alloc (.cells #[.slice ao fs.length cap, .int .i64 room, .int .i64 act, .int .i64 seq, .slice ad dir.length cd] 30) := ⟨_, rfl⟩
  have HB0 : Hid (Below w.heap.size w wb) := by rw [hwb]; exact (Below.refl _ w).alloc (Nat.le_refl _) _
  have HBK : Hid (wb.heap[w.heap.size]? = some (.cells #[.slice ao fs.length cap, .int .i64 room, .int .i64 act, .int .i64 seq, .slice ad dir.length cd] 30 (0, 0))) := by rw [hwb]; exact heap_alloc_new w _
  obtain ⟨R, HR⟩ : ∃ R, Hid (getE fs room act seq dir key = R) := ⟨_, hide rfl⟩
  rw [HR.out]
  go_enter Tryz.func17, Tryz.ntmps17
  go_wp2_with fail
  rw [← hwb]
  obtain ⟨hz0, hz1, hz2, hz3, hz4, -⟩ := five_cells HBK.out
  clear hwb
  go_wp2_with fail
  refine (HEO.out _ (filesAt_keep HF.out HB0.out) (spotsAt_keep HD.out HB0.out)).mono ?_
  rintro e w1 ⟨rfl, b1⟩
  have HW1 := hide (HB0.out.trans (b1.mono HB0.out.size))
  have HBK1 := hide ((b1.block _ (heap_lt HBK.out)).trans HBK.out)
  clear hz0 hz1 hz2 hz3 hz4
  obtain ⟨hy0, hy1, hy2, hy3, hy4, -⟩ := five_cells HBK1.out
  cases hE : engOkB fs room act seq dir with
  | true =>
    have hR : Hid (getL fs key (dir.drop 0) = R) := (getE_yes hE).symm.trans HR.out
    go_wp2_with fail
    go_loopw [6] (fun ii wr => ∃ (k : Nat), ii = .int .i64 k ∧ k ≤ dir.length ∧ Hid (getL fs key (dir.drop k) = R) ∧ Hid (Below w1.heap.size w1 wr)) (fun ii _ => dir.length - (intOf ii).toNat)
    case atStart => exact ⟨0, rfl, Nat.zero_le _, hR, Below.refl _ _⟩
    case round =>
      obtain ⟨k, rfl, hk, HK1, HB⟩ := hrel
      have HBK2 := hide ((HB.out.block _ (heap_lt HBK1.out)).trans HBK1.out)
      obtain ⟨hx0, hx1, hx2, hx3, hx4, -⟩ := five_cells HBK2.out
      have HWr := hide (HW1.out.trans (HB.out.mono HW1.out.size))
      by_cases hlt : k < dir.length
      · have hlt' : decide ((k : Int) < (dir.length : Int)) = true := by simp; omega
        obtain ⟨b, off, rfl, hbw, hc0, hc1, hc2, hc3⟩ := spotsAt_keep HD.out HWr.out k hlt
        have hdk := List.drop_eq_getElem_cons hlt
        rw [hdk] at HK1
        clear hdk
        generalize dir[k] = A at hc0 hc1 hc2 hc3 HK1
        have hi0 : (0 : Int) ≤ (k : Int) := by omega
        have hi1 : (k : Int) < (dir.length : Int) := by omega
        cases hq : (A.key.toList == key.toList) with
        | false =>
          have HN : Hid (getL fs key (dir.drop (k + 1)) = R) := (getL_no hq).symm.trans HK1.out
          go_wp2
          go_roundw
          case rel => exact ⟨k + 1, by go_num, by omega, HN, HB⟩
          case measure => simp [intOf]; omega
        | true =>
          have HN : Hid (valD fs A = R) := (getL_yes hq).symm.trans HK1.out
          have hbl : w.heap.size < wr.heap.size := heap_lt HBK2.out
          have KS : Hid (∀ X, Below wr.heap.size wr X → (X.cell? ⟨w.heap.size, 0, none⟩ = some (.slice ao fs.length cap) ∧ X.cell? ⟨w.heap.size, 4, none⟩ = some (.slice (some ⟨b, off, none⟩) dir.length cd) ∧ X.cell? ⟨b, off + k * 4, none⟩ = some (.string A.key) ∧ X.cell? ⟨b, off + k * 4 + 1, none⟩ = some (.int .i64 A.seg) ∧ X.cell? ⟨b, off + k * 4 + 2, none⟩ = some (.int .i64 A.pos) ∧ X.cell? ⟨b, off + k * 4 + 3, none⟩ = some (.int .i64 A.seq))) := fun X hX => ⟨(hX.cell (p := ⟨w.heap.size, 0, none⟩) hbl).trans hx0, (hX.cell (p := ⟨w.heap.size, 4, none⟩) hbl).trans hx4, (hX.cell (p := ⟨b, off + k * 4, none⟩) hbw).trans hc0, (hX.cell (p := ⟨b, off + k * 4 + 1, none⟩) hbw).trans hc1, (hX.cell (p := ⟨b, off + k * 4 + 2, none⟩) hbw).trans hc2, (hX.cell (p := ⟨b, off + k * 4 + 3, none⟩) hbw).trans hc3⟩
          have HVA : Hid (∀ X, Below wr.heap.size wr X → Calls Tryz.prog 53 #[.agg #[.slice ao fs.length cap], .agg #[.string A.key, .int .i64 A.seg, .int .i64 A.pos, .int .i64 A.seq]] X fun e w' => e = .returned (.tuple #[.string (outTx R), .bool R.isSome]) ∧ Below X.heap.size X w') := fun X hX => by
            have h := HUS.out A X (filesAt_keep HF.out (HWr.out.trans (hX.mono HWr.out.size)))
            rw [HN.out] at h
            exact h
          go_wp2_with fail
          clear HUS HN HK1 HR hR hE HEO
          go_region_held3 (fun w' => w'.cell? ⟨w.heap.size, 0, none⟩ = some (.slice ao fs.length cap) ∧ w'.cell? ⟨w.heap.size, 4, none⟩ = some (.slice (some ⟨b, off, none⟩) dir.length cd) ∧ w'.cell? ⟨b, off + k * 4, none⟩ = some (.string A.key) ∧ w'.cell? ⟨b, off + k * 4 + 1, none⟩ = some (.int .i64 A.seg) ∧ w'.cell? ⟨b, off + k * 4 + 2, none⟩ = some (.int .i64 A.pos) ∧ w'.cell? ⟨b, off + k * 4 + 3, none⟩ = some (.int .i64 A.seq)) ((refine KS.out _ ?_; first | (exact e2) | (exact (Below.refl _ _).drew) | fail)) ((go_at_call 53; refine (HVA.out _ ?_).mono ?_; exact (Below.refl _ _).drew; rintro e w2 ⟨rfl, b2⟩; have e2 : Below wr.heap.size wr w2 := ((Below.refl _ _).drew).trans b2))
          go_wp2
          refine bodyPost_ret (results_tmp2 rfl _ _ _) rfl ?_
          exact ⟨rfl, HWr.out.trans (e2.mono HWr.out.size)⟩
      · have hlt' : decide ((k : Int) < (dir.length : Int)) = false := by simp; omega
        have hRn : Hid (R = none) := by show _ = _; rw [← HK1.out, List.drop_eq_nil_of_le (by omega)]; rfl
        go_wp2
        refine bodyPost_ret (results_tmp2 rfl _ _ _) rfl ?_
        rw [hRn.out]
        exact ⟨rfl, HWr.out⟩
  | false =>
    have hR : Hid (R = none) := HR.out.symm.trans (getE_no hE)
    go_wp2
    refine bodyPost_ret (results_tmp2 rfl _ _ _) rfl ?_
    rw [hR.out]
    exact ⟨rfl, HW1.out⟩
theorem lawGetValue (fs : List FileD) (ao ad : Option Addr) (cap cd : Nat) (room act seq : Int) (dir : List SpotD) (key : ByteArray) (w : World) (hkz : key.size ≤ maxLen) (hl0 : fs.length ≤ maxLen) (hfs : FilesAt w ao fs) (hsz0 : ∀ F ∈ fs, F.name.size ≤ maxLen ∧ F.text.size ≤ maxLen) (hld0 : dir.length ≤ maxLen) (hds : SpotsAt w ad dir) (hszd : ∀ A ∈ dir, A.key.size ≤ maxLen) (hT : SumTab w) :
    Calls Tryz.prog 4 #[.agg #[.slice ao fs.length cap, .int .i64 room, .int .i64 act, .int .i64 seq, .slice ad dir.length cd], .string key] w fun e w' => e = .returned (.bool true) ∧ Below w.heap.size w w' := by
  unfold maxLen at hkz
  by_cases hbig : 1048576 < key.size
  · have hbig' : decide ((1048576 : Int) < (key.size : Int)) = true := by simp; omega
    go_enter Tryz.func4, Tryz.ntmps4
    go_wp2
    go_ret
    exact ⟨rfl, (Below.refl _ w).alloc (Nat.le_refl _) _⟩
  have hbig' : decide ((1048576 : Int) < (key.size : Int)) = false := by simp; omega
  have HF := hide hfs
  have HD := hide hds
  have HT := hide hT
  have HSZ := hide (fun W h1 h2 => szEngine_any fs ao ad cap cd room act seq dir W hl0 h1 hsz0 hld0 h2 hszd)
  clear hfs hds hT
  obtain ⟨wA, hwA⟩ : ∃ wA, wA = w.alloc (.cells #[.slice ao fs.length cap, .int .i64 room, .int .i64 act, .int .i64 seq, .slice ad dir.length cd] 45) := ⟨_, rfl⟩
  have HA : Hid (Below w.heap.size w wA) := by rw [hwA]; exact (Below.refl _ w).alloc (Nat.le_refl _) _
  have HAK : Hid (wA.heap[w.heap.size]? = some (.cells #[.slice ao fs.length cap, .int .i64 room, .int .i64 act, .int .i64 seq, .slice ad dir.length cd] 45 (0, 0))) := by rw [hwA]; exact heap_alloc_new w _
  obtain ⟨hz0, hz1, hz2, hz3, hz4, -⟩ := five_cells HAK.out
  go_enter Tryz.func4, Tryz.ntmps4
  go_wp2_with fail
  rw [← hwA]
  clear hwA
  go_wp2_with fail
  refine (HSZ.out _ (filesAt_keep HF.out HA.out) (spotsAt_keep HD.out HA.out)).mono ?_
  rintro e w1 ⟨⟨r, rfl, hr⟩, b1⟩
  have HB1 := hide b1
  have HR := hide hr
  have HAK1 := hide ((b1.block _ (heap_lt HAK.out)).trans HAK.out)
  obtain ⟨hy0, hy1, hy2, hy3, hy4, -⟩ := five_cells HAK1.out
  have HW1 := hide (HA.out.trans (b1.mono HA.out.size))
  clear b1 hr hz0 hz1 hz2 hz3 hz4
  by_cases hneg : r < 0
  · have hneg' : decide (r < 0) = true := by simp; omega
    go_wp2
    go_ret
    exact ⟨rfl, HW1.out⟩
  · have hneg' : decide (r < 0) = false := by simp; omega
    obtain ⟨hl, hld, hz⟩ := HR.out (by omega)
    have HZ := hide hz
    clear hz HR
    go_wp2_with fail
    refine (toEngine_any fs ao ad cap cd room act seq dir _ hl (filesAt_keep HF.out HW1.out) hld (spotsAt_keep HD.out HW1.out)).mono ?_
    rintro e w2 ⟨⟨a2, d2, rfl, hf2, hd2⟩, b2⟩
    have HW2 := hide (HW1.out.trans (b2.mono HW1.out.size))
    have HAK2 := hide ((b2.block _ (heap_lt HAK1.out)).trans HAK1.out)
    have HF2 := hide hf2
    have HD2 := hide hd2
    clear b2 hf2 hd2 hy0 hy1 hy2 hy3 hy4
    go_wp2_with fail
    refine (specGetValue_any fs a2 d2 _ _ room act seq dir key _ hl HF2.out HZ.out hld HD2.out).mono ?_
    rintro e w3 ⟨rfl, b3⟩
    have HW3 := hide (HW2.out.trans (b3.mono HW2.out.size))
    have HAK3 := hide ((b3.block _ (heap_lt HAK2.out)).trans HAK2.out)
    obtain ⟨hy0, hy1, hy2, hy3, hy4, -⟩ := five_cells HAK3.out
    clear b3 HF2 HD2
    go_wp2_with fail
    refine (toEngine_any fs ao ad cap cd room act seq dir _ hl (filesAt_keep HF.out HW3.out) hld (spotsAt_keep HD.out HW3.out)).mono ?_
    rintro e w4 ⟨⟨a4, d4, rfl, hf4, hd4⟩, b4⟩
    have HW4 := hide (HW3.out.trans (b4.mono HW3.out.size))
    have HAK4 := hide ((b4.block _ (heap_lt HAK3.out)).trans HAK3.out)
    have HF4 := hide hf4
    have HD4 := hide hd4
    clear b4 hf4 hd4 hy0 hy1 hy2 hy3 hy4
    obtain ⟨wX, hwX⟩ : ∃ wX, wX = w4.alloc (.cells #[.slice a4 fs.length fs.length, .int .i64 room, .int .i64 act, .int .i64 seq, .slice d4 dir.length dir.length] 30) := ⟨_, rfl⟩
    have HX : Hid (Below w4.heap.size w4 wX) := by rw [hwX]; exact (Below.refl _ w4).alloc (Nat.le_refl _) _
    have HXK : Hid (wX.heap[w4.heap.size]? = some (.cells #[.slice a4 fs.length fs.length, .int .i64 room, .int .i64 act, .int .i64 seq, .slice d4 dir.length dir.length] 30 (0, 0))) := by rw [hwX]; exact heap_alloc_new w4 _
    have HWX := hide (HW4.out.trans (HX.out.mono HW4.out.size))
    obtain ⟨hx0, hx1, hx2, hx3, hx4, -⟩ := five_cells HXK.out
    have HIM := hide (implGetValue_any fs a4 d4 fs.length dir.length room act seq dir key wX hl (filesAt_keep HF4.out HX.out) HZ.out (spotsAt_keep HD4.out HX.out) (sumTab_later HWX.out HT.out))
    subst hwX
    go_wp2_with fail
    refine HIM.out.mono ?_
    rintro e w5 ⟨rfl, b5⟩
    have HX5 := hide (HX.out.trans (b5.mono HX.out.size))
    have HW5 := hide (HW4.out.trans (HX5.out.mono HW4.out.size))
    have HAK5 := hide ((HX5.out.block _ (heap_lt HAK4.out)).trans HAK4.out)
    have HXK5 := hide ((b5.block _ (heap_lt HXK.out)).trans HXK.out)
    obtain ⟨hy0, hy1, hy2, hy3, hy4, -⟩ := five_cells HAK5.out
    obtain ⟨hv0, hv1, hv2, hv3, hv4, -⟩ := five_cells HXK5.out
    have hzA : w.heap.size < w5.heap.size := heap_lt HAK5.out
    have hzX : w4.heap.size < w5.heap.size := heap_lt HXK5.out
    have HF5 := hide (filesAt_keep HF4.out HX5.out)
    have HD5 := hide (spotsAt_keep HD4.out HX5.out)
    have KS : Hid (∀ X, Below w5.heap.size w5 X → (X.cell? ⟨w.heap.size, 0, none⟩ = some (.slice ao fs.length cap) ∧ X.cell? ⟨w.heap.size, 1, none⟩ = some (.int .i64 room) ∧ X.cell? ⟨w.heap.size, 2, none⟩ = some (.int .i64 act) ∧ X.cell? ⟨w.heap.size, 3, none⟩ = some (.int .i64 seq) ∧ X.cell? ⟨w.heap.size, 4, none⟩ = some (.slice ad dir.length cd) ∧ X.cell? ⟨w4.heap.size, 0, none⟩ = some (.slice a4 fs.length fs.length) ∧ X.cell? ⟨w4.heap.size, 1, none⟩ = some (.int .i64 room) ∧ X.cell? ⟨w4.heap.size, 2, none⟩ = some (.int .i64 act) ∧ X.cell? ⟨w4.heap.size, 3, none⟩ = some (.int .i64 seq) ∧ X.cell? ⟨w4.heap.size, 4, none⟩ = some (.slice d4 dir.length dir.length))) := fun X hX => ⟨(hX.cell (p := ⟨w.heap.size, 0, none⟩) hzA).trans hy0, (hX.cell (p := ⟨w.heap.size, 1, none⟩) hzA).trans hy1, (hX.cell (p := ⟨w.heap.size, 2, none⟩) hzA).trans hy2, (hX.cell (p := ⟨w.heap.size, 3, none⟩) hzA).trans hy3, (hX.cell (p := ⟨w.heap.size, 4, none⟩) hzA).trans hy4, (hX.cell (p := ⟨w4.heap.size, 0, none⟩) hzX).trans hv0, (hX.cell (p := ⟨w4.heap.size, 1, none⟩) hzX).trans hv1, (hX.cell (p := ⟨w4.heap.size, 2, none⟩) hzX).trans hv2, (hX.cell (p := ⟨w4.heap.size, 3, none⟩) hzX).trans hv3, (hX.cell (p := ⟨w4.heap.size, 4, none⟩) hzX).trans hv4⟩
    have HTE : Hid (∀ X, Below w5.heap.size w5 X → Calls Tryz.prog 18 #[.agg #[.slice ao fs.length cap, .int .i64 room, .int .i64 act, .int .i64 seq, .slice ad dir.length cd]] X fun e w' => (∃ a1 a2 : Option Addr, e = .returned (.agg #[.slice a1 fs.length fs.length, .int .i64 room, .int .i64 act, .int .i64 seq, .slice a2 dir.length dir.length]) ∧ FilesAt w' a1 fs ∧ SpotsAt w' a2 dir) ∧ Below X.heap.size X w') := fun X hX => toEngine_any fs ao ad cap cd room act seq dir X hl (filesAt_keep HF.out (HW5.out.trans (hX.mono HW5.out.size))) hld (spotsAt_keep HD.out (HW5.out.trans (hX.mono HW5.out.size)))
    clear b5 hx0 hx1 hx2 hx3 hx4 HIM HXK HX HWX
    generalize getE fs room act seq dir key = R
    go_wp2_with fail
    go_region_held3 (fun w' => w'.cell? ⟨w.heap.size, 0, none⟩ = some (.slice ao fs.length cap) ∧ w'.cell? ⟨w.heap.size, 1, none⟩ = some (.int .i64 room) ∧ w'.cell? ⟨w.heap.size, 2, none⟩ = some (.int .i64 act) ∧ w'.cell? ⟨w.heap.size, 3, none⟩ = some (.int .i64 seq) ∧ w'.cell? ⟨w.heap.size, 4, none⟩ = some (.slice ad dir.length cd) ∧ w'.cell? ⟨w4.heap.size, 0, none⟩ = some (.slice a4 fs.length fs.length) ∧ w'.cell? ⟨w4.heap.size, 1, none⟩ = some (.int .i64 room) ∧ w'.cell? ⟨w4.heap.size, 2, none⟩ = some (.int .i64 act) ∧ w'.cell? ⟨w4.heap.size, 3, none⟩ = some (.int .i64 seq) ∧ w'.cell? ⟨w4.heap.size, 4, none⟩ = some (.slice d4 dir.length dir.length)) ((refine KS.out _ ?_; first | (exact e7) | (exact e6) | (exact (Below.refl _ _).drew) | fail)) ((first | (go_at_call 18; refine (HTE.out _ ?_).mono ?_; exact (Below.refl _ _).drew; rintro e w6 ⟨⟨a6, d6, rfl, hf6, hd6⟩, b6⟩; have e6 : Below w5.heap.size w5 w6 := ((Below.refl _ _).drew).trans b6) | (go_at_call 19; refine (eqEngine_same fs _ _ _ _ _ _ _ _ room act seq dir _ hl0 (filesAt_keep HF5.out e6) hf6 hld0 (spotsAt_keep HD5.out e6) hd6).mono ?_; rintro e w7 ⟨rfl, b7⟩; have e7 : Below w5.heap.size w5 w7 := e6.trans (b7.mono e6.size))))
    go_wp2
    go_ret
    exact ⟨rfl, HW5.out.trans (e7.mono HW5.out.size)⟩
end Go.Proofs.YtmmchemgegmhhaaGreatDoor
