/- The law of EngineOk. -/
import Derived.Test.YtijmlgdeeodehamGreatDoorEngF
import Derived.Test.YtijmlgdeeodehamGreatDoorEngD
namespace Go.Proofs.YtijmlgdeeodehamGreatDoor
open Go.RowKit

set_option maxRecDepth 100000 in
set_option maxHeartbeats 3200000 in
theorem lawEngineOk (fs : List FileD) (ao ad : Option Addr) (cap cd : Nat) (room act seq : Int) (dir : List SpotD) (w : World) (hl0 : fs.length ≤ maxLen) (hfs : FilesAt w ao fs) (hsz0 : ∀ F ∈ fs, F.name.size ≤ maxLen ∧ F.text.size ≤ maxLen) (hld0 : dir.length ≤ maxLen) (hds : SpotsAt w ad dir) (hszd : ∀ A ∈ dir, A.key.size ≤ maxLen) (hT : SumTab w) :
    Calls Tryz.prog 5 #[.agg #[.slice ao fs.length cap, .int .i64 room, .int .i64 act, .int .i64 seq, .slice ad dir.length cd]] w fun e w' => e = .returned (.bool true) ∧ Below w.heap.size w w' := by
  have HF := hide hfs
  have HD := hide hds
  have HT := hide hT
  have HSZ := hide (fun W h1 h2 => szEngine_any fs ao ad cap cd room act seq dir W hl0 h1 hsz0 hld0 h2 hszd)
  clear hfs hds hT
  obtain ⟨wA, hwA⟩ : ∃ wA, wA = w.alloc (.cells #[.slice ao fs.length cap, .int .i64 room, .int .i64 act, .int .i64 seq, .slice ad dir.length cd] 48) := ⟨_, rfl⟩
  have HA : Hid (Below w.heap.size w wA) := by rw [hwA]; exact (Below.refl _ w).alloc (Nat.le_refl _) _
  have HAK : Hid (wA.heap[w.heap.size]? = some (.cells #[.slice ao fs.length cap, .int .i64 room, .int .i64 act, .int .i64 seq, .slice ad dir.length cd] 48 (0, 0))) := by rw [hwA]; exact heap_alloc_new w _
  obtain ⟨hz0, hz1, hz2, hz3, hz4, -⟩ := five_cells HAK.out
  go_enter Tryz.func5, Tryz.ntmps5
  go_wp2_with fail
  rw [← hwA]
  clear hwA
  go_wp2_with fail
  refine (HSZ.out _ (filesAt_keep HF.out HA.out) (spotsAt_keep HD.out HA.out)).mono ?_
  rintro e w1 ⟨⟨r, rfl, hr⟩, b1⟩
  have HB1 := hide b1
  have HR := hide hr
  have HAK1 := hide ((b1.block _ (heap_lt HAK.out)).trans HAK.out)
  obtain ⟨hy0, hy1, hy2, hy3, hy4, -⟩ := five_cells HAK1.out
  have HW1 := hide (HA.out.trans (b1.mono HA.out.size))
  clear b1 hr hz0 hz1 hz2 hz3 hz4
  by_cases hneg : r < 0
  · have hneg' : decide (r < 0) = true := by simp; omega
    go_wp2
    go_ret
    exact ⟨rfl, HW1.out⟩
  · have hneg' : decide (r < 0) = false := by simp; omega
    obtain ⟨hl, hld, hz⟩ := HR.out (by omega)
    have HZ := hide hz
    clear hz HR
    go_wp2_with fail
    refine (toEngine_any fs ao ad cap cd room act seq dir _ hl (filesAt_keep HF.out HW1.out) hld (spotsAt_keep HD.out HW1.out)).mono ?_
    rintro e w2 ⟨⟨a2, d2, rfl, hf2, hd2⟩, b2⟩
    have HW2 := hide (HW1.out.trans (b2.mono HW1.out.size))
    have HAK2 := hide ((b2.block _ (heap_lt HAK1.out)).trans HAK1.out)
    have HF2 := hide hf2
    have HD2 := hide hd2
    clear b2 hf2 hd2 hy0 hy1 hy2 hy3 hy4
    go_wp2_with fail
    refine (specEngineOk_any fs a2 d2 _ _ room act seq dir _ hl HF2.out HZ.out hld HD2.out).mono ?_
    rintro e w3 ⟨rfl, b3⟩
    have HW3 := hide (HW2.out.trans (b3.mono HW2.out.size))
    have HAK3 := hide ((b3.block _ (heap_lt HAK2.out)).trans HAK2.out)
    obtain ⟨hy0, hy1, hy2, hy3, hy4, -⟩ := five_cells HAK3.out
    clear b3 HF2 HD2
    go_wp2_with fail
    refine (toEngine_any fs ao ad cap cd room act seq dir _ hl (filesAt_keep HF.out HW3.out) hld (spotsAt_keep HD.out HW3.out)).mono ?_
    rintro e w4 ⟨⟨a4, d4, rfl, hf4, hd4⟩, b4⟩
    have HW4 := hide (HW3.out.trans (b4.mono HW3.out.size))
    have HAK4 := hide ((b4.block _ (heap_lt HAK3.out)).trans HAK3.out)
    have HF4 := hide hf4
    have HD4 := hide hd4
    clear b4 hf4 hd4 hy0 hy1 hy2 hy3 hy4
    obtain ⟨wX, hwX⟩ : ∃ wX, wX = w4.alloc (.cells #[.slice a4 fs.length fs.length, .int .i64 room, .int .i64 act, .int .i64 seq, .slice d4 dir.length dir.length] 27) := ⟨_, rfl⟩
    have HX : Hid (Below w4.heap.size w4 wX) := by rw [hwX]; exact (Below.refl _ w4).alloc (Nat.le_refl _) _
    have HXK : Hid (wX.heap[w4.heap.size]? = some (.cells #[.slice a4 fs.length fs.length, .int .i64 room, .int .i64 act, .int .i64 seq, .slice d4 dir.length dir.length] 27 (0, 0))) := by rw [hwX]; exact heap_alloc_new w4 _
    have HWX := hide (HW4.out.trans (HX.out.mono HW4.out.size))
    obtain ⟨hx0, hx1, hx2, hx3, hx4, -⟩ := five_cells HXK.out
    have HIM := hide (implEngineOk_any fs a4 d4 fs.length dir.length room act seq dir wX hl (filesAt_keep HF4.out HX.out) HZ.out (spotsAt_keep HD4.out HX.out) (sumTab_later HWX.out HT.out))
    subst hwX
    go_wp2_with fail
    refine HIM.out.mono ?_
    rintro e w5 ⟨rfl, b5⟩
    have HX5 := hide (HX.out.trans (b5.mono HX.out.size))
    have HW5 := hide (HW4.out.trans (HX5.out.mono HW4.out.size))
    have HAK5 := hide ((HX5.out.block _ (heap_lt HAK4.out)).trans HAK4.out)
    have HXK5 := hide ((b5.block _ (heap_lt HXK.out)).trans HXK.out)
    obtain ⟨hy0, hy1, hy2, hy3, hy4, -⟩ := five_cells HAK5.out
    obtain ⟨hv0, hv1, hv2, hv3, hv4, -⟩ := five_cells HXK5.out
    have hzA : w.heap.size < w5.heap.size := heap_lt HAK5.out
    have hzX : w4.heap.size < w5.heap.size := heap_lt HXK5.out
    have HF5 := hide (filesAt_keep HF4.out HX5.out)
    have HD5 := hide (spotsAt_keep HD4.out HX5.out)
    have KS : Hid (∀ X, Below w5.heap.size w5 X → (X.cell? ⟨w.heap.size, 0, none⟩ = some (.slice ao fs.length cap) ∧ X.cell? ⟨w.heap.size, 1, none⟩ = some (.int .i64 room) ∧ X.cell? ⟨w.heap.size, 2, none⟩ = some (.int .i64 act) ∧ X.cell? ⟨w.heap.size, 3, none⟩ = some (.int .i64 seq) ∧ X.cell? ⟨w.heap.size, 4, none⟩ = some (.slice ad dir.length cd) ∧ X.cell? ⟨w4.heap.size, 0, none⟩ = some (.slice a4 fs.length fs.length) ∧ X.cell? ⟨w4.heap.size, 1, none⟩ = some (.int .i64 room) ∧ X.cell? ⟨w4.heap.size, 2, none⟩ = some (.int .i64 act) ∧ X.cell? ⟨w4.heap.size, 3, none⟩ = some (.int .i64 seq) ∧ X.cell? ⟨w4.heap.size, 4, none⟩ = some (.slice d4 dir.length dir.length))) := fun X hX => ⟨(hX.cell (p := ⟨w.heap.size, 0, none⟩) hzA).trans hy0, (hX.cell (p := ⟨w.heap.size, 1, none⟩) hzA).trans hy1, (hX.cell (p := ⟨w.heap.size, 2, none⟩) hzA).trans hy2, (hX.cell (p := ⟨w.heap.size, 3, none⟩) hzA).trans hy3, (hX.cell (p := ⟨w.heap.size, 4, none⟩) hzA).trans hy4, (hX.cell (p := ⟨w4.heap.size, 0, none⟩) hzX).trans hv0, (hX.cell (p := ⟨w4.heap.size, 1, none⟩) hzX).trans hv1, (hX.cell (p := ⟨w4.heap.size, 2, none⟩) hzX).trans hv2, (hX.cell (p := ⟨w4.heap.size, 3, none⟩) hzX).trans hv3, (hX.cell (p := ⟨w4.heap.size, 4, none⟩) hzX).trans hv4⟩
    have HTE : Hid (∀ X, Below w5.heap.size w5 X → Calls Tryz.prog 24 #[.agg #[.slice ao fs.length cap, .int .i64 room, .int .i64 act, .int .i64 seq, .slice ad dir.length cd]] X fun e w' => (∃ a1 a2 : Option Addr, e = .returned (.agg #[.slice a1 fs.length fs.length, .int .i64 room, .int .i64 act, .int .i64 seq, .slice a2 dir.length dir.length]) ∧ FilesAt w' a1 fs ∧ SpotsAt w' a2 dir) ∧ Below X.heap.size X w') := fun X hX => toEngine_any fs ao ad cap cd room act seq dir X hl (filesAt_keep HF.out (HW5.out.trans (hX.mono HW5.out.size))) hld (spotsAt_keep HD.out (HW5.out.trans (hX.mono HW5.out.size)))
    clear b5 hx0 hx1 hx2 hx3 hx4 HIM HXK HX HWX
    generalize engOkB fs room act seq dir = R
    cases R
    all_goals
      go_wp2_with fail
      go_region_held3 (fun w' => w'.cell? ⟨w.heap.size, 0, none⟩ = some (.slice ao fs.length cap) ∧ w'.cell? ⟨w.heap.size, 1, none⟩ = some (.int .i64 room) ∧ w'.cell? ⟨w.heap.size, 2, none⟩ = some (.int .i64 act) ∧ w'.cell? ⟨w.heap.size, 3, none⟩ = some (.int .i64 seq) ∧ w'.cell? ⟨w.heap.size, 4, none⟩ = some (.slice ad dir.length cd) ∧ w'.cell? ⟨w4.heap.size, 0, none⟩ = some (.slice a4 fs.length fs.length) ∧ w'.cell? ⟨w4.heap.size, 1, none⟩ = some (.int .i64 room) ∧ w'.cell? ⟨w4.heap.size, 2, none⟩ = some (.int .i64 act) ∧ w'.cell? ⟨w4.heap.size, 3, none⟩ = some (.int .i64 seq) ∧ w'.cell? ⟨w4.heap.size, 4, none⟩ = some (.slice d4 dir.length dir.length)) ((refine KS.out _ ?_; first | (exact e7) | (exact e6) | (exact (Below.refl _ _).drew) | fail)) ((first | (go_at_call 24; refine (HTE.out _ ?_).mono ?_; exact (Below.refl _ _).drew; rintro e w6 ⟨⟨a6, d6, rfl, hf6, hd6⟩, b6⟩; have e6 : Below w5.heap.size w5 w6 := ((Below.refl _ _).drew).trans b6) | (go_at_call 10; refine (eqEngine_same fs _ _ _ _ _ _ _ _ room act seq dir _ hl0 (filesAt_keep HF5.out e6) hf6 hld0 (spotsAt_keep HD5.out e6) hd6).mono ?_; rintro e w7 ⟨rfl, b7⟩; have e7 : Below w5.heap.size w5 w7 := e6.trans (b7.mono e6.size))))
      go_wp2
      go_ret
      exact ⟨rfl, HW5.out.trans (e7.mono HW5.out.size)⟩
end Go.Proofs.YtijmlgdeeodehamGreatDoor
