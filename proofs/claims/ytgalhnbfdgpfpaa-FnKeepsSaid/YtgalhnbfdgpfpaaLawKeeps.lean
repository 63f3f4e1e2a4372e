/- The law on what is kept: never lost; of what is not kept a beginning is left; lost again, nothing more is lost. -/
import Derived.Test.YtgalhnbfdgpfpaaLefts
import Derived.Test.YtgalhnbfdgpfpaaDrawRD
import Derived.Test.YtgalhnbfdgpfpaaDrawPl
import Derived.Test.YtgalhnbfdgpfpaaLoseAll
import Derived.Test.YtgalhnbfdgpfpaaAllKeptI
import Derived.WalkSmall
import Derived.Deep.LoopGhost
namespace Go.Proofs.Ytgalhnbfdgpfpaa
open Go.RowKit

theorem loseR_yes {fs : List FileD} (ls : List Int) (h : diskOkD fs = true) : loseR fs ls = lostD fs ls := by unfold loseR; rw [if_pos h]

set_option maxRecDepth 100000 in
set_option maxHeartbeats 4000000 in
theorem keeps_walk (w : World) (ao : Option Addr) (len cap : Nat) (hcode : len ≤ 1048576 → Code w ao len) :
    Calls Try.prog 3 #[.slice ao len cap] w fun e w' => e = .returned (.bool true) ∧ Below w.heap.size w w' := by
  by_cases hlen : len ≤ 1048576
  · have hbig : decide (1048576 < (len : Int)) = false := by simp; omega
    have HC := hide (hcode hlen)
    clear hcode
    go_enter Try.func3, Try.ntmps3
    go_wp2_with fail
    refine (big_any _ ao len cap).mono ?_
    rintro e w0 ⟨rfl, rfl⟩
    go_wp2_with fail
    refine (drawRightDisk_any _ ao len cap hlen HC.out).mono ?_
    rintro e w1 ⟨vD, fs, rfl, hrD, hok, b1⟩
    obtain ⟨aD, cD, rfl, _⟩ := rowF_at hrD
    obtain ⟨wD, hwD⟩ : ∃ wD, wD = w1.alloc (.cells #[.slice aD fs.length cD] 26) := ⟨_, rfl⟩
    have bD : Below w1.heap.size w1 wD := by rw [hwD]; exact (Below.refl _ _).alloc (Nat.le_refl _) _
    have XD : Hid (wD.heap[w1.heap.size]? = some (.cells #[.slice aD fs.length cD] 26 (0, 0))) := by rw [hwD]; exact heap_alloc_new _ _
    have RD := hide (rowF_below hrD bD)
    have B1 := hide (b1.trans (bD.mono b1.size))
    have HOK := hide hok
    have hfl : fs.length ≤ 30 := (disk_files hok).1
    have HFS : Hid (∀ F ∈ fs, F.name.size ≤ 1048576 ∧ F.text.size ≤ 1048576) := fun F hF => by have := (disk_files hok).2 F hF; omega
    clear hrD b1 bD hok
    go_wp2_with fail
    rw [← hwD]
    clear hwD
    refine (drawPlaces_any _ ao len cap hlen (code_keep HC.out B1.out)).mono ?_
    rintro e w2 ⟨vp, zs, rfl, hzl, hzs, hownp, b2⟩
    have XD2 := hide (blk_below XD.out b2)
    have RD2 := hide (rowF_below RD.out b2)
    have B2 := hide (B1.out.trans (b2.mono B1.out.size))
    have HP := hide hownp
    have HZL := hide hzl
    have HZS := hide hzs
    clear b2 hownp hzl hzs XD RD B1
    go_wp2_with fail
    refine (lefts_any _ _ vp zs HZL.out HZS.out HP.out).mono ?_
    rintro e w3 ⟨u, ys, rfl, hyl, hys, hownu, b3⟩
    obtain ⟨al, capl, ls, rfl, hls⟩ := ints_row hyl hys hownu (by omega)
    have XD3 := hide (blk_below XD2.out b3)
    have RD3 := hide (rowF_below RD2.out b3)
    have B3 := hide (B2.out.trans (b3.mono B2.out.size))
    have HLS := hide hls
    clear b3 hownu hyl hys hls XD2 RD2 B2 HP HZL HZS
    have hcD := box_of XD3.out
    go_wp2_with fail
    refine (lose_all fs _ _ ls _ _ _ (by omega) (rowF_files RD3.out) HLS.out HFS.out).mono ?_
    rintro e w4 ⟨vE, rfl, hrE, b4⟩
    rw [HOK.out]
    rw [loseR_yes ls HOK.out] at hrE
    obtain ⟨es, HES⟩ : ∃ es, Hid (lostD fs ls = es) := ⟨_, hide rfl⟩
    rw [HES.out] at hrE
    have HOE : Hid (diskOkD es = true) := by rw [← HES.out]; exact lostD_ok ls HOK.out
    have hel : Hid (es.length = fs.length) := by show _ = _; rw [← HES.out]; exact lostD_length fs ls
    have hAg : Hid (lostD es [] = es) := by rw [← HES.out]; exact lostD_again fs ls ((disk_iff fs).1 HOK.out).2.1
    have hKe : Hid (allKeptD es = true) := by rw [← HES.out]; exact lostD_kept ls HOK.out
    have hel2 : es.length ≤ 30 := by rw [hel.out]; exact hfl
    have HFE : Hid (∀ F ∈ es, F.name.size ≤ 1048576 ∧ F.text.size ≤ 1048576) := fun F hF => by have := (disk_files HOE.out).2 F hF; omega
    obtain ⟨aE, cE, rfl, _⟩ := rowF_at hrE
    obtain ⟨w5, hw5⟩ : ∃ w5, w5 = w4.alloc (.cells #[.slice aE es.length cE] 26) := ⟨_, rfl⟩
    have b5 : Below w4.heap.size w4 w5 := by rw [hw5]; exact (Below.refl _ _).alloc (Nat.le_refl _) _
    have XE5 : Hid (w5.heap[w4.heap.size]? = some (.cells #[.slice aE es.length cE] 26 (0, 0))) := by rw [hw5]; exact heap_alloc_new _ _
    have RE5 := hide (rowF_below hrE b5)
    have XD5 := hide (blk_below (blk_below XD3.out b4) b5)
    have RD5 := hide (rowF_below (rowF_below RD3.out b4) b5)
    have B5 := hide ((B3.out.trans (b4.mono B3.out.size)).trans (b5.mono (Nat.le_trans B3.out.size b4.size)))
    obtain ⟨w6, hw6⟩ : ∃ w6, w6 = w5.alloc (.cells #[] 3) := ⟨_, rfl⟩
    have b6 : Below w5.heap.size w5 w6 := by rw [hw6]; exact (Below.refl _ _).alloc (Nat.le_refl _) _
    have XE6 := hide (blk_below XE5.out b6)
    have RE6 := hide (rowF_below RE5.out b6)
    have XD6 := hide (blk_below XD5.out b6)
    have RD6 := hide (rowF_below RD5.out b6)
    have B6 := hide (B5.out.trans (b6.mono B5.out.size))
    clear hrE b4 b5 b6 XD3 RD3 B3 HLS XE5 RE5 XD5 RD5 B5 hcD
    rw [hw5] at hw6
    go_wp2_with fail
    rw [← hw6]
    clear hw6 hw5
    refine (lose_all es _ _ [] _ _ _ (by omega) (rowF_files RE6.out) (fun j hj => absurd hj (by simp)) HFE.out).mono ?_
    rintro e w7 ⟨vF, rfl, hrF, b7⟩
    rw [HOE.out]
    rw [loseR_yes [] HOE.out, hAg.out] at hrF
    obtain ⟨aF, cF, rfl, _⟩ := rowF_at hrF
    obtain ⟨w8, hw8⟩ : ∃ w8, w8 = w7.alloc (.cells #[.slice aF es.length cF] 26) := ⟨_, rfl⟩
    have b8 : Below w7.heap.size w7 w8 := by rw [hw8]; exact (Below.refl _ _).alloc (Nat.le_refl _) _
    have XF8 : Hid (w8.heap[w7.heap.size]? = some (.cells #[.slice aF es.length cF] 26 (0, 0))) := by rw [hw8]; exact heap_alloc_new _ _
    have RF8 := hide (rowF_below hrF b8)
    have XE8 := hide (blk_below (blk_below XE6.out b7) b8)
    have RE8 := hide (rowF_below (rowF_below RE6.out b7) b8)
    have XD8 := hide (blk_below (blk_below XD6.out b7) b8)
    have RD8 := hide (rowF_below (rowF_below RD6.out b7) b8)
    have B8 := hide ((B6.out.trans (b7.mono B6.out.size)).trans (b8.mono (Nat.le_trans B6.out.size b7.size)))
    clear hrF b7 b8 XE6 RE6 XD6 RD6 B6
    have hq1 : ((es.length : Int) == (fs.length : Int)) = true := by rw [hel.out]; exact beq_self_eq_true _
    have hq2 : ((es.length : Int) != (fs.length : Int)) = false := by rw [hel.out]; exact bne_self_eq_false _
    have hcE := box_of XE8.out
    have hcF := box_of XF8.out
    have hcD := box_of XD8.out
    rw [hw8] at hcE hcF hcD
    go_wp2_with fail
    rw [← hw8]
    clear hw8 hcE hcF hcD
    refine (sameDisk_same es _ _ _ _ _ (by omega) (rowF_files RE8.out) (rowF_files RF8.out)).mono ?_
    rintro e w9 ⟨rfl, b9⟩
    have XE9 := hide (blk_below XE8.out b9)
    have RE9 := hide (rowF_below RE8.out b9)
    have XD9 := hide (blk_below XD8.out b9)
    have RD9 := hide (rowF_below RD8.out b9)
    have B9 := hide (B8.out.trans (b9.mono B8.out.size))
    clear b9 XE8 RE8 XD8 RD8 B8 XF8 RF8
    have hcE := box_of XE9.out
    go_wp2_with fail
    clear hcE
    refine (allKept_any es _ _ _ (by omega) (rowF_files RE9.out) HFE.out).mono ?_
    rintro e w10 ⟨rfl, b10⟩
    rw [hKe.out]
    have XE10 := hide (blk_below XE9.out b10)
    have RE10 := hide (rowF_below RE9.out b10)
    have XD10 := hide (blk_below XD9.out b10)
    have RD10 := hide (rowF_below RD9.out b10)
    have B10 := hide (B9.out.trans (b10.mono B9.out.size))
    clear b10 XE9 RE9 XD9 RD9 B9
    have hcD := box_of XD10.out
    go_wp2_with fail
    clear hcD
    refine (diskOk_any fs _ _ _ (by omega) (rowF_files RD10.out) (fun F hF => by have := HFS.out F hF; unfold maxLen; omega)).mono ?_
    rintro e w11 ⟨rfl, b11⟩
    rw [HOK.out]
    have XE := hide (blk_below XE10.out b11)
    have RE := hide (rowF_below RE10.out b11)
    have XD := hide (blk_below XD10.out b11)
    have RD := hide (rowF_below RD10.out b11)
    have B11 := hide (B10.out.trans (b11.mono B10.out.size))
    clear b11 XE10 RE10 XD10 RD10 B10
    go_wp2_with fail
    go_loopg [9] fs.length (fun gg ii wr => ∃ k : Nat, k + gg = fs.length ∧ ii = .int .i64 k ∧ k ≤ fs.length ∧ Hid (Below w11.heap.size w11 wr))
    case atStart => exact ⟨0, by omega, rfl, Nat.zero_le _, Below.refl _ _⟩
    case round =>
      obtain ⟨k, hkg, rfl, hk, HB⟩ := hrel
      have hcD := box_of (blk_below XD.out HB.out)
      have hcE := box_of (blk_below XE.out HB.out)
      have HBw := hide (B11.out.trans (HB.out.mono B11.out.size))
      by_cases hlt : k < fs.length
      · have hlt' : decide ((k : Int) < (fs.length : Int)) = true := by simp; omega
        have hlt2 : k < es.length := by rw [hel.out]; exact hlt
        obtain ⟨b, off, rfl, hbl, hc0, hc1, hc2⟩ := filesAt_keep (rowF_files RD.out) HB.out k hlt
        obtain ⟨b', off', rfl, hbl', hd0, hd1, hd2⟩ := filesAt_keep (rowF_files RE.out) HB.out k hlt2
        have hG : es[k] = lostF fs[k] (ls.getD k 0) := by
          have h := lostD_get fs ls k hlt
          rw [HES.out, List.getElem?_eq_getElem hlt2] at h
          exact Option.some.inj h
        have hFo : fileOkD fs[k] = true := ((disk_iff fs).1 HOK.out).2.1 _ (List.getElem_mem hlt)
        have hbg := lostF_begins (ls.getD k 0) hFo
        have hnm : (lostF fs[k] (ls.getD k 0)).name = fs[k].name := rfl
        obtain ⟨_, _, hF3, hF4, hF5⟩ := ok_file hFo
        rw [hG] at hd0 hd1 hd2
        rw [hnm] at hd0
        generalize fs[k] = F at hc0 hc1 hc2 hd0 hd1 hd2 hbg hF3 hF4 hF5
        generalize (lostF F (ls.getD k 0)).text = GT at hd1 hbg
        generalize (lostF F (ls.getD k 0)).kept = GK at hd2
        obtain ⟨P, HPx⟩ : ∃ P, Hid (F.text.extract 0 F.kept.toNat = P) := ⟨_, hide rfl⟩
        rw [HPx.out] at hbg
        obtain ⟨g1, g2, g3, g4, g5⟩ := hbg
        have hcut : ∀ W : World, (Instr.slice 9 (.string F.text) none (some (.int .i64 F.kept)) none).run Try.prog W = .ok (.string P) W := by
          intro W
          rw [run_slice_string_to_if W 9 F.text .i64 F.kept Try.underlying9, if_pos (by omega), HPx.out]
        have hg1 := beginsB_yes g1 g2
        have hg3 := beginsB_yes g3 g4
        have hnn : (F.name.toList == F.name.toList) = true := beq_self_eq_true _
        have hi0 : (0 : Int) ≤ (k : Int) := by omega
        have hi1 : (k : Int) < (fs.length : Int) := by omega
        have hi2 : (k : Int) < (es.length : Int) := by omega
        have hE4 : w4.heap.size < wr.heap.size := (Array.getElem?_eq_some_iff.1 (blk_below XE.out HB.out)).1
        obtain ⟨wX, hwX⟩ : ∃ wX, wX = wr.alloc (.cells #[.string F.name, .string F.text, .int .i64 F.kept] 36) := ⟨_, rfl⟩
        have bX : Below wr.heap.size wr wX := by rw [hwX]; exact (Below.refl _ _).alloc (Nat.le_refl _) _
        have sX : wX.heap.size = wr.heap.size + 1 := by rw [hwX]; simp
        have XX : wX.heap[wr.heap.size]? = some (.cells #[.string F.name, .string F.text, .int .i64 F.kept] 36 (0, 0)) := by rw [hwX]; exact heap_alloc_new _ _
        have hcE2 := (bX.cell (p := ⟨w4.heap.size, 0, none⟩) hE4).trans hcE
        have hd02 := (bX.cell (p := ⟨b', off' + k * 3, none⟩) hbl').trans hd0
        have hd12 := (bX.cell (p := ⟨b', off' + k * 3 + 1, none⟩) hbl').trans hd1
        have hd22 := (bX.cell (p := ⟨b', off' + k * 3 + 2, none⟩) hbl').trans hd2
        obtain ⟨wY, hwY⟩ : ∃ wY, wY = wX.alloc (.cells #[.string F.name, .string GT, .int .i64 GK] 36) := ⟨_, rfl⟩
        have bY : Below wX.heap.size wX wY := by rw [hwY]; exact (Below.refl _ _).alloc (Nat.le_refl _) _
        have YY : wY.heap[wr.heap.size + 1]? = some (.cells #[.string F.name, .string GT, .int .i64 GK] 36 (0, 0)) := by rw [hwY, ← sX]; exact heap_alloc_new _ _
        have XY := blk_below XX bY
        have x0 := cell_of_row wY wr.heap.size 0 _ _ (0, 0) XY
        have x1 := cell_of_row wY wr.heap.size 1 _ _ (0, 0) XY
        have x2 := cell_of_row wY wr.heap.size 2 _ _ (0, 0) XY
        have y0 := cell_of_row wY (wr.heap.size + 1) 0 _ _ (0, 0) YY
        have y1 := cell_of_row wY (wr.heap.size + 1) 1 _ _ (0, 0) YY
        have x0' : wY.cell? ⟨wr.heap.size, 0, none⟩ = some (.string F.name) := x0.trans rfl
        have x1' : wY.cell? ⟨wr.heap.size, 1, none⟩ = some (.string F.text) := x1.trans rfl
        have x2' : wY.cell? ⟨wr.heap.size, 2, none⟩ = some (.int .i64 F.kept) := x2.trans rfl
        have y0' : wY.cell? ⟨wr.heap.size + 1, 0, none⟩ = some (.string F.name) := y0.trans rfl
        have y1' : wY.cell? ⟨wr.heap.size + 1, 1, none⟩ = some (.string GT) := y1.trans rfl
        have HBY := hide (HB.out.trans ((bX.trans (bY.mono (by omega))).mono HB.out.size))
        rw [hwX] at hwY
        rw [hwX] at hcE2 hd02 hd12 hd22
        clear hG hFo hnm g1 g2 g3 g4 g5 hbl hbl' XX YY XY bX bY sX hwX x0 x1 x2 y0 y1
        go_wp2_with fail
        rw [← hwY]
        clear hwY hcE2 hd02 hd12 hd22
        go_quiet (first | (go_at_call 13; refine Calls.quiet_of_same (begins_any _ _ _)))
        go_wp2
        go_roundg (gk - 1)
        case measure => omega
        case rel => exact ⟨k + 1, by omega, by go_num, by omega, HBY.out.trans ((drewN_below wY nq).mono HBY.out.size)⟩
      · have hlt' : decide ((k : Int) < (fs.length : Int)) = false := by simp; omega
        go_wp2
        go_ret
        exact ⟨rfl, HBw.out⟩
  · have hbig : decide (1048576 < (len : Int)) = true := by simp; omega
    clear hcode
    go_enter Try.func3, Try.ntmps3
    go_wp2_with fail
    refine (big_any _ ao len cap).mono ?_
    rintro e w0 ⟨rfl, rfl⟩
    go_wp2
    go_ret
    exact ⟨rfl, Below.refl _ _⟩
end Go.Proofs.Ytgalhnbfdgpfpaa
