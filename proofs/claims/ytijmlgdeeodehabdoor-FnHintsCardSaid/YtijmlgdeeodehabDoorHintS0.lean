/- The specification's HintText. -/
import Derived.Test.YtijmlgdeeodehabDoorDirS0
import Derived.Test.YtijmlgdeeodehabDoorHintP
import Derived.Test.YtijmlgdeeodehabDoorBatchS1
import Derived.Test.YtijmlgdeeodehabDoorSumS2
namespace Go.Proofs.YtijmlgdeeodehabDoor
open Go.RowKit

set_option maxRecDepth 100000 in
set_option maxHeartbeats 24000000 in
theorem specHintText_any (fs : List SpotD) (ao : Option Addr) (cap : Nat) (w : World) (hl : fs.length ≤ 1048576) (hfs : SpotsAt w ao fs) (hsz : ∀ A ∈ fs, A.key.size ≤ 1048576) : Calls Tryd.prog 15 #[.slice ao fs.length cap] w fun e w' => e = .returned (.tuple #[.string (hintD fs), .bool (dirOkD fs)]) ∧ Below w.heap.size w w' := by
  have HD := hide (fun W (hW : SpotsAt W ao fs) => specDirOk_any fs ao cap W hl hW (fun A hA => by have := hsz A hA; unfold maxLen; omega))
  have HF := hide hfs
  clear hfs hsz
  cases hok : dirOkD fs with
  | false =>
    have HE : Hid (hintD fs = ⟨#[]⟩) := by show _ = _; unfold hintD; rw [hok]; rfl
    rw [hok] at HD
    clear hok
    go_enter Tryd.func15, Tryd.ntmps15
    go_wp2_with fail
    refine (HD.out _ HF.out).mono ?_
    rintro e w1 ⟨rfl, b1⟩
    go_wp2
    go_ret2
    rw [HE.out]
    exact ⟨rfl, b1⟩
  | true =>
    rw [hok] at HD
    have hz := hintL_le hok
    have HA := hide (dirOkD_all hok).2
    have hn := (dirOkD_all hok).1
    have HE : Hid (hintD fs = sealB ⟨(hintL fs).toArray⟩) := by show _ = _; unfold hintD; rw [if_pos hok]
    clear hok
    go_enter Tryd.func15, Tryd.ntmps15
    go_wp2_with fail
    refine (HD.out _ HF.out).mono ?_
    rintro e w1 ⟨rfl, b1⟩
    have B1 := hide b1
    clear b1
    go_wp2_with fail
    refine (l01Var_any fs.length _ (by omega)).mono ?_
    rintro e w2 ⟨rfl, b2⟩
    have B2 := hide (B1.out.trans (b2.mono B1.out.size))
    clear b2
    obtain ⟨w3, C3, hcv, b3, hs3, ho3⟩ := conv_made (P := Tryd.prog) w2 9 22 5 ⟨(Wd.varF 5 fs.length).toArray⟩ Tryd.underlying9 Tryd.underlying22 Tryd.underlying5 (by have := Wd.varF_length 5 fs.length; unfold maxLen; rw [size_of_list]; omega)
    have B3 := hide (B2.out.trans (b3.mono B2.out.size))
    have HO3 : Hid (OwnsB w3 w.heap.size 5 (.slice (some ⟨w2.heap.size, 0, none⟩) (⟨(Wd.varF 5 fs.length).toArray⟩ : ByteArray).size C3) (Wd.varF 5 fs.length ++ spotsL (fs.take 0))) := by
      show OwnsB _ _ _ _ _
      rw [List.take_zero, spotsL, List.append_nil]
      exact ownsB_le ho3 B2.out.size
    clear b3 hs3 ho3
    go_wp2_with fail
    go_loopw [4, 5] (fun vo ii wr => ∃ (k : Nat), ii = .int .i64 k ∧ k ≤ fs.length ∧ Hid (OwnsB wr w.heap.size 5 vo (Wd.varF 5 fs.length ++ spotsL (fs.take k))) ∧ Hid (Below w.heap.size w wr)) (fun _ ii _ => fs.length - (intOf ii).toNat)
    case atStart => exact ⟨0, rfl, Nat.zero_le _, HO3, B3⟩
    case round =>
      obtain ⟨k, rfl, hk, HO, HB⟩ := hrel
      have hws := HB.out.size
      by_cases hlt : k < fs.length
      · have hlt' : decide ((k : Int) < (fs.length : Int)) = true := by simp; omega
        have hi0 : (0 : Int) ≤ (k : Int) := by omega
        have hi1 : (k : Int) < (fs.length : Int) := by omega
        obtain ⟨b, off, rfl, hbw, hd0, hd1, hd2, hd3⟩ := spotsAt_keep HF.out HB.out k hlt
        have hAk := HA.out fs[k] (List.getElem_mem hlt)
        have htk := hide (List.take_succ_eq_append_getElem hlt)
        generalize fs[k] = A at hd0 hd1 hd2 hd3 hAk htk
        obtain ⟨key, seg, pos, seq⟩ := A
        simp only at hd0 hd1 hd2 hd3 hAk
        obtain ⟨⟨hk1, hk2⟩, ⟨hg1, hg2⟩, ⟨hp1, hp2⟩, hq1, hq2⟩ := hAk
        obtain ⟨sg, rfl⟩ := Int.eq_ofNat_of_zero_le hg1
        obtain ⟨po, rfl⟩ := Int.eq_ofNat_of_zero_le hp1
        obtain ⟨sq, rfl⟩ := Int.eq_ofNat_of_zero_le hq1
        have bx : Hid (Below wr.heap.size wr (wr.alloc (.cells #[.string key, .int .i64 (sg : Int), .int .i64 (po : Int), .int .i64 (sq : Int)] 44))) := (Below.refl _ wr).alloc (Nat.le_refl _) _
        have hxs : wr.heap.size < (wr.alloc (.cells #[.string key, .int .i64 (sg : Int), .int .i64 (po : Int), .int .i64 (sq : Int)] 44)).heap.size := by simp
        have hfile := heap_alloc_new wr (.cells #[.string key, .int .i64 (sg : Int), .int .i64 (po : Int), .int .i64 (sq : Int)] 44)
        go_wp2_with fail
        generalize wr.alloc (.cells #[.string key, .int .i64 (sg : Int), .int .i64 (po : Int), .int .i64 (sq : Int)] 44) = W at bx hxs hfile
        have HFI := hide hfile
        have hc0 : W.cell? ⟨wr.heap.size, 0, none⟩ = some (.string key) := (cell_of_row W _ 0 _ _ (0, 0) hfile).trans rfl
        have hc1 : W.cell? ⟨wr.heap.size, 1, none⟩ = some (.int .i64 (sg : Int)) := (cell_of_row W _ 1 _ _ (0, 0) hfile).trans rfl
        have hc2 : W.cell? ⟨wr.heap.size, 2, none⟩ = some (.int .i64 (po : Int)) := (cell_of_row W _ 2 _ _ (0, 0) hfile).trans rfl
        have hc3 : W.cell? ⟨wr.heap.size, 3, none⟩ = some (.int .i64 (sq : Int)) := (cell_of_row W _ 3 _ _ (0, 0) hfile).trans rfl
        have KC : Hid (∀ X, Below W.heap.size W X → X.cell? ⟨wr.heap.size, 0, none⟩ = some (.string key) ∧ X.cell? ⟨wr.heap.size, 1, none⟩ = some (.int .i64 (sg : Int)) ∧ X.cell? ⟨wr.heap.size, 2, none⟩ = some (.int .i64 (po : Int)) ∧ X.cell? ⟨wr.heap.size, 3, none⟩ = some (.int .i64 (sq : Int))) := fun X hX => by
          have h1 := (hX.block _ hxs).trans HFI.out
          exact ⟨(cell_of_row X _ 0 _ _ (0, 0) h1).trans rfl, (cell_of_row X _ 1 _ _ (0, 0) h1).trans rfl, (cell_of_row X _ 2 _ _ (0, 0) h1).trans rfl, (cell_of_row X _ 3 _ _ (0, 0) h1).trans rfl⟩
        clear hfile hd0 hd1 hd2 hd3
        obtain ⟨V, HV⟩ : ∃ V : Nat → ByteArray, Hid (∀ n, V n = ⟨(Wd.varF 5 n).toArray⟩) := ⟨_, fun _ => rfl⟩
        obtain ⟨G, HG⟩ : ∃ G : ByteArray, Hid (G = shortB key) := ⟨_, rfl⟩
        have hv1 : (V sg).size ≤ 5 := by rw [HV.out]; exact Wd.varF_length 5 sg
        have hv2 : (V po).size ≤ 5 := by rw [HV.out]; exact Wd.varF_length 5 po
        have hv3 : (V sq).size ≤ 5 := by rw [HV.out]; exact Wd.varF_length 5 sq
        have hv0 : G.size ≤ 25 := by rw [HG.out]; have := shortB_size key; omega
        have CV : Hid (∀ (n : Nat) (W : World), n < 34359738368 → Calls Tryd.prog 34 #[.int .i64 (n : Int)] W fun e w' => e = .returned (.string (V n)) ∧ Below W.heap.size W w') := fun n W hn => by rw [HV.out]; exact l01Var_any n W hn
        have CG : Hid (∀ (W : World), Calls Tryd.prog 35 #[.string key] W fun e w' => e = .returned (.string G) ∧ Below W.heap.size W w') := fun W => by rw [HG.out]; exact l05Short_any key W (by omega)
        have hA1 : ¬ (9223372036854775807 < G.size + (V sg).size) := by omega
        have hA2 : ¬ (9223372036854775807 < G.size + (V sg).size + (V po).size) := by omega
        have hA3 : ¬ (9223372036854775807 < G.size + (V sg).size + (V po).size + (V sq).size) := by omega
        have hA5 : Hid ((G ++ V sg ++ V po ++ V sq : ByteArray).size ≤ maxLen) := by show _ ≤ _; rw [ByteArray.size_append, ByteArray.size_append, ByteArray.size_append]; unfold maxLen; omega
        obtain ⟨Z, HZ⟩ : ∃ Z : Nat, Hid (Z = (G ++ V sg ++ V po ++ V sq : ByteArray).size) := ⟨_, rfl⟩
        have HSL : Hid (spotL ⟨key, sg, po, sq⟩ = (G ++ V sg ++ V po ++ V sq : ByteArray).data.toList) := by
          show _ = _
          rw [HV.out, HV.out, HV.out, HG.out]
          simp [spotL]
        have BB : Hid (Below W.heap.size W W) := Below.refl _ _
        obtain ⟨LL, HLL⟩ : ∃ LL, Hid (LL = Wd.varF 5 fs.length ++ spotsL (fs.take k)) := ⟨_, rfl⟩
        rw [← HLL.out] at HO
        have hLl : LL.length + (spotL ⟨key, sg, po, sq⟩).length ≤ 70368744177664 := by
          have h1 := Wd.varF_length 5 fs.length
          have h2 := spotsL_le (fs.take k) (fun A hA => (HA.out A (List.mem_of_mem_take hA)).1.2)
          have h3 : (fs.take k).length ≤ fs.length := by rw [List.length_take]; omega
          have h4 := spotL_le ⟨key, sg, po, sq⟩ hk2
          rw [HLL.out, List.length_append]
          omega
        go_region_law ((first | (refine step_append_made _ 22 5 Tryd.underlying22 Tryd.info5 w.heap.size (by rfl) _ _ (by rfl) _ LL (spotL ⟨key, sg, po, sq⟩) (by rfl) (ownsB_below HO.out (bx.out.trans (B4.out.mono (Nat.le_of_lt hxs)))) ⟨w2.heap.size, 0, none⟩ C (by rw [HSL.out, show (G ++ V sg ++ V po ++ V sq : ByteArray).data.toList.length = Z from HZ.out.symm]; rfl) (by rw [HSL.out]; exact ownsB_cells HO4.out) hLl (Nat.le_trans hws (Nat.le_trans (Nat.le_of_lt hxs) B4.out.size)) ?_; intro v5 w5 ho5 hg5; have HO5 := hide ho5; have HG5 := hide hg5; clear ho5 hg5) | (go_simp; go_at_call 35; refine (CG.out _).mono ?_; rintro e w2 ⟨rfl, b2⟩; (first | (have BB := hide (BB.out.trans (b2.mono BB.out.size))) | (have BB := hide (BB.out.trans (((Below.refl _ _).drew.trans b2).mono BB.out.size)))); clear b2; obtain ⟨hc0, hc1, hc2, hc3⟩ := KC.out _ BB.out) | (go_simp; go_at_call 34; refine (CV.out _ _ (by omega)).mono ?_; rintro e w2 ⟨rfl, b2⟩; (first | (have BB := hide (BB.out.trans (b2.mono BB.out.size))) | (have BB := hide (BB.out.trans (((Below.refl _ _).drew.trans b2).mono BB.out.size)))); clear b2; obtain ⟨hc0, hc1, hc2, hc3⟩ := KC.out _ BB.out; obtain ⟨w4, C, hcv, b4, hs4, ho4⟩ := conv_made (P := Tryd.prog) w2 9 22 5 (G ++ V sg ++ V po ++ V sq) Tryd.underlying9 Tryd.underlying22 Tryd.underlying5 hA5.out; rw [← HZ.out] at hcv ho4; have B4 := hide (BB.out.trans (b4.mono BB.out.size)); have HO4 := hide ho4; clear b4 hs4 ho4) | fail))
        all_goals
          go_wp2_with fail
          go_roundw
          case rel =>
            refine ⟨k + 1, by go_num, by omega, ?_, ((HB.out.trans (bx.out.mono hws)).trans (B4.out.mono (by omega))).grown HG5.out (by have := B4.out.size; omega) (fun g hg => (ownsB_lt HO.out g hg).1)⟩
            have e2 : Wd.varF 5 fs.length ++ spotsL (fs.take (k + 1)) = LL ++ spotL ⟨key, sg, po, sq⟩ := by
              rw [HLL.out, htk.out, spotsL_snoc, List.append_assoc]
            show OwnsB _ _ _ _ _
            rw [e2]
            exact HO5.out
          case measure => simp [intOf]; omega
      · have hlt' : decide ((k : Int) < (fs.length : Int)) = false := by simp; omega
        rw [show fs.take k = fs from List.take_of_length_le (by omega)] at HO
        obtain ⟨L, HL⟩ : ∃ L, Hid (L = hintL fs) := ⟨_, rfl⟩
        have HO1 : Hid (OwnsB wr w.heap.size 5 u4 L) := by
          have h := HO.out
          show OwnsB _ _ _ _ _
          rw [HL.out]
          exact h
        rw [← HL.out] at HE hz
        have hcv := conv_backB (P := Tryd.prog) wr 22 9 5 _ u4 L Tryd.underlying22 Tryd.underlying5 Tryd.underlying9 HO1.out
        obtain ⟨g, co, cur, fz, rfl, -, -, -, hLc, hcm, -, -⟩ := HO1.out
        go_wp2_with fail
        refine (specSealed_any _ _ (by rw [size_of_list]; omega)).mono ?_
        rintro e w9 ⟨rfl, b9⟩
        go_wp2
        go_ret2
        rw [HE.out]
        exact ⟨rfl, HB.out.trans (b9.mono hws)⟩
end Go.Proofs.YtijmlgdeeodehabDoor
