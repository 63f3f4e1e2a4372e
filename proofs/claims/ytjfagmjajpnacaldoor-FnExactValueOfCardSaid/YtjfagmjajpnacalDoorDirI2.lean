/- The program's ValueOf. -/
import Derived.Test.YtjfagmjajpnacalDoorDirS4
import Derived.Test.YtjfagmjajpnacalDoorSegF
import Derived.Test.YtjfagmjajpnacalDoorLawValueOf
import Derived.Test.YtjfagmjajpnacalDoorPutP
namespace Go.Proofs.YtjfagmjajpnacalDoor
open Go.RowKit

theorem frameAt_out (s : ByteArray) (i : Int) (w : World) (hs : s.size ≤ 20000) (h : i < 0 ∨ (s.size : Int) < i) :
    Calls Tryd.prog 66 #[.string s, .int .i64 i] w fun e w' => e = .returned (.tuple #[.string ⟨#[]⟩, .int .i64 0, .bool false]) ∧ Below w.heap.size w w' := by
  have hread : Hid (∀ W : World, Calls Tryd.prog 85 #[.string s, .int .i64 i] W fun e w' => e = .returned (.tuple #[.int .i64 0, .int .i64 0, .bool false]) ∧ w' = W) := fun W => implRead_out s i W (by unfold maxLen; omega) h
  go_enter Tryd.func66, Tryd.ntmps66
  go_wp2_with (first | (go_at_call 85; refine (hread.out _).mono ?_; rintro e w0 ⟨rfl, rfl⟩))
  go_ret3
  exact ⟨rfl, Below.refl _ _⟩

/-- The record at a place, read off the file itself. -/
theorem recAt_frame {fs : List FileD} {seg : Int} {p : Nat} {F : FileD} (h : fileD fs (segNm seg) = some F) (hp : p ≤ F.text.size) (hz : F.text.size ≤ 20000) : recAt fs seg (p : Int) = (frB F.text p).map (fun y => F.text.extract y.1 y.2) := by
  obtain ⟨T, hT⟩ : ∃ T, F.text.extract p F.text.size = T := ⟨_, rfl⟩
  have hTz : T.size ≤ 20000 := by rw [← hT, ByteArray.size_extract]; omega
  have hd := frB_drop F.text p 0 hp
  rw [hT, Nat.add_zero] at hd
  have hu : unf T = frs T (T.size + 1) 0 := by unfold unf; rw [if_pos hTz]
  cases hf : frB F.text p with
  | none =>
    rw [hf] at hd
    rw [recAt_nil h hp hT (by rw [hu]; exact frs_none T _ _ hd)]
    rfl
  | some y =>
    rw [hf] at hd
    have hb := frB_bounds F.text p y hf
    rw [recAt_some h hp hT (by rw [hu]; exact frs_some T _ _ _ hd)]
    show some (T.extract (shf p y).1 (shf p y).2) = some (F.text.extract y.1 y.2)
    rw [← hT]
    unfold shf
    simp only
    rw [extract_drop F.text p (y.1 - p) (y.2 - p) (by omega), show p + (y.1 - p) = y.1 by omega, show p + (y.2 - p) = y.2 by omega]

/-- The record that the program looks for. -/
def recI (fs : List FileD) (seg pos : Int) : Option ByteArray := if diskOkD fs = true then recAt fs seg pos else none

set_option maxRecDepth 100000 in
set_option maxHeartbeats 1600000 in
theorem batchAt_any (fs : List FileD) (ao : Option Addr) (cap : Nat) (s : SpotD) (w : World) (hl : fs.length ≤ 1048576) (hfs : FilesAt w ao fs) (hsz : ∀ F ∈ fs, F.name.size ≤ 1048576 ∧ F.text.size ≤ 1048576) (hT : SumTab w) :
    Calls Tryd.prog 38 #[.agg #[.slice ao fs.length cap], .agg #[.string s.key, .int .i64 s.seg, .int .i64 s.pos, .int .i64 s.seq]] w fun e w' => (∃ v, e = .returned (.tuple #[.agg #[.int .i64 (batSeq (recI fs s.seg s.pos)), v], .bool (batOk (recI fs s.seg s.pos))]) ∧ RowChange w' w.heap.size v (batChs (recI fs s.seg s.pos))) ∧ Below w.heap.size w w' := by
  obtain ⟨key, seg, pos, seq⟩ := s
  simp only
  have HF := hide hfs
  have HS := hide hsz
  have HT := hide hT
  have HS2 : Hid (∀ F ∈ fs, F.name.size ≤ maxLen ∧ F.text.size ≤ maxLen) := fun F hF => by have := hsz F hF; unfold maxLen; omega
  clear hfs hsz hT
  obtain ⟨wb, hwb⟩ : ∃ wb, wb = ((w.alloc (.cells #[.slice ao fs.length cap] 31)).alloc (.cells #[.string key, .int .i64 seg, .int .i64 pos, .int .i64 seq] 44)).alloc (.cells #[.int .i64 0, .slice none 0 0] 73) := ⟨_, rfl⟩
  have HB0 : Hid (Below w.heap.size w wb) := by rw [hwb]; exact (((Below.refl _ w).alloc (Nat.le_refl _) _).alloc (by simp) _).alloc (by simp; omega) _
  have hbs : wb.heap.size = w.heap.size + 3 := by rw [hwb]; simp
  have HC0 : Hid (wb.heap[w.heap.size]? = some (.cells #[.slice ao fs.length cap] 31 (0, 0))) := by
    show _ = _
    rw [hwb]
    exact (Below.heap_alloc _ _ _ (by simp; omega)).trans ((Below.heap_alloc _ _ _ (by simp)).trans (heap_alloc_new w _))
  have HC1 : Hid (wb.heap[w.heap.size + 1]? = some (.cells #[.string key, .int .i64 seg, .int .i64 pos, .int .i64 seq] 44 (0, 0))) := by
    show _ = _
    rw [hwb]
    refine (Below.heap_alloc _ _ _ (by simp)).trans ?_
    rw [show w.heap.size + 1 = (w.alloc (.cells #[.slice ao fs.length cap] 31)).heap.size from by simp]
    exact heap_alloc_new _ _
  have HC2 : Hid (wb.heap[w.heap.size + 1 + 1]? = some (.cells #[.int .i64 0, .slice none 0 0] 73 (0, 0))) := by
    show _ = _
    rw [hwb, show w.heap.size + 1 + 1 = ((w.alloc (.cells #[.slice ao fs.length cap] 31)).alloc (.cells #[.string key, .int .i64 seg, .int .i64 pos, .int .i64 seq] 44)).heap.size from by simp]
    exact heap_alloc_new _ _
  have HDO := hide (fun W (hW : FilesAt W ao fs) => diskOk_any fs ao cap W hl hW HS2.out)
  have HNO : Hid (∀ W, recI fs seg pos = none → Below wb.heap.size wb W → ∀ u u2, ((∃ v, Ending.returned (.tuple #[.agg #[.int .i64 0, .slice none 0 0], .bool false]) = Ending.returned (.tuple #[.agg #[.int .i64 (batSeq (recI fs seg pos)), v], .bool (batOk (recI fs seg pos))]) ∧ RowChange ((W.setCell ⟨w.heap.size + 1 + 1, 0, none⟩ u).setCell ⟨w.heap.size + 1 + 1, 1, none⟩ u2) w.heap.size v (batChs (recI fs seg pos))) ∧ Below w.heap.size w ((W.setCell ⟨w.heap.size + 1 + 1, 0, none⟩ u).setCell ⟨w.heap.size + 1 + 1, 1, none⟩ u2))) := by
    intro W h hW u u2
    rw [h]
    exact ⟨⟨_, rfl, .inl ⟨rfl, rfl⟩⟩, ((HB0.out.trans (hW.mono (by omega))).setCell (p := ⟨w.heap.size + 1 + 1, 0, none⟩) (by show w.heap.size ≤ w.heap.size + 1 + 1; omega) u).setCell (p := ⟨w.heap.size + 1 + 1, 1, none⟩) (by show w.heap.size ≤ w.heap.size + 1 + 1; omega) u2⟩
  cases hok : diskOkD fs with
  | false =>
    have HE : Hid (recI fs seg pos = none) := by show _ = _; unfold recI; rw [hok]; rfl
    rw [hok] at HDO
    clear hok
    go_enter Tryd.func38, Tryd.ntmps38
    go_wp2_with fail
    rw [← hwb]
    clear hwb
    refine (HDO.out _ (filesAt_keep HF.out HB0.out)).mono ?_
    rintro e w1 ⟨rfl, b1⟩
    have hr0 : w1.cell? ⟨w.heap.size + 1 + 1, 0, none⟩ = some (.int .i64 0) := (cell_of_row w1 _ 0 _ _ (0, 0) (two_cells HC2.out b1)).trans rfl
    have hr1 : w1.cell? ⟨w.heap.size + 1 + 1, 1, none⟩ = some (.slice none 0 0) := (cell_of_row w1 _ 1 _ _ (0, 0) (two_cells HC2.out b1)).trans rfl
    have hrf0 := frozen_of_row w1 (w.heap.size + 1 + 1) 0 _ _ (two_cells HC2.out b1)
    have hrf1 := frozen_of_row w1 (w.heap.size + 1 + 1) 1 _ _ (two_cells HC2.out b1)
    have B1 := hide b1
    clear b1
    go_wp2_with fail
    exact bodyPost_ret (v := .tuple #[.agg #[.int .i64 0, .slice none 0 0], .bool false]) (by simp [results, Tryd.results38, go_sem, hr0, hr1]) rfl (HNO.out _ HE.out B1.out _ _)
  | true =>
    rw [hok] at HDO
    have HRI : Hid (recI fs seg pos = recAt fs seg pos) := by show _ = _; unfold recI; rw [hok]; rfl
    have hdk := (disk_iff fs).1 hok
    clear hok
    obtain ⟨NM, HNM⟩ : ∃ NM, Hid (segNm seg = NM) := ⟨_, rfl⟩
    have HN : Hid (∀ W : World, Calls Tryd.prog 65 #[.int .i64 seg] W fun e w' => e = .returned (.string NM) ∧ w' = W) := fun W => by rw [← HNM.out]; exact implSegName_any seg W
    go_enter Tryd.func38, Tryd.ntmps38
    go_wp2_with fail
    rw [← hwb]
    clear hwb
    refine (HDO.out _ (filesAt_keep HF.out HB0.out)).mono ?_
    rintro e w1 ⟨rfl, b1⟩
    have B1 := hide b1
    have hc0 : w1.cell? ⟨w.heap.size, 0, none⟩ = some (.slice ao fs.length cap) := (cell_of_row w1 _ 0 _ _ (0, 0) ((b1.block _ (heap_lt HC0.out)).trans HC0.out)).trans rfl
    obtain ⟨hs0, hs1, hs2, hs3⟩ := box4_cells HC1.out b1
    clear b1
    have hlt0 : w.heap.size < w1.heap.size := by have := B1.out.size; omega
    have hlt1 : w.heap.size + 1 < w1.heap.size := by have := B1.out.size; omega
    go_wp2_with fail
    cases hfd : fileD fs (segNm seg) with
    | none =>
      have HE : Hid (recI fs seg pos = none) := by show _ = _; rw [HRI.out]; exact recAt_none hfd
      have HAT : Hid (∀ W, Below w1.heap.size w1 W → Calls Tryd.prog 64 #[.agg #[.slice ao fs.length cap], .string NM] W fun e w' => e = .returned (.tuple #[.string ⟨#[]⟩, .bool false]) ∧ Below W.heap.size W w') := fun W hW => fileAt_none fs ao cap NM W hl (filesAt_keep (filesAt_keep HF.out (HB0.out.trans (B1.out.mono HB0.out.size))) hW) HS.out (by rw [← HNM.out]; exact hfd)
      clear hfd
      go_region_held3 (fun w' => w'.cell? ⟨w.heap.size, 0, none⟩ = some (.slice ao fs.length cap) ∧ w'.cell? ⟨w.heap.size + 1, 1, none⟩ = some (.int .i64 seg)) (first | go_keep | (exact ⟨hc0, hs1⟩) | (exact ⟨(b2.cell (p := ⟨w.heap.size, 0, none⟩) hlt0).trans hc0, (b2.cell (p := ⟨w.heap.size + 1, 1, none⟩) hlt1).trans hs1⟩)) ((first | (go_at_call 65; refine (HN.out _).mono ?_; rintro e w' ⟨rfl, rfl⟩) | (go_at_call 64; refine (HAT.out _ (by first | exact Below.refl _ _ | exact (Below.refl _ _).drew)).mono ?_; rintro e w2 ⟨rfl, b2⟩)))
      have B2 : Hid (Below w1.heap.size w1 w2) := (Below.refl _ _).drew.trans b2
      clear b2 hc0 hs0 hs1 hs2 hs3
      have B3 := hide (B1.out.trans (B2.out.mono B1.out.size))
      have hr0 : w2.cell? ⟨w.heap.size + 1 + 1, 0, none⟩ = some (.int .i64 0) := (cell_of_row w2 _ 0 _ _ (0, 0) (two_cells HC2.out B3.out)).trans rfl
      have hr1 : w2.cell? ⟨w.heap.size + 1 + 1, 1, none⟩ = some (.slice none 0 0) := (cell_of_row w2 _ 1 _ _ (0, 0) (two_cells HC2.out B3.out)).trans rfl
      have hrf0 := frozen_of_row w2 (w.heap.size + 1 + 1) 0 _ _ (two_cells HC2.out B3.out)
      have hrf1 := frozen_of_row w2 (w.heap.size + 1 + 1) 1 _ _ (two_cells HC2.out B3.out)
      go_wp2_with fail
      exact bodyPost_ret (v := .tuple #[.agg #[.int .i64 0, .slice none 0 0], .bool false]) (by simp [results, Tryd.results38, go_sem, hr0, hr1]) rfl (HNO.out _ HE.out B3.out _ _)
    | some F =>
      have hFm := List.mem_of_find?_eq_some hfd
      have hFz := (ok_file (hdk.2.1 F hFm)).2.2.1
      have HAT : Hid (∀ W, Below w1.heap.size w1 W → Calls Tryd.prog 64 #[.agg #[.slice ao fs.length cap], .string NM] W fun e w' => e = .returned (.tuple #[.string F.text, .bool true]) ∧ Below W.heap.size W w') := fun W hW => fileAt_some fs ao cap NM W F hl (filesAt_keep (filesAt_keep HF.out (HB0.out.trans (B1.out.mono HB0.out.size))) hW) HS.out (by rw [← HNM.out]; exact hfd)
      have HFD := hide hfd
      clear hfd hFm hdk
      go_region_held3 (fun w' => w'.cell? ⟨w.heap.size, 0, none⟩ = some (.slice ao fs.length cap) ∧ w'.cell? ⟨w.heap.size + 1, 1, none⟩ = some (.int .i64 seg)) (first | go_keep | (exact ⟨hc0, hs1⟩) | (exact ⟨(b2.cell (p := ⟨w.heap.size, 0, none⟩) hlt0).trans hc0, (b2.cell (p := ⟨w.heap.size + 1, 1, none⟩) hlt1).trans hs1⟩)) ((first | (go_at_call 65; refine (HN.out _).mono ?_; rintro e w' ⟨rfl, rfl⟩) | (go_at_call 64; refine (HAT.out _ (by first | exact Below.refl _ _ | exact (Below.refl _ _).drew)).mono ?_; rintro e w2 ⟨rfl, b2⟩)))
      have B2 : Hid (Below w1.heap.size w1 w2) := (Below.refl _ _).drew.trans b2
      clear b2 hc0 hs0 hs1 hs2 hs3
      have B3 := hide (B1.out.trans (B2.out.mono B1.out.size))
      obtain ⟨hs0, hs1, hs2, hs3⟩ := box4_cells HC1.out B3.out
      have HT2 : Hid (SumTab w2) := sumTab_later (HB0.out.trans (B3.out.mono HB0.out.size)) HT.out
      have HFR : Hid ((recI fs seg pos = none ∧ ∀ W : World, SumTab W → Calls Tryd.prog 66 #[.string F.text, .int .i64 pos] W fun e w' => e = .returned (.tuple #[.string ⟨#[]⟩, .int .i64 0, .bool false]) ∧ Below W.heap.size W w') ∨
          ∃ R : ByteArray, R.size ≤ 20000 ∧ recI fs seg pos = some R ∧ ∃ e : Int, ∀ W : World, SumTab W → Calls Tryd.prog 66 #[.string F.text, .int .i64 pos] W fun e' w' => e' = .returned (.tuple #[.string R, .int .i64 e, .bool true]) ∧ Below W.heap.size W w') := by
        rw [HRI.out]
        by_cases hp : 0 ≤ pos ∧ pos ≤ F.text.size
        · obtain ⟨p, rfl⟩ := Int.eq_ofNat_of_zero_le hp.1
          have hp2 : p ≤ F.text.size := by omega
          have hrf := recAt_frame HFD.out hp2 hFz
          cases hfr : frB F.text p with
          | none =>
            rw [hfr] at hrf
            exact .inl ⟨hrf, fun W hW => frameAt_none F.text p W hFz hp2 hfr hW⟩
          | some y =>
            rw [hfr] at hrf
            exact .inr ⟨F.text.extract y.1 y.2, by rw [ByteArray.size_extract]; omega, hrf, y.2, fun W hW => frameAt_some F.text p y W hFz hp2 hfr hW⟩
        · exact .inl ⟨recAt_out HFD.out hp, fun W _ => frameAt_out F.text pos W hFz (by omega)⟩
      rcases HFR.out with ⟨hE, hC⟩ | ⟨R, hRz, hE, ee, hC⟩
      · have HE := hide hE
        have HC := hide hC
        clear hE hC
        go_wp2_with fail
        refine (HC.out _ HT2.out).mono ?_
        rintro e w4 ⟨rfl, b4⟩
        have B4 := hide (B3.out.trans (b4.mono B3.out.size))
        clear b4 hs0 hs1 hs2 hs3
        have hr0 : w4.cell? ⟨w.heap.size + 1 + 1, 0, none⟩ = some (.int .i64 0) := (cell_of_row w4 _ 0 _ _ (0, 0) (two_cells HC2.out B4.out)).trans rfl
        have hr1 : w4.cell? ⟨w.heap.size + 1 + 1, 1, none⟩ = some (.slice none 0 0) := (cell_of_row w4 _ 1 _ _ (0, 0) (two_cells HC2.out B4.out)).trans rfl
        have hrf0 := frozen_of_row w4 (w.heap.size + 1 + 1) 0 _ _ (two_cells HC2.out B4.out)
        have hrf1 := frozen_of_row w4 (w.heap.size + 1 + 1) 1 _ _ (two_cells HC2.out B4.out)
        go_wp2_with fail
        exact bodyPost_ret (v := .tuple #[.agg #[.int .i64 0, .slice none 0 0], .bool false]) (by simp [results, Tryd.results38, go_sem, hr0, hr1]) rfl (HNO.out _ HE.out B4.out _ _)
      · have HE := hide hE
        have HC := hide hC
        clear hE hC
        have HRB := hide (fun W => implReadBatch_any R W (by omega))
        go_wp2_with fail
        refine (HC.out _ HT2.out).mono ?_
        rintro e w4 ⟨rfl, b4⟩
        have B4 := hide (B3.out.trans (b4.mono B3.out.size))
        clear b4 hs0 hs1 hs2 hs3
        go_wp2_with fail
        refine (HRB.out _).mono ?_
        rintro e w5 ⟨⟨v5, rfl, r5⟩, b5⟩
        obtain ⟨a5, c5, rfl, -⟩ := rowChange_at r5
        have B5 := hide (B4.out.trans (b5.mono B4.out.size))
        have R5 := hide r5
        clear r5 b5
        have hr0 : w5.cell? ⟨w.heap.size + 1 + 1, 0, none⟩ = some (.int .i64 0) := (cell_of_row w5 _ 0 _ _ (0, 0) (two_cells HC2.out B5.out)).trans rfl
        have hr1 : w5.cell? ⟨w.heap.size + 1 + 1, 1, none⟩ = some (.slice none 0 0) := (cell_of_row w5 _ 1 _ _ (0, 0) (two_cells HC2.out B5.out)).trans rfl
        have hrf0 := frozen_of_row w5 (w.heap.size + 1 + 1) 0 _ _ (two_cells HC2.out B5.out)
        have hrf1 := frozen_of_row w5 (w.heap.size + 1 + 1) 1 _ _ (two_cells HC2.out B5.out)
        have hsz4 : w.heap.size ≤ w4.heap.size := by have := B4.out.size; omega
        go_wp2_with fail
        refine bodyPost_ret (v := .tuple #[.agg #[.int .i64 (rdSeq R), .slice a5 (rdChanges R).length c5], .bool (rdOk R)]) (by simp [results, Tryd.results38, go_sem, hr0, hr1]) rfl ?_
        rw [HE.out]
        have gS := grownBy_store (grownBy_store (World.grownBy.refl w5 (some (w.heap.size + 1 + 1))) 0 (.int .i64 (rdSeq R))) 1 (.slice a5 (rdChanges R).length c5)
        refine ⟨⟨_, rfl, rowChange_grown (rowChange_le R5.out hsz4) gS (fun k hk e => ?_)⟩, (HB0.out.trans (B5.out.mono (by omega))).grown gS (by have := B5.out.size; omega) (fun k hk => by cases hk; omega)⟩
        obtain ⟨C, hC⟩ := change_block R5.out hk
        obtain rfl := Option.some.inj e
        rw [two_cells HC2.out B5.out] at hC
        simp at hC
end Go.Proofs.YtjfagmjajpnacalDoor
