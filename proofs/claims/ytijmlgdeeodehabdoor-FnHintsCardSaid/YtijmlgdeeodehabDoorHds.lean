/- Of: DrawHF DrawHA DrawHD DrawHint. -/
import Derived.Test.YtijmlgdeeodehabDoorDrawSeg
import Derived.Test.YtijmlgdeeodehabDoorDrawSp
import Derived.Test.YtijmlgdeeodehabDoorDrawDk
import Derived.Test.YtijmlgdeeodehabDoorSegs
import Derived.Deep.CutBlock
import Derived.Test.YtijmlgdeeodehabDoorDirS5
import Derived.Test.YtijmlgdeeodehabDoorHintS2
/- A drawn file of a segment, any number, any seq. -/
namespace Go.Proofs.YtijmlgdeeodehabDoor
open Go.RowKit

theorem headT_sz (n f : Int) : (headT n f).size ≤ 50 := by
  unfold headT
  split
  · have h1 := headL_len n.toNat f.toNat
    have h2 := frameB_size ⟨(headL n.toNat f.toNat).toArray⟩
    have h3 := Wd.varF_len 5 (⟨(headL n.toNat f.toNat).toArray⟩ : ByteArray).size
    have h4 : (⟨(headL n.toNat f.toNat).toArray⟩ : ByteArray).size = (headL n.toNat f.toNat).length := rfl
    omega
  · exact Nat.zero_le _
theorem textD_few (q : Int) (fs : List ChangeD) (hl : fs.length ≤ 6) (hs : ∀ A ∈ fs, A.key.size ≤ 12 ∧ A.value.size ≤ 12) : (textD q fs).size ≤ 300 := by
  cases h : textOkD q fs with
  | false => rw [textD_no h]; exact Nat.zero_le _
  | true =>
    obtain ⟨t, h1, -, h2, -⟩ := text_few h hl hs
    rw [h1]
    exact h2
theorem frame_small (T : ByteArray) (W : World) (h : T.size ≤ 300) : Calls Tryd.prog 45 #[.string T] W fun e w' => ∃ (F : ByteArray) (ok : Bool), e = .returned (.tuple #[.string F, .bool ok]) ∧ F.size ≤ 309 ∧ Below W.heap.size W w' := by
  by_cases h1 : 1 ≤ T.size
  · refine (specFrame_yes T W h1 (by omega)).mono ?_
    rintro e w' ⟨rfl, b⟩
    have h2 := frameB_size T
    have h3 := Wd.varF_len 5 T.size
    exact ⟨_, _, rfl, by omega, b⟩
  · refine (specFrame_no T W (.inl (by omega))).mono ?_
    rintro e w' ⟨rfl, rfl⟩
    exact ⟨_, _, rfl, Nat.zero_le _, Below.refl _ _⟩

set_option maxRecDepth 100000 in
set_option maxHeartbeats 3200000 in
theorem l06File_sz (w0 w : World) (g : Nat) (ao : Option Addr) (len cap n q0 : Nat) (hn : n ≤ 99) (hq0 : q0 ≤ 1000) (hlen : len ≤ 1048576) (hcode : Code w0 ao len) (hc : CurAt w0 w g ao len cap) :
    Calls Tryd.prog 20 #[.pointer (some ⟨g, 0, none⟩), .int .i64 (n : Int), .int .i64 (q0 : Int)] w fun e w' => ∃ (S : ByteArray) (q : Nat), e = .returned (.tuple #[.string S, .int .i64 (q : Int)]) ∧ S.size ≤ 1300 ∧ q ≤ q0 + 6 ∧ CurAt w0 w' g ao len cap ∧ w.grownBy w' (some g) := by
  have HC := hide hcode
  have HCU := hide hc
  clear hcode hc
  go_enter Tryd.func20, Tryd.ntmps20
  go_wp2_with fail
  refine (below_any w0 _ g ao len cap ((n : Int) + 1) hlen (by omega) HC.out HCU.out).mono ?_
  rintro e w1 ⟨x, rfl, hx1, -, c1, g1⟩
  clear hx1
  go_wp2_with fail
  refine (once_any w0 _ g ao len cap 4 hlen (by omega) HC.out c1).mono ?_
  rintro e w2 ⟨b, rfl, c2, g2⟩
  have C2 := hide c2
  have G2 := hide (grownBy_trans g1 g2)
  clear c1 g1 c2 g2 HCU
  cases b
  all_goals
    go_wp2_with fail
    refine (specHeadText_any (n : Int) _ _).mono ?_
    rintro e w3 ⟨rfl, b3⟩
    have hcur := cur_lt C2.out
    have C3 := hide (cur_keep C2.out b3 hcur)
    have G3 := hide (grownBy_trans G2.out (grownBy_below _ b3))
    clear b3 hcur C2 G2
    have hz0 := headT_sz (n : Int) (x : Int)
    have hz1 := headT_sz (n : Int) (0 : Int)
    generalize headT (n : Int) (x : Int) = S0 at hz0
    generalize headT (n : Int) (0 : Int) = S1 at hz1
    go_wp2_with fail
    go_loopw [2, 9, 11] (fun vq vs vi wr => ∃ (i q : Nat) (S : ByteArray), vq = .int .i64 (q : Int) ∧ vs = .string S ∧ vi = .int .i64 i ∧ i ≤ 3 ∧ q ≤ q0 + 2 * i ∧ S.size ≤ 50 + 400 * i ∧ Hid (CurAt w0 wr g ao len cap) ∧ Hid (w.grownBy wr (some g))) (fun _ _ vi _ => 4 - (intOf vi).toNat)
    case atStart => first | exact ⟨0, q0, S0, rfl, rfl, rfl, Nat.zero_le _, by omega, by omega, C3, G3⟩ | exact ⟨0, q0, S1, rfl, rfl, rfl, Nat.zero_le _, by omega, by omega, C3, G3⟩
    case round =>
      clear C3 G3
      obtain ⟨i, q, S, rfl, rfl, rfl, hi, hq2, hSz, CU, GR⟩ := hrel
      go_wp2_with fail
      refine (below_any w0 _ g ao len cap 4 hlen (by omega) HC.out CU.out).mono ?_
      rintro e w4 ⟨y, rfl, hy, -, c4, g4⟩
      have hy4 : y < 4 := by have := hy (by omega); omega
      have C4 := hide c4
      have G4 := hide (grownBy_trans GR.out g4)
      clear hy c4 g4
      by_cases hiy : i < y
      · have hiy' : decide ((i : Int) < (y : Int)) = true := by simp; omega
        go_wp2_with fail
        refine (list_any w0 _ g ao len cap hlen HC.out C4.out).mono ?_
        rintro e w5 ⟨a5, k5, fs, rfl, o5, hf1, hf6, hfs, c5, g5⟩
        have C5 := hide c5
        have G5 := hide (grownBy_trans G4.out g5)
        have A5 := hide (rowChange_rows (rowChange_own o5))
        have HFS := hide hfs
        have hTz := textD_few (q : Int) fs hf6 hfs
        clear c5 g5 o5 hfs
        go_wp2_with fail
        refine (specBatchText_any (q : Int) fs a5 k5 _ (by omega) A5.out (fun A hA => by have := HFS.out A hA; omega)).mono ?_
        rintro e w6 ⟨rfl, b6⟩
        have hcur := cur_lt C5.out
        have C6 := hide (cur_keep C5.out b6 hcur)
        have G6 := hide (grownBy_trans G5.out (grownBy_below _ b6))
        clear b6 hcur
        generalize textD (q : Int) fs = T at hTz
        generalize textOkD (q : Int) fs = okT
        go_wp2_with fail
        refine (frame_small T _ hTz).mono ?_
        rintro e w7 ⟨FT, okF, rfl, hFz, b7⟩
        have hcur := cur_lt C6.out
        have C7 := hide (cur_keep C6.out b7 hcur)
        have G7 := hide (grownBy_trans G6.out (grownBy_below _ b7))
        clear b7 hcur hTz
        go_wp2_with fail
        refine (below_any w0 _ g ao len cap 2 hlen (by omega) HC.out C7.out).mono ?_
        rintro e w8 ⟨y2, rfl, hy2, -, c8, g8⟩
        have hy3 : y2 < 2 := by have := hy2 (by omega); omega
        have C8 := hide c8
        have G8 := hide (grownBy_trans G7.out g8)
        clear hy2 c8 g8
        go_wp2_with fail
        go_roundw
        case rel => exact ⟨i + 1, q + 1 + y2, S ++ FT, by go_num, rfl, by go_num, by omega, by omega, by rw [ByteArray.size_append]; omega, C8, G8⟩
        case measure => simp [intOf]; omega
      · have hiy' : decide ((i : Int) < (y : Int)) = false := by simp; omega
        go_wp2
        go_ret2
        exact ⟨S, q, rfl, by omega, by omega, C4.out, G4.out⟩

end Go.Proofs.YtijmlgdeeodehabDoor

/- A drawn disk of segments. -/
namespace Go.Proofs.YtijmlgdeeodehabDoor
open Go.RowKit

theorem segNm_sz (n : Int) : (segNm n).size ≤ 100 := by
  unfold segNm
  split
  · rename_i h
    obtain ⟨m, rfl⟩ := Int.eq_ofNat_of_zero_le h.1
    have h1 := decS_len m (by omega)
    show (98 :: Wd.decS (m : Int)).length ≤ 100
    rw [List.length_cons]
    omega
  · exact Nat.zero_le _

set_option maxRecDepth 100000 in
set_option maxHeartbeats 60000000 in
theorem l06Disk_any (w0 w : World) (g : Nat) (ao : Option Addr) (len cap : Nat) (hlen : len ≤ 1048576) (hcode : Code w0 ao len) (hc : CurAt w0 w g ao len cap) :
    Calls Tryd.prog 55 #[.pointer (some ⟨g, 0, none⟩)] w fun e w' => ∃ (a : Option Addr) (c : Nat) (fs : List FileD), e = .returned (.agg #[.slice a fs.length c]) ∧ RowF w' w.heap.size (.slice a fs.length c) fs ∧ fs.length ≤ 40 ∧ (∀ A ∈ fs, A.name.size ≤ 100 ∧ A.text.size ≤ 30000) ∧ CurAt w0 w' g ao len cap ∧ w.grownBy w' (some g) := by
  have HC := hide hcode
  have hg := cur_lt hc
  obtain ⟨wR, hwR⟩ : ∃ wR, wR = (w.alloc (.cells #[.slice none 0 0] 93)).alloc (.cells #[.slice none 0 0] 93) := ⟨_, rfl⟩
  have hs1 : (w.alloc (.cells #[.slice none 0 0] 93)).heap.size = w.heap.size + 1 := by simp
  obtain ⟨p, hp⟩ : ∃ p, p = w.heap.size + 1 := ⟨_, rfl⟩
  have hpw : w.heap.size < p := by omega
  have D0 : Hid (DS w0 w wR g p ao len cap (.slice none 0 0) []) := by
    have hb1 : Below w.heap.size w (w.alloc (.cells #[.slice none 0 0] 93)) := (Below.refl _ w).alloc (Nat.le_refl _) _
    have hb2 : Below (w.heap.size + 1) (w.alloc (.cells #[.slice none 0 0] 93)) wR := by rw [hwR]; exact (Below.refl _ _).alloc (by rw [hs1]; exact Nat.le_refl _) _
    have e := heap_alloc_new (w.alloc (.cells #[.slice none 0 0] 93)) (.cells #[.slice none 0 0] 93)
    rw [hs1] at e
    refine ⟨cur_keep hc (hb1.trans (hb2.mono (by omega))) hg, grownBy_below _ (hb1.trans (hb2.mono (by omega))), (hb2.block _ (by omega)).trans (heap_alloc_new w _), by rw [hp, hwR]; exact e, World.ownsRow_nil _ _ _ _, by simp [Value.ownBlock]⟩
  clear hcode hc hs1
  go_enter Tryd.func55, Tryd.ntmps55
  go_wp2_with fail
  rw [← hwR, ← hp]
  clear hwR hp
  go_loopw [4, 5, 6] (fun vq vn ii wr => ∃ (k q n : Nat) (a : Option Addr) (c : Nat) (fs : List FileD), vq = .int .i64 (q : Int) ∧ vn = .int .i64 (n : Int) ∧ ii = .int .i64 k ∧ k ≤ 4 ∧ q ≤ 1 + 6 * k ∧ n ≤ 3 * k ∧ fs.length ≤ k ∧ Hid (BF fs) ∧ Hid (DS w0 w wr g p ao len cap (.slice a fs.length c) fs)) (fun _ _ ii _ => 5 - (intOf ii).toNat)
  case atStart => exact ⟨0, 1, 0, none, 0, [], rfl, rfl, rfl, by omega, by omega, by omega, by simp, ⟨by simp, fun A hA => absurd hA List.not_mem_nil⟩, D0⟩
  case round =>
    clear D0
    obtain ⟨i, q, n, a, c, fs, rfl, rfl, rfl, hik, hq, hn, hfl, HB, HD⟩ := hrel
    go_wp2_with fail
    refine (below_any w0 _ g ao len cap _ hlen (by omega) HC.out HD.out.1).mono ?_
    rintro e w2 ⟨x, rfl, hx, _, hc2, g2⟩
    have hx4 : x < 4 := by have := hx (by omega); omega
    have D2 := hide (ds_grown HD.out hg hpw hc2 g2)
    clear hc2 g2 HD hx
    by_cases hlt : i < 1 + x
    · have hlt' : decide ((i : Int) < 1 + (x : Int)) = true := by simp; omega
      go_wp2_with fail
      refine (below_any w0 _ g ao len cap _ hlen (by omega) HC.out D2.out.1).mono ?_
      rintro e w3 ⟨y, rfl, hy, _, hc3, g3⟩
      have hy3 : y < 3 := by have := hy (by omega); omega
      have D3 := hide (ds_grown D2.out hg hpw hc3 g3)
      clear hc3 g3 D2 hy
      have hF := fun (W : World) (hW : CurAt w0 W g ao len cap) => l06File_sz w0 W g ao len cap (n + y) q (by omega) (by omega) hlen HC.out hW
      rw [show ((n + y : Nat) : Int) = (n : Int) + (y : Int) from by omega] at hF
      have HF := hide hF
      clear hF
      obtain ⟨NM, hNM⟩ : ∃ NM, segNm ((n : Int) + (y : Int)) = NM := ⟨_, rfl⟩
      have hNz : NM.size ≤ 100 := by rw [← hNM]; exact segNm_sz _
      have HNM : Hid (∀ W : World, Calls Tryd.prog 82 #[.int .i64 ((n : Int) + (y : Int))] W fun e w' => e = .returned (.string NM) ∧ Below W.heap.size W w') := fun W => by rw [← hNM]; exact specSegName_any _ W
      clear hNM
      go_wp2_with fail
      refine (HF.out _ D3.out.1).mono ?_
      rintro e w4 ⟨T, qn, rfl, hT, hqn, hc4, g4⟩
      have D4 := hide (ds_grown D3.out hg hpw hc4 g4)
      clear hc4 g4 D3
      go_wp2_with fail
      refine (once_any w0 _ g ao len cap _ hlen (by omega) HC.out D4.out.1).mono ?_
      rintro e w5 ⟨b, rfl, hc5, g5⟩
      have D5 := hide (ds_grown D4.out hg hpw hc5 g5)
      clear hc5 g5 D4
      go_upto_if 30 with fail
      go_cut [4] from 31 to 51 (fun vq wx => ∃ q2 : Nat, vq = .int .i64 (q2 : Int) ∧ q2 ≤ 1 + 6 * (i + 1) ∧ Hid (DS w0 w wx g p ao len cap (.slice a fs.length c) fs))
      case first =>
        cases b
        · go_wp2
          go_meet
          exact ⟨qn, rfl, by omega, D5⟩
        · go_wp2
          go_meet
          exact ⟨1, rfl, by omega, D5⟩
      case rest =>
      obtain ⟨q2, rfl, hq2, D5c⟩ := hcut
      clear D5
      go_wp2_with fail
      refine (below_any w0 _ g ao len cap _ hlen (by omega) HC.out D5c.out.1).mono ?_
      rintro e w6 ⟨s, rfl, _, _, hc6, g6⟩
      have D6 := hide (ds_grown D5c.out hg hpw hc6 g6)
      clear hc6 g6 D5c
      go_upto_block 2 with fail
      go_cut [7] from 33 to 51 (fun vt wx => ∃ T2 : ByteArray, vt = .string T2 ∧ T2.size ≤ 30000 ∧ Hid (DS w0 w wx g p ao len cap (.slice a fs.length c) fs))
      case first =>
        by_cases h0 : s = 0
        · have hy0 : ((s : Int) == 0) = true := by rw [beq_iff_eq]; omega
          clear h0
          have h4 : (⟨#[116, 111, 114, 110]⟩ : ByteArray).size = 4 := rfl
          have hXz : (T ++ (⟨#[116, 111, 114, 110]⟩ : ByteArray)).size ≤ 30000 := by rw [ByteArray.size_append]; omega
          go_wp2
          go_meet
          exact ⟨_, rfl, hXz, D6⟩
        have hy0 : ((s : Int) == 0) = false := by rw [beq_eq_false_iff_ne]; omega
        by_cases h1 : s = 1
        · have hy1 : ((s : Int) == 1) = true := by rw [beq_iff_eq]; omega
          clear h0 h1
          go_wp2_with fail
          refine (spoilt_any w0 _ g ao len cap T hlen (by omega) HC.out D6.out.1).mono ?_
          rintro e wS ⟨T2, rfl, hT2, hcS, gS⟩
          have DS6 := hide (ds_grown D6.out hg hpw hcS gS)
          clear hcS gS D6
          go_wp2
          go_meet
          exact ⟨T2, rfl, hT2, DS6⟩
        · have hy1 : ((s : Int) == 1) = false := by rw [beq_eq_false_iff_ne]; omega
          clear h0 h1
          go_wp2
          go_meet
          exact ⟨T, rfl, by omega, D6⟩
      case rest =>
      obtain ⟨T2, rfl, hT2, DS6⟩ := hcut
      clear D6
      obtain ⟨⟨hcd, _⟩, -, -⟩ := ds_cells DS6.out
      have hcdd : wc.drew.cell? ⟨p, 0, none⟩ = some (.slice a fs.length c) := hcd
      have D6d : Hid (DS w0 w wc.drew g p ao len cap (.slice a fs.length c) fs) := ds_below DS6.out (Below.refl _ _).drew
      go_wp2_with fail
      go_region_law ((first | (go_simp; go_at_call 82; refine (HNM.out _).mono ?_; rintro e w7 ⟨rfl, b7⟩; have D7 := hide (ds_below D6d.out b7); have hcd7 := (ds_cells D7.out).1.1; clear b7) | (go_simp; go_at_call 86; refine (l03Put_own fs _ _ ⟨NM, T2, (T2.size : Int)⟩ _ (by omega) (rowF_files (rowF_own D7.out.2.2.2.2.1))).mono ?_; rintro e w8 ⟨v8, rfl, ho8, b8⟩; obtain ⟨a8, c8, rfl⟩ := slice_form ho8; have HO8 := hide ho8; have B8 := hide b8; have hq8 := (ds_cells (ds_below D7.out b8)).1.1; have hz8 := (ds_cells (ds_below D7.out b8)).1.2; clear ho8 b8) | fail))
      all_goals
        have hs7 : w.heap.size + 1 ≤ w7.heap.size ∧ p < w7.heap.size := ⟨blkD_lt D7.out.2.2.1, blkD_lt D7.out.2.2.2.1⟩
        have D8 := hide (ds_row D7.out hg hpw (grownBy_below _ B8.out) (ownsRow_mono HO8.out hs7.1) (fun e => by have := (HO8.out.lt _ e).1; omega))
        have HB8 := hide (bf_put (F := ⟨NM, T2, (T2.size : Int)⟩) HB.out hfl (by omega) (by show NM.size ≤ 100; omega) (by show T2.size ≤ 30000; omega))
        have hl8 := len_putD_le fs ⟨NM, T2, (T2.size : Int)⟩
        clear HO8 B8 D7 D6d hcd hcdd hcd7 hq8 hz8
        go_wp2_with fail
        go_roundw
        case rel => exact ⟨i + 1, q2, n + y + 1, _, _, _, rfl, by go_num, by go_num, by omega, by omega, by omega, by omega, HB8, D8⟩
        case measure => simp [intOf]; omega
    · have hlt' : decide ((i : Int) < 1 + (x : Int)) = false := by simp; omega
      go_wp2_with fail
      refine (below_any w0 _ g ao len cap _ hlen (by omega) HC.out D2.out.1).mono ?_
      rintro e w3 ⟨s, rfl, _, _, hc3, g3⟩
      have D3 := hide (ds_grown D2.out hg hpw hc3 g3)
      clear hc3 g3 D2
      by_cases h0 : s = 0
      · have hy0 : ((s : Int) == 0) = true := by rw [beq_iff_eq]; omega
        clear h0
        obtain ⟨⟨hcd, hcf⟩, -, -⟩ := ds_cells D3.out
        go_wp2_with fail
        refine (l03Put_own fs _ _ ⟨⟨#[109, 43]⟩, ⟨#[120]⟩, 0⟩ _ (by omega) (rowF_files (rowF_own D3.out.2.2.2.2.1))).mono ?_
        rintro e w8 ⟨v8, rfl, ho8, b8⟩
        obtain ⟨a8, c8, rfl⟩ := slice_form ho8
        have HO8 := hide ho8
        have B8 := hide b8
        have hq8 := (ds_cells (ds_below D3.out b8)).1.1
        have hz8 := (ds_cells (ds_below D3.out b8)).1.2
        clear ho8 b8
        have hs7 : w.heap.size + 1 ≤ w3.heap.size ∧ p < w3.heap.size := ⟨blkD_lt D3.out.2.2.1, blkD_lt D3.out.2.2.2.1⟩
        have D8 := hide (ds_row D3.out hg hpw (grownBy_below _ B8.out) (ownsRow_mono HO8.out hs7.1) (fun e => by have := (HO8.out.lt _ e).1; omega))
        have HB8 := hide (bf_put (F := ⟨⟨#[109, 43]⟩, ⟨#[120]⟩, 0⟩) HB.out hfl (by omega) (by show (2 : Nat) ≤ 100; omega) (by show (1 : Nat) ≤ 30000; omega))
        go_upto_region 24 with fail
        generalize w8.setCell ⟨p, 0, none⟩ (.slice a8 (putD fs ⟨⟨#[109, 43]⟩, ⟨#[120]⟩, 0⟩).length c8) = w9 at D8
        clear hq8 hz8
        obtain ⟨⟨hp0, hpf0⟩, hr0, hrf0⟩ := ds_cells D8.out
        go_wp2_with fail
        have hE := ds_end D8.out hg (.slice a8 (putD fs ⟨⟨#[109, 43]⟩, ⟨#[120]⟩, 0⟩).length c8)
        exact bodyPost_ret (v := .agg #[(.slice a8 (putD fs ⟨⟨#[109, 43]⟩, ⟨#[120]⟩, 0⟩).length c8)]) (by simp [results, Tryd.results55, go_sem, hr0]) rfl ⟨_, _, putD fs ⟨⟨#[109, 43]⟩, ⟨#[120]⟩, 0⟩, rfl, hE.1, HB8.out.1, HB8.out.2, hE.2.1, hE.2.2⟩
      have hy0 : ((s : Int) == 0) = false := by rw [beq_eq_false_iff_ne]; omega
      by_cases h1 : s = 1
      · have hy1 : ((s : Int) == 1) = true := by rw [beq_iff_eq]; omega
        clear h0 h1
        obtain ⟨⟨hcd, hcf⟩, -, -⟩ := ds_cells D3.out
        have hcdd : w3.drew.cell? ⟨p, 0, none⟩ = some (.slice a fs.length c) := hcd
        have D3d : Hid (DS w0 w w3.drew g p ao len cap (.slice a fs.length c) fs) := ds_below D3.out (Below.refl _ _).drew
        go_wp2_with fail
        go_region_law ((first | (go_simp; go_at_call 19; refine (below_any w0 _ g ao len cap _ hlen (by omega) HC.out D3d.out.1).mono ?_; rintro e w6 ⟨z, rfl, _, _, hc6, g6⟩; have D6 := hide (ds_grown D3d.out hg hpw hc6 g6); have hcd6 := (ds_cells D6.out).1.1; clear hc6 g6) | (go_simp; go_at_call 82; refine (specSegName_any _ _).mono ?_; rintro e w7 ⟨rfl, b7⟩; have D7 := hide (ds_below D6.out b7); have hcd7 := (ds_cells D7.out).1.1; clear b7) | (go_simp; go_at_call 86; refine (l03Put_own fs _ _ ⟨segNm (z : Int), ⟨#[120]⟩, 1⟩ _ (by omega) (rowF_files (rowF_own D7.out.2.2.2.2.1))).mono ?_; rintro e w8 ⟨v8, rfl, ho8, b8⟩; obtain ⟨a8, c8, rfl⟩ := slice_form ho8; have HO8 := hide ho8; have B8 := hide b8; have hq8 := (ds_cells (ds_below D7.out b8)).1.1; have hz8 := (ds_cells (ds_below D7.out b8)).1.2; clear ho8 b8) | fail))
        all_goals
          have hs7 : w.heap.size + 1 ≤ w7.heap.size ∧ p < w7.heap.size := ⟨blkD_lt D7.out.2.2.1, blkD_lt D7.out.2.2.2.1⟩
          have D8 := hide (ds_row D7.out hg hpw (grownBy_below _ B8.out) (ownsRow_mono HO8.out hs7.1) (fun e => by have := (HO8.out.lt _ e).1; omega))
          have HB8 := hide (bf_put (F := ⟨segNm (z : Int), ⟨#[120]⟩, 1⟩) HB.out hfl (by omega) (by exact segNm_sz _) (by show (1 : Nat) ≤ 30000; omega))
          go_upto_region 24 with fail
          generalize w8.setCell ⟨p, 0, none⟩ (.slice a8 (putD fs ⟨segNm (z : Int), ⟨#[120]⟩, 1⟩).length c8) = w9 at D8
          clear hq8 hz8
          obtain ⟨⟨hp0, hpf0⟩, hr0, hrf0⟩ := ds_cells D8.out
          go_wp2_with fail
          have hE := ds_end D8.out hg (.slice a8 (putD fs ⟨segNm (z : Int), ⟨#[120]⟩, 1⟩).length c8)
          exact bodyPost_ret (v := .agg #[(.slice a8 (putD fs ⟨segNm (z : Int), ⟨#[120]⟩, 1⟩).length c8)]) (by simp [results, Tryd.results55, go_sem, hr0]) rfl ⟨_, _, putD fs ⟨segNm (z : Int), ⟨#[120]⟩, 1⟩, rfl, hE.1, HB8.out.1, HB8.out.2, hE.2.1, hE.2.2⟩
      · have hy1 : ((s : Int) == 1) = false := by rw [beq_eq_false_iff_ne]; omega
        clear h0 h1
        obtain ⟨⟨hp0, hpf0⟩, hr0, hrf0⟩ := ds_cells D3.out
        go_wp2_with fail
        have hE := ds_end D3.out hg (.slice a fs.length c)
        exact bodyPost_ret (v := .agg #[(.slice a fs.length c)]) (by simp [results, Tryd.results55, go_sem, hr0]) rfl ⟨_, _, fs, rfl, hE.1, HB.out.1, HB.out.2, hE.2.1, hE.2.2⟩
end Go.Proofs.YtijmlgdeeodehabDoor

/- A drawn directory. -/
namespace Go.Proofs.YtijmlgdeeodehabDoor
open Go.RowKit

theorem spots_news {w : World} {g : Nat} {fs : List SpotD} {C : Array Value} {T : TypeId} (hC : w.heap[g]? = some (.cells C T (0, 0))) (hI : SpotsIn C fs fs.length) : ∀ j u, (cellsSpot fs)[j]? = some u → w.cell? ((⟨g, 0, none⟩ : Addr).add j) = some u := by
  intro j u hu
  have hj := (List.getElem?_eq_some_iff.1 hu).1
  rw [cellsSpot_length] at hj
  have hadd : (⟨g, 0, none⟩ : Addr).add j = ⟨g, j, none⟩ := by unfold Addr.add; split <;> simp_all
  rw [hadd, cell_of_row w g j C T (0, 0) hC, ← hu]
  have hq : j / 4 < fs.length := by omega
  obtain ⟨a0, a1, a2, a3⟩ := cellsSpot_get fs (j / 4) hq
  obtain ⟨b0, b1, b2, b3⟩ := hI (j / 4) hq hq
  have hr : j % 4 = 0 ∨ j % 4 = 1 ∨ j % 4 = 2 ∨ j % 4 = 3 := by omega
  rcases hr with hr | hr | hr | hr
  · rw [show j = j / 4 * 4 from by omega, b0, a0]
  · rw [show j = j / 4 * 4 + 1 from by omega, b1, a1]
  · rw [show j = j / 4 * 4 + 2 from by omega, b2, a2]
  · rw [show j = j / 4 * 4 + 3 from by omega, b3, a3]
/-- 'append(dir, list...)' -/
theorem app_spots {ops : Array Oper} {rest : List Oper} {o : Oper} {a : Act} {Q : Exit → Act → World → Prop} (W : World) (B : Nat) (hgd : o.guard = none) (s y : Operand)
    (ho : o.op = .call { callee := .builtin .append, args := #[s, y], argTypes := #[38, 38] }) (v : Value) (l L2 : List SpotD) (hs : a.eval s = v)
    (hown : W.ownsRow B 44 4 v l.length (cellsSpot l)) (k c : Nat) (hx : a.eval y = .slice (some ⟨k, 0, none⟩) L2.length c) (hnews : ∀ j u, (cellsSpot L2)[j]? = some u → W.cell? ((⟨k, 0, none⟩ : Addr).add j) = some u)
    (hlen : l.length ≤ 1048576) (hl2 : 0 < L2.length) (hl3 : L2.length ≤ 1048576) (hbase : B ≤ W.heap.size)
    (h : ∀ g cap w', w'.ownsRow B 44 4 (.slice (some ⟨g, 0, none⟩) (l.length + L2.length) cap) (l ++ L2).length (cellsSpot (l ++ L2)) → Below B W w' → B ≤ g → g < w'.heap.size → wpList Tryd.prog ops Q rest (a.put o.dst (.slice (some ⟨g, 0, none⟩) (l.length + L2.length) cap)) w') :
    wpList Tryd.prog ops Q (o :: rest) a W := by
  obtain ⟨i0, hi, hz0, hz1, hz2⟩ := info_parts Tryd.infoSpot
  refine wpList_append_lies W hgd s y 38 ho B 44 i0 (.agg #[.string ⟨#[]⟩, .int .i64 0, .int .i64 0, .int .i64 0]) 4 40 Tryd.underlying38 hi hz0 hz1 hz2 rfl (by decide) v l.length (cellsSpot l) hs hown ⟨k, 0, none⟩ L2.length c (cellsSpot L2) hx (cellsSpot_length L2) hnews (cellsSpot_one L2) hl2 (by unfold maxLen; omega) (by omega) hbase W.heap.size rfl ?_
  intro g cap w' hown' hgrow hg hgl
  have hlt := hown.lt
  refine h g cap w' ?_ ((Below.refl B W).grown hgrow hbase (fun k hk => (hlt k hk).1)) ?_ hgl
  · rw [cellsSpot_append, List.length_append]
    exact hown'
  · rcases hg with hg | rfl
    · exact (hlt g hg).1
    · exact hbase

/-- While a directory is drawn. -/
def SS (w0 w wr : World) (g : Nat) (ao : Option Addr) (len cap : Nat) (v : Value) (fs : List SpotD) : Prop :=
  CurAt w0 wr g ao len cap ∧ w.grownBy wr (some g) ∧ wr.ownsRow w.heap.size 44 4 v fs.length (cellsSpot fs)
theorem ss_grown {w0 w wr w' : World} {g : Nat} {ao : Option Addr} {len cap : Nat} {v : Value} {fs : List SpotD} (h : SS w0 w wr g ao len cap v fs) (hg : g < w.heap.size) (hc : CurAt w0 w' g ao len cap) (hgr : wr.grownBy w' (some g)) : SS w0 w w' g ao len cap v fs :=
  ⟨hc, grownBy_trans h.2.1 hgr, row_keep h.2.2 hgr hg⟩
theorem ss_below {w0 w wr w' : World} {g : Nat} {ao : Option Addr} {len cap : Nat} {v : Value} {fs : List SpotD} (h : SS w0 w wr g ao len cap v fs) (hb : Below wr.heap.size wr w') : SS w0 w w' g ao len cap v fs :=
  ⟨cur_keep h.1 hb (cur_lt h.1), grownBy_trans h.2.1 (grownBy_below _ hb), h.2.2.kept (grownBy_below none hb) (by cases v.ownBlock <;> simp)⟩
theorem ss_app {w0 w wr w' : World} {g : Nat} {ao : Option Addr} {len cap : Nat} {v v' : Value} {fs fs' : List SpotD} (h : SS w0 w wr g ao len cap v fs) (hg : g < w.heap.size) (hb : Below w.heap.size wr w') (ho : w'.ownsRow w.heap.size 44 4 v' fs'.length (cellsSpot fs')) : SS w0 w w' g ao len cap v' fs' :=
  ⟨cur_keep h.1 hb hg, grownBy_then h.2.1 hb, ho⟩
theorem ss_elem {w0 w wr : World} {g : Nat} {ao : Option Addr} {len cap : Nat} {fs fs' : List SpotD} {gb n c j : Nat} {u : Value} (h : SS w0 w wr g ao len cap (.slice (some ⟨gb, 0, none⟩) n c) fs) (hn : fs.length = n) (hg : g < w.heap.size) (hc : (cellsSpot fs).set j u = cellsSpot fs') (hl : fs'.length = fs.length) : SS w0 w (wr.setCell ⟨gb, j, none⟩ u) g ao len cap (.slice (some ⟨gb, 0, none⟩) n c) fs' := by
  subst hn
  obtain ⟨h1, h2, h5⟩ := h
  have hgb := (h5.lt gb rfl).1
  have hs := (h5.stored j u).1
  rw [hc] at hs
  refine ⟨cur_far h1 (by omega), grown_far h2 (by omega) _ _, ?_⟩
  rw [hl]
  exact hs
theorem cellsSpot_set0 : ∀ (fs : List SpotD) (k : Nat) (h : k < fs.length) (Z : ByteArray), (cellsSpot fs).set (k * 4) (.string Z) = cellsSpot (fs.set k ⟨Z, fs[k].seg, fs[k].pos, fs[k].seq⟩)
  | A :: r, 0, _, Z => by simp [cellsSpot]
  | A :: r, k + 1, h, Z => by
    have ih := cellsSpot_set0 r k (by simpa using h) Z
    rw [show (k + 1) * 4 = k * 4 + 1 + 1 + 1 + 1 from by omega]
    simp [cellsSpot, ih]
theorem cellsSpot_set1 : ∀ (fs : List SpotD) (k : Nat) (h : k < fs.length) (z : Int), (cellsSpot fs).set (k * 4 + 1) (.int .i64 z) = cellsSpot (fs.set k ⟨fs[k].key, z, fs[k].pos, fs[k].seq⟩)
  | A :: r, 0, _, z => by simp [cellsSpot]
  | A :: r, k + 1, h, z => by
    have ih := cellsSpot_set1 r k (by simpa using h) z
    rw [show (k + 1) * 4 + 1 = k * 4 + 1 + 1 + 1 + 1 + 1 from by omega]
    simp [cellsSpot, ih]
theorem cellsSpot_set2 : ∀ (fs : List SpotD) (k : Nat) (h : k < fs.length) (z : Int), (cellsSpot fs).set (k * 4 + 2) (.int .i64 z) = cellsSpot (fs.set k ⟨fs[k].key, fs[k].seg, z, fs[k].seq⟩)
  | A :: r, 0, _, z => by simp [cellsSpot]
  | A :: r, k + 1, h, z => by
    have ih := cellsSpot_set2 r k (by simpa using h) z
    rw [show (k + 1) * 4 + 2 = k * 4 + 2 + 1 + 1 + 1 + 1 from by omega]
    simp [cellsSpot, ih]
theorem cellsSpot_set3 : ∀ (fs : List SpotD) (k : Nat) (h : k < fs.length) (z : Int), (cellsSpot fs).set (k * 4 + 3) (.int .i64 z) = cellsSpot (fs.set k ⟨fs[k].key, fs[k].seg, fs[k].pos, z⟩)
  | A :: r, 0, _, z => by simp [cellsSpot]
  | A :: r, k + 1, h, z => by
    have ih := cellsSpot_set3 r k (by simpa using h) z
    rw [show (k + 1) * 4 + 3 = k * 4 + 3 + 1 + 1 + 1 + 1 from by omega]
    simp [cellsSpot, ih]
theorem ss_cells {w0 w wr : World} {g : Nat} {ao : Option Addr} {len cap : Nat} {fs : List SpotD} {gb c : Nat} (h : SS w0 w wr g ao len cap (.slice (some ⟨gb, 0, none⟩) fs.length c) fs) {k : Nat} (hk : k < fs.length) :
    (wr.cell? ⟨gb, k * 4, none⟩ = some (.string fs[k].key) ∧ wr.cell? ⟨gb, k * 4 + 1, none⟩ = some (.int .i64 fs[k].seg) ∧ wr.cell? ⟨gb, k * 4 + 2, none⟩ = some (.int .i64 fs[k].pos) ∧ wr.cell? ⟨gb, k * 4 + 3, none⟩ = some (.int .i64 fs[k].seq)) ∧ ∀ j, wr.frozen? ⟨gb, j, none⟩ = false := by
  obtain ⟨-, -, h5⟩ := h
  obtain ⟨e0, e1, e2, e3⟩ := cellsSpot_get fs k hk
  exact ⟨⟨(h5.cellAt (k * 4) (by omega)).trans e0, (h5.cellAt (k * 4 + 1) (by omega)).trans e1, (h5.cellAt (k * 4 + 2) (by omega)).trans e2, (h5.cellAt (k * 4 + 3) (by omega)).trans e3⟩, fun j => h5.frozenAt j⟩
/-- What bounds a drawn directory. -/
def BSp (fs : List SpotD) : Prop := fs.length ≤ 1000000 ∧ ∀ A ∈ fs, A.key.size ≤ 100
theorem bsp_set {fs : List SpotD} {k : Nat} {F : SpotD} (h : BSp fs) (h1 : F.key.size ≤ 100) : BSp (fs.set k F) := by
  refine ⟨by rw [List.length_set]; exact h.1, fun A hA => ?_⟩
  rcases List.mem_or_eq_of_mem_set hA with h' | rfl
  · exact h.2 A h'
  · exact h1

theorem keys_snoc {fs : List SpotD} {F : SpotD} (h : ∀ A ∈ fs, A.key.size ≤ 100) (h1 : F.key.size ≤ 100) : ∀ A ∈ fs ++ [F], A.key.size ≤ 100 := by
  intro A hA
  rcases List.mem_append.1 hA with h' | h'
  · exact h A h'
  · obtain rfl : A = F := by simpa using h'
    exact h1
theorem decS_few (n : Int) (h0 : 0 ≤ n) (h1 : n ≤ 9999) : (Wd.decS n).length ≤ 20 := by
  obtain ⟨m, rfl⟩ := Int.eq_ofNat_of_zero_le h0
  unfold Wd.decS
  split
  · simp
  · rw [if_neg (by omega), Int.natAbs_natCast]
    have := Wd.decA_length 20 m [] 4 (by omega)
    simp at this
    omega

set_option maxRecDepth 100000 in
set_option maxHeartbeats 6400000 in
theorem l07Dir_any (w0 w : World) (g : Nat) (ao : Option Addr) (len cap : Nat) (hlen : len ≤ 1048576) (hcode : Code w0 ao len) (hc : CurAt w0 w g ao len cap) :
    Calls Tryd.prog 27 #[.pointer (some ⟨g, 0, none⟩)] w fun e w' => ∃ (a : Option Addr) (c : Nat) (fs : List SpotD), e = .returned (.slice a fs.length c) ∧ SS w0 w w' g ao len cap (.slice a fs.length c) fs ∧ fs.length ≤ 1048576 ∧ ∀ A ∈ fs, A.key.size ≤ 100 := by
  have HC := hide hcode
  have HU := hide hc
  have hg := cur_lt hc
  clear hcode hc
  go_enter Tryd.func27, Tryd.ntmps27
  go_wp2_with fail
  refine (l06Disk_any w0 _ g ao len cap hlen HC.out HU.out).mono ?_
  rintro e w1 ⟨a1, c1, fs, rfl, r1, hf1, hf2, hc1, g1⟩
  have U1 := hide hc1
  have G1 := hide g1
  have HDO := hide (specDirOf_any fs a1 c1 w1 (by omega) (rowF_files r1) (fun F hF => by have := hf2 F hF; omega))
  clear hc1 g1 r1 hf1 hf2 HU
  have hdl := dirD_len fs
  have HDK := hide (dirD_keys fs)
  generalize dirD fs = L at HDO hdl HDK
  generalize segsOk fs = ok at HDO
  go_wp2_with fail
  refine HDO.out.mono ?_
  rintro e w2 ⟨⟨v, rfl, r2⟩, b2⟩
  have U2 := hide (cur_keep U1.out b2 (cur_lt U1.out))
  have G2 := hide (grownBy_trans G1.out (grownBy_below _ b2))
  have hs2 : w.heap.size ≤ w2.heap.size := G2.out.size
  clear b2 HDO U1 G1
  have HE : Hid (SS w0 w (w2.alloc (.cells #[] 44)) g ao len cap (.slice (some ⟨w2.heap.size, 0, none⟩) 0 0) []) := by
    have hb : Below w2.heap.size w2 (w2.alloc (.cells #[] 44)) := (Below.refl _ _).alloc (Nat.le_refl _) _
    refine ⟨cur_keep U2.out hb (cur_lt U2.out), grownBy_trans G2.out (grownBy_below _ hb), ?_⟩
    have := World.ownsRow_lit (e := 44) (size := 4) w2 #[] 0 hs2 (by unfold maxLen; omega) (by simp)
    simpa [cellsSpot] using this
  rcases r2 with ⟨rfl, rfl⟩ | ⟨gd, cd, C, rfl, hB, hC, hsz, hI⟩
  · go_wp2_with fail
    go_ret
    exact ⟨_, _, [], rfl, HE.out, by simp, fun A hA => absurd hA List.not_mem_nil⟩
  by_cases hL0 : L.length = 0
  · obtain rfl : L = [] := List.eq_nil_of_length_eq_zero hL0
    go_wp2_with fail
    go_ret
    exact ⟨_, _, [], rfl, HE.out, by simp, fun A hA => absurd hA List.not_mem_nil⟩
  have hz0 : ((L.length : Int) == 0) = false := by rw [beq_eq_false_iff_ne]; omega
  have HN : Hid (∀ j u, (cellsSpot L)[j]? = some u → (w2.alloc (.cells #[] 44)).cell? ((⟨gd, 0, none⟩ : Addr).add j) = some u) := spots_news (T := 44) (((((Below.refl w2.heap.size w2).alloc (Nat.le_refl _) _).block gd (heap_lt hC))).trans hC) hI
  clear hC hI hB hsz
  go_wp2_with (at_builtin; refine app_spots _ w.heap.size (by rfl) _ _ (by rfl) _ [] L (by rfl) HE.out.2.2 gd _ (by rfl) HN.out (by simp) (by omega) (by omega) (by simp; omega) ?_; intro g3 cap3 w3 ho3 hb3 hg3 hgl3; have S3 := hide (ss_app HE.out hg hb3 ho3); clear ho3 hb3 hgl3)
  simp only [List.nil_append, List.length_nil, Nat.zero_add] at S3 ⊢
  refine (below_any w0 _ g ao len cap _ hlen (by omega) HC.out S3.out.1).mono ?_
  rintro e w4 ⟨k, rfl, hk, _, hc4, g4⟩
  have hkL : k < L.length := by have := hk (by omega); omega
  have S4 := hide (ss_grown S3.out hg hc4 g4)
  clear hc4 g4 hk S3 HE HN
  go_wp2_with fail
  refine (below_any w0 _ g ao len cap _ hlen (by omega) HC.out S4.out.1).mono ?_
  rintro e w5 ⟨s, rfl, _, _, hc5, g5⟩
  have S5 := hide (ss_grown S4.out hg hc5 g5)
  clear hc5 g5 S4
  have hsw : w.heap.size ≤ w5.heap.size := S5.out.2.1.size
  have hi0 : (0 : Int) ≤ (k : Int) := by omega
  have hi1 : (k : Int) < (L.length : Int) := by omega
  have hBS : Hid (BSp L) := ⟨by omega, fun A hA => by have := HDK.out A hA; omega⟩
  by_cases h0 : s = 0
  · have hy0 : ((s : Int) == 0) = true := by rw [beq_iff_eq]; omega
    clear h0
    go_wp2_with fail
    refine (long_any 21 65 _ (by omega) (by omega)).mono ?_
    rintro e w6 ⟨l, rfl, hl, b6⟩
    have S6 := hide (ss_below S5.out b6)
    have hs6 : w.heap.size ≤ w6.heap.size := S6.out.2.1.size
    obtain ⟨X, hX⟩ : ∃ X : ByteArray, (⟨l.toArray⟩ : ByteArray) = X := ⟨_, rfl⟩
    have hXz : X.size = 21 := by rw [← hX]; exact hl
    rw [hX]
    clear hX hl b6
    have SA := hide (ss_below S6.out ((Below.refl _ w6).alloc (Nat.le_refl _) (.cells #[.string ⟨#[]⟩, .string ⟨#[122, 122]⟩, .string X] 9)))
    have HX : Hid ((w6.alloc (.cells #[.string ⟨#[]⟩, .string ⟨#[122, 122]⟩, .string X] 9)).heap[w6.heap.size]? = some (.cells (([⟨#[]⟩, ⟨#[122, 122]⟩, X] : List ByteArray).map Value.string).toArray 9 (0, 0))) := heap_alloc_new w6 _
    go_wp2_with fail
    refine (pickText_any w0 _ g w6.heap.size ao len cap 3 [⟨#[]⟩, ⟨#[122, 122]⟩, X] hlen HC.out SA.out.1 (by omega) rfl (by omega) (by omega) (texts_cells _ HX.out)).mono ?_
    rintro e w7 ⟨z, rfl, hz, hc7, g7⟩
    have hzz : z.size ≤ 100 := by
      simp only [List.mem_cons, List.not_mem_nil, or_false] at hz
      rcases hz with rfl | rfl | rfl
      · exact Nat.zero_le _
      · show (2 : Nat) ≤ 100; omega
      · omega
    have S7 := hide (ss_grown SA.out hg hc7 g7)
    obtain ⟨⟨e0, e1, e2, e3⟩, ef⟩ := ss_cells S7.out hkL
    have ef0 := ef (k * 4)
    clear hc7 g7 SA HX hz ef
    go_wp2_with fail
    go_ret
    have hSE := ss_elem S7.out rfl hg (cellsSpot_set0 L k hkL z) (List.length_set ..)
    have hBE := bsp_set (k := k) (F := ⟨z, L[k].seg, L[k].pos, L[k].seq⟩) hBS.out hzz
    have hle : (L.set k ⟨z, L[k].seg, L[k].pos, L[k].seq⟩).length = L.length := List.length_set ..
    exact ⟨some ⟨g3, 0, none⟩, cap3, L.set k ⟨z, L[k].seg, L[k].pos, L[k].seq⟩, by rw [hle]; rfl, by rw [hle]; exact hSE, by rw [hle]; omega, hBE.2⟩
  have hy0 : ((s : Int) == 0) = false := by rw [beq_eq_false_iff_ne]; omega
  by_cases h1 : s = 1
  · have hy1 : ((s : Int) == 1) = true := by rw [beq_iff_eq]; omega
    clear h0 h1
    have SA := hide (ss_below S5.out ((Below.refl _ w5).alloc (Nat.le_refl _) (.cells #[.int .i64 (-1), .int .i64 (99), .int .i64 (100)] 3)))
    have HX : Hid ((w5.alloc (.cells #[.int .i64 (-1), .int .i64 (99), .int .i64 (100)] 3)).heap[w5.heap.size]? = some (.cells (([-1, 99, 100] : List Int).map (Value.int .i64)).toArray 3 (0, 0))) := heap_alloc_new w5 _
    go_wp2_with fail
    refine (pickInt_any w0 _ g w5.heap.size ao len cap 3 [-1, 99, 100] hlen HC.out SA.out.1 (by omega) rfl (by omega) (by omega) (ints_cells _ HX.out)).mono ?_
    rintro e w6 ⟨z, rfl, hz, hc6, g6⟩
    have S6 := hide (ss_grown SA.out hg hc6 g6)
    obtain ⟨⟨e0, e1, e2, e3⟩, ef⟩ := ss_cells S6.out hkL
    have ef0 := ef (k * 4 + 1)
    clear hc6 g6 SA HX hz ef
    go_wp2_with fail
    go_ret
    have hSE := ss_elem S6.out rfl hg (cellsSpot_set1 L k hkL z) (List.length_set ..)
    have hBE := bsp_set (k := k) (F := ⟨L[k].key, z, L[k].pos, L[k].seq⟩) hBS.out (hBS.out.2 L[k] (List.getElem_mem hkL))
    have hle : (L.set k ⟨L[k].key, z, L[k].pos, L[k].seq⟩).length = L.length := List.length_set ..
    exact ⟨some ⟨g3, 0, none⟩, cap3, L.set k ⟨L[k].key, z, L[k].pos, L[k].seq⟩, by rw [hle]; rfl, by rw [hle]; exact hSE, by rw [hle]; omega, hBE.2⟩
  have hy1 : ((s : Int) == 1) = false := by rw [beq_eq_false_iff_ne]; omega
  by_cases h2 : s = 2
  · have hy2 : ((s : Int) == 2) = true := by rw [beq_iff_eq]; omega
    clear h0 h1 h2
    have SA := hide (ss_below S5.out ((Below.refl _ w5).alloc (Nat.le_refl _) (.cells #[.int .i64 (-1), .int .i64 (20000), .int .i64 (20001)] 3)))
    have HX : Hid ((w5.alloc (.cells #[.int .i64 (-1), .int .i64 (20000), .int .i64 (20001)] 3)).heap[w5.heap.size]? = some (.cells (([-1, 20000, 20001] : List Int).map (Value.int .i64)).toArray 3 (0, 0))) := heap_alloc_new w5 _
    go_wp2_with fail
    refine (pickInt_any w0 _ g w5.heap.size ao len cap 3 [-1, 20000, 20001] hlen HC.out SA.out.1 (by omega) rfl (by omega) (by omega) (ints_cells _ HX.out)).mono ?_
    rintro e w6 ⟨z, rfl, hz, hc6, g6⟩
    have S6 := hide (ss_grown SA.out hg hc6 g6)
    obtain ⟨⟨e0, e1, e2, e3⟩, ef⟩ := ss_cells S6.out hkL
    have ef0 := ef (k * 4 + 2)
    clear hc6 g6 SA HX hz ef
    go_wp2_with fail
    go_ret
    have hSE := ss_elem S6.out rfl hg (cellsSpot_set2 L k hkL z) (List.length_set ..)
    have hBE := bsp_set (k := k) (F := ⟨L[k].key, L[k].seg, z, L[k].seq⟩) hBS.out (hBS.out.2 L[k] (List.getElem_mem hkL))
    have hle : (L.set k ⟨L[k].key, L[k].seg, z, L[k].seq⟩).length = L.length := List.length_set ..
    exact ⟨some ⟨g3, 0, none⟩, cap3, L.set k ⟨L[k].key, L[k].seg, z, L[k].seq⟩, by rw [hle]; rfl, by rw [hle]; exact hSE, by rw [hle]; omega, hBE.2⟩
  have hy2 : ((s : Int) == 2) = false := by rw [beq_eq_false_iff_ne]; omega
  by_cases h3 : s = 3
  · have hy3 : ((s : Int) == 3) = true := by rw [beq_iff_eq]; omega
    clear h0 h1 h2 h3
    have SA := hide (ss_below S5.out ((Below.refl _ w5).alloc (Nat.le_refl _) (.cells #[.int .i64 (-1), .int .i64 (1000000000), .int .i64 (1000000001)] 3)))
    have HX : Hid ((w5.alloc (.cells #[.int .i64 (-1), .int .i64 (1000000000), .int .i64 (1000000001)] 3)).heap[w5.heap.size]? = some (.cells (([-1, 1000000000, 1000000001] : List Int).map (Value.int .i64)).toArray 3 (0, 0))) := heap_alloc_new w5 _
    go_wp2_with fail
    refine (pickInt_any w0 _ g w5.heap.size ao len cap 3 [-1, 1000000000, 1000000001] hlen HC.out SA.out.1 (by omega) rfl (by omega) (by omega) (ints_cells _ HX.out)).mono ?_
    rintro e w6 ⟨z, rfl, hz, hc6, g6⟩
    have S6 := hide (ss_grown SA.out hg hc6 g6)
    obtain ⟨⟨e0, e1, e2, e3⟩, ef⟩ := ss_cells S6.out hkL
    have ef0 := ef (k * 4 + 3)
    clear hc6 g6 SA HX hz ef
    go_wp2_with fail
    go_ret
    have hSE := ss_elem S6.out rfl hg (cellsSpot_set3 L k hkL z) (List.length_set ..)
    have hBE := bsp_set (k := k) (F := ⟨L[k].key, L[k].seg, L[k].pos, z⟩) hBS.out (hBS.out.2 L[k] (List.getElem_mem hkL))
    have hle : (L.set k ⟨L[k].key, L[k].seg, L[k].pos, z⟩).length = L.length := List.length_set ..
    exact ⟨some ⟨g3, 0, none⟩, cap3, L.set k ⟨L[k].key, L[k].seg, L[k].pos, z⟩, by rw [hle]; rfl, by rw [hle]; exact hSE, by rw [hle]; omega, hBE.2⟩
  have hy3 : ((s : Int) == 3) = false := by rw [beq_eq_false_iff_ne]; omega
  by_cases h4 : s = 4
  · have hy4 : ((s : Int) == 4) = true := by rw [beq_iff_eq]; omega
    clear h0 h1 h2 h3 h4
    obtain ⟨⟨e0, e1, e2, e3⟩, ef⟩ := ss_cells S5.out hkL
    obtain ⟨A, HA⟩ : ∃ A, Hid (L[k] = A) := ⟨_, hide rfl⟩
    have hAk : A.key.size ≤ 100 := by rw [← HA.out]; exact hBS.out.2 _ (List.getElem_mem hkL)
    rw [HA.out] at e0 e1 e2 e3
    clear ef
    go_wp2_with (at_builtin; refine app_spot _ w.heap.size (by rfl) _ _ (by rfl) _ L A (by rfl) (S5.out.2.2.alloc _) w5.heap.size (by rfl) (heap_alloc_new w5 _) (by omega) (by simp; omega) ?_; intro g8 cap8 w8 ho8 hb8 hg8 hgl8; have S8 := hide (ss_app (ss_below S5.out ((Below.refl _ w5).alloc (Nat.le_refl _) _)) hg hb8 ho8); clear ho8 hb8 hg8 hgl8)
    go_ret
    have hle : (L ++ [A]).length = L.length + 1 := by simp
    exact ⟨some ⟨g8, 0, none⟩, cap8, L ++ [A], by rw [hle]; rfl, by rw [hle]; exact S8.out, by rw [hle]; omega, keys_snoc hBS.out.2 hAk⟩
  have hy4 : ((s : Int) == 4) = false := by rw [beq_eq_false_iff_ne]; omega
  by_cases h5 : s = 5
  · have hy5 : ((s : Int) == 5) = true := by rw [beq_iff_eq]; omega
    clear h0 h1 h2 h3 h4 h5
    have SE : Hid (SS w0 w (w5.alloc (.cells #[] 44)) g ao len cap (.slice (some ⟨w5.heap.size, 0, none⟩) 0 0) []) := by
      have hb : Below w5.heap.size w5 (w5.alloc (.cells #[] 44)) := (Below.refl _ _).alloc (Nat.le_refl _) _
      have h5 := ss_below S5.out hb
      refine ⟨h5.1, h5.2.1, ?_⟩
      have := World.ownsRow_lit (e := 44) (size := 4) w5 #[] 0 hsw (by unfold maxLen; omega) (by simp)
      simpa [cellsSpot] using this
    clear S5
    go_wp2_with fail
    go_loopw [3, 6] (fun vd vi wr => ∃ (i : Nat) (a : Option Addr) (c : Nat) (fs : List SpotD), vd = .slice a fs.length c ∧ vi = .int .i64 (i : Int) ∧ i ≤ 201 ∧ fs.length ≤ i ∧ Hid (∀ A ∈ fs, A.key.size ≤ 100) ∧ Hid (SS w0 w wr g ao len cap (.slice a fs.length c) fs)) (fun _ vi _ => 202 - (intOf vi).toNat)
    case atStart => exact ⟨0, _, _, [], rfl, rfl, by omega, Nat.le_refl _, fun A hA => absurd hA List.not_mem_nil, SE⟩
    case round =>
      clear SE
      obtain ⟨i, a, c, fs, rfl, rfl, hi, hfl, HK, SR⟩ := hrel
      go_wp2_with fail
      refine (below_any w0 _ g ao len cap _ hlen (by omega) HC.out SR.out.1).mono ?_
      rintro e w6 ⟨y, rfl, hy, _, hc6, g6⟩
      have hy2 : y < 2 := by have := hy (by omega); omega
      have S6 := hide (ss_grown SR.out hg hc6 g6)
      clear hc6 g6 hy SR
      by_cases hlt : i < 200 + y
      · have hlt' : decide ((i : Int) < 200 + (y : Int)) = true := by simp; omega
        have CV := hide (fun W => decimal_any (1000 + (i : Int)) W (by omega) (by omega))
        have hvl := decS_few (1000 + (i : Int)) (by omega) (by omega)
        obtain ⟨V, HV⟩ : ∃ V : ByteArray, Hid (⟨(Wd.decS (1000 + (i : Int))).toArray⟩ = V) := ⟨_, hide rfl⟩
        have hVz : V.size ≤ 20 := by rw [← HV.out]; exact hvl
        rw [HV.out] at CV
        have h1z : (⟨#[107]⟩ : ByteArray).size = 1 := rfl
        have hKz : ((⟨#[107]⟩ : ByteArray) ++ V).size ≤ 100 := by rw [ByteArray.size_append]; omega
        go_wp2_with fail
        refine (CV.out _).mono ?_
        rintro e w7 ⟨rfl, b7⟩
        have S7 := hide (ss_below S6.out b7)
        have hsw7 : w.heap.size ≤ w7.heap.size := S7.out.2.1.size
        clear b7 S6
        go_wp2_with (at_builtin; refine app_spot _ w.heap.size (by rfl) _ _ (by rfl) _ fs ⟨(⟨#[107]⟩ : ByteArray) ++ V, 0, 0, 0⟩ (by rfl) (S7.out.2.2.alloc _) w7.heap.size (by rfl) (heap_alloc_new w7 _) (by omega) (by simp; omega) ?_; intro g8 cap8 w8 ho8 hb8 hg8 hgl8; have S8 := hide (ss_app (ss_below S7.out ((Below.refl _ w7).alloc (Nat.le_refl _) _)) hg hb8 ho8); clear ho8 hb8 hg8 hgl8)
        go_roundw
        case rel =>
          have hle : (fs ++ [(⟨(⟨#[107]⟩ : ByteArray) ++ V, 0, 0, 0⟩ : SpotD)]).length = fs.length + 1 := by simp
          refine ⟨i + 1, some ⟨g8, 0, none⟩, cap8, fs ++ [⟨(⟨#[107]⟩ : ByteArray) ++ V, 0, 0, 0⟩], by rw [hle], by go_num, by omega, by rw [hle]; omega, keys_snoc HK.out hKz, ?_⟩
          show SS _ _ _ _ _ _ _ _ _
          rw [hle]
          exact S8.out
        case measure => simp [intOf]; omega
      · have hlt' : decide ((i : Int) < 200 + (y : Int)) = false := by simp; omega
        go_wp2_with fail
        go_ret
        exact ⟨_, _, fs, rfl, S6.out, by omega, HK.out⟩
  · have hy5 : ((s : Int) == 5) = false := by rw [beq_eq_false_iff_ne]; omega
    clear h0 h1 h2 h3 h4 h5
    go_wp2_with fail
    go_ret
    exact ⟨_, _, L, rfl, S5.out, by omega, hBS.out.2⟩
end Go.Proofs.YtijmlgdeeodehabDoor

/- The draws of FnHints. -/
namespace Go.Proofs.YtijmlgdeeodehabDoor
open Go.RowKit

theorem hintD_size (fs : List SpotD) : (hintD fs).size ≤ 8009 := by
  unfold hintD
  split
  · rename_i h
    have := hintL_le h
    rw [sealB_size, size_of_list]
    omega
  · exact Nat.zero_le _
theorem sealed_some (s : ByteArray) (w : World) : Calls Tryd.prog 36 #[.string s] w fun e w' => ∃ (S : ByteArray) (ok : Bool), e = .returned (.tuple #[.string S, .bool ok]) ∧ S.size ≤ 20004 ∧ Below w.heap.size w w' := by
  by_cases h : s.size ≤ 20000
  · refine (specSealed_any s w h).mono ?_
    rintro e w' ⟨rfl, b⟩
    exact ⟨_, _, rfl, by rw [sealB_size]; omega, b⟩
  · refine (specSealed_no s w (by omega)).mono ?_
    rintro e w' ⟨rfl, b⟩
    first
      | exact ⟨_, _, rfl, Nat.zero_le _, b⟩
      | (subst b; exact ⟨_, _, rfl, Nat.zero_le _, Below.refl _ _⟩)

set_option maxRecDepth 100000 in
set_option maxHeartbeats 3200000 in
theorem drawHintText_any (w : World) (ao : Option Addr) (len cap : Nat) (hlen : len ≤ 1048576) (hcode : Code w ao len) :
    Calls Tryd.prog 12 #[.slice ao len cap] w fun e w' => ∃ (a : Option Addr) (c : Nat) (fs : List SpotD), e = .returned (.slice a fs.length c) ∧ SpotsAt w' a fs ∧ fs.length ≤ 1048576 ∧ (∀ A ∈ fs, A.key.size ≤ 100) ∧ Below w.heap.size w w' := by
  have HC := hide hcode
  clear hcode
  go_enter Tryd.func12, Tryd.ntmps12
  go_wp2_with fail
  refine (new_any _ ao len cap hlen HC.out).mono ?_
  rintro e w1 ⟨g, rfl, hc1⟩
  have U1 := hide hc1
  clear hc1
  go_wp2_with fail
  refine (l07Dir_any w _ g ao len cap hlen HC.out U1.out).mono ?_
  rintro e w2 ⟨a, c, fs, rfl, s2, hl, hk⟩
  have S2 := hide s2
  have HK := hide hk
  clear s2 hk
  go_wp2
  go_ret
  exact ⟨a, c, fs, rfl, rowSpot_rows (rowSpot_own S2.out.2.2), hl, HK.out, S2.out.1.1⟩

set_option maxRecDepth 100000 in
set_option maxHeartbeats 3200000 in
theorem drawReadHint_any (w : World) (ao : Option Addr) (len cap : Nat) (hlen : len ≤ 1048576) (hcode : Code w ao len) :
    Calls Tryd.prog 16 #[.slice ao len cap] w fun e w' => ∃ T : ByteArray, e = .returned (.string T) ∧ T.size ≤ 30000 ∧ Below w.heap.size w w' := by
  have HC := hide hcode
  clear hcode
  go_enter Tryd.func16, Tryd.ntmps16
  go_wp2_with fail
  refine (new_any _ ao len cap hlen HC.out).mono ?_
  rintro e w1 ⟨g, rfl, hc1⟩
  have U1 := hide hc1
  clear hc1
  go_wp2_with fail
  refine (l07Dir_any w _ g ao len cap hlen HC.out U1.out).mono ?_
  rintro e w2 ⟨a, c, fs, rfl, s2, hl, hk⟩
  have U2 := hide s2.1
  have CT := hide (specHintText_any fs a c w2 hl (rowSpot_rows (rowSpot_own s2.2.2)) (fun A hA => by have := hk A hA; omega))
  clear s2 hk
  have hz := hintD_size fs
  generalize hintD fs = X at CT hz
  generalize dirOkD fs = ok at CT
  go_wp2_with fail
  refine CT.out.mono ?_
  rintro e w3 ⟨rfl, b3⟩
  have U3 := hide (cur_keep U2.out b3 (cur_lt U2.out))
  clear b3 CT U2
  go_wp2_with fail
  refine (once_any w _ g ao len cap _ hlen (by omega) HC.out U3.out).mono ?_
  rintro e w4 ⟨b, rfl, hc4, g4⟩
  have U4 := hide hc4
  clear hc4 g4 U3
  cases b
  · go_wp2_with fail
    refine (spoilt_any w _ g ao len cap X hlen (by omega) HC.out U4.out).mono ?_
    rintro e w5 ⟨T, rfl, hT, hc5, g5⟩
    have B5 := hide hc5.1
    clear hc5 g5
    go_wp2
    go_ret
    exact ⟨T, rfl, hT, B5.out⟩
  · have CU := hide (specUnsealed_all X w4 (by omega))
    have huz : (unsD X).size ≤ 9000 := by
      unfold unsD
      split
      · rw [foreB_size]; omega
      · exact Nat.zero_le _
    generalize unsD X = Y at CU huz
    generalize unsOk X = uk at CU
    go_wp2_with fail
    refine CU.out.mono ?_
    rintro e w5 ⟨rfl, b5⟩
    have U5 := hide (cur_keep U4.out b5 (cur_lt U4.out))
    clear b5 U4 CU
    cases uk
    · have B5 := hide U5.out.1
      go_wp2_with fail
      go_ret
      exact ⟨X, rfl, by omega, B5.out⟩
    · go_wp2_with fail
      refine (spoilt_any w _ g ao len cap Y hlen huz HC.out U5.out).mono ?_
      rintro e w6 ⟨T, rfl, hT, hc6, g6⟩
      have U6 := hide hc6
      clear hc6 g6 U5
      go_wp2_with fail
      refine (sealed_some T _).mono ?_
      rintro e w7 ⟨S, okS, rfl, hS, b7⟩
      have B7 := hide (cur_keep U6.out b7 (cur_lt U6.out)).1
      clear b7
      go_wp2
      go_ret
      exact ⟨S, rfl, by omega, B7.out⟩
end Go.Proofs.YtijmlgdeeodehabDoor
