/- The law FnSegments: the batches of a drawn segment are read as they were put; torn bytes behind them, and any cut of them, change nothing ahead. -/
import Derived.Test.YtijmlgdeeodehabDoorDrawSeg
import Derived.Test.YtijmlgdeeodehabDoorSegI2
import Derived.Test.YtijmlgdeeodehabDoorDrawPl
import Derived.Test.YtijmlgdeeodehabDoorSameCh
import Derived.Test.YtijmlgdeeodehabDoorLawReadSeg
import Derived.Deep.LoopGhost
namespace Go.Proofs.YtijmlgdeeodehabDoor
open Go.RowKit

/-- What is left by the program's reader, where what is read is known. -/
theorem read_some {n : Int} {s : ByteArray} {f e : Nat} {bs : List BatchD} (h : segRead n s = some (f, bs, e)) (hs : s.size ≤ 1048576) (w : World) (hT : SumTab w) : Calls Tryd.prog 7 #[.int .i64 n, .string s] w fun e' w' => (∃ a c, e' = .returned (.tuple #[.int .i64 (f : Int), .slice a bs.length c, .int .i64 (e : Int), .bool true]) ∧ BatchesAt w' a bs) ∧ Below w.heap.size w w' := by
  refine (implReadSegment_any n s w hs hT).mono ?_
  rintro e' w' ⟨⟨v, rfl, r⟩, b⟩
  obtain ⟨h1, h2, h3, h4⟩ := seg_some h
  rw [h2] at r
  obtain ⟨a, c, rfl, hat⟩ := rowBatch_at r
  exact ⟨⟨a, c, by rw [h1, h3, h4], hat⟩, b⟩
theorem read_none {n : Int} {s : ByteArray} (h : segRead n s = none) (hs : s.size ≤ 1048576) (w : World) (hT : SumTab w) : Calls Tryd.prog 7 #[.int .i64 n, .string s] w fun e' w' => (∃ a c, e' = .returned (.tuple #[.int .i64 0, .slice a 0 c, .int .i64 0, .bool false])) ∧ Below w.heap.size w w' := by
  refine (implReadSegment_any n s w hs hT).mono ?_
  rintro e' w' ⟨⟨v, rfl, r⟩, b⟩
  obtain ⟨h1, h2, h3, h4⟩ := seg_none h
  rw [h2] at r
  obtain ⟨a, c, rfl, hat⟩ := rowBatch_at r
  exact ⟨⟨a, c, by rw [h1, h3, h4]; rfl⟩, b⟩
theorem cut_to' (s : ByteArray) (b : Nat) (bi : Int) (R : ByteArray) (hb : bi = b) (h2 : b ≤ s.size) (hR : s.extract 0 b = R) :
    ∀ W : World, (Instr.slice 9 (.string s) none (some (.int .i64 bi)) none).run Tryd.prog W = .ok (.string R) W := by
  intro W
  subst hb hR
  rw [run_slice_string_to_if W 9 s .i64 (b : Int) Tryd.underlying9, if_pos (by omega), Int.toNat_natCast]
/-- All that the law asks of the plain segment. -/
theorem seg_facts (n f : Nat) (ts : List (List UInt8)) (hn : n ≤ 8) (hf : f ≤ n) (hri : risingT (-1) ts) (hsz : ∀ t ∈ ts, 1 ≤ t.length ∧ t.length ≤ 300) (hl : ts.length ≤ 3) : ∃ S : ByteArray, S = file (framesL (headL n f :: ts)) ∧ S.size ≤ 2000 ∧ segRead (n : Int) S = some (f, bsT ts, S.size) ∧ segRead (n : Int) (S ++ ⟨#[116, 111, 114, 110]⟩) = some (f, bsT ts, S.size) ∧
    (headT (n : Int) (f : Int)).size ≤ S.size ∧ (∀ k, (headT (n : Int) (f : Int)).size ≤ k → k ≤ S.size → ∃ m e, segRead (n : Int) (S.extract 0 k) = some (f, (bsT ts).take m, e) ∧ e ≤ k) ∧ segRead ((n : Int) + 1) S = none ∧ (bsT ts).length ≤ 3 ∧ ∀ b ∈ bsT ts, b.chs.length ≤ 40 := by
  have hH := headL_len n f
  have hz : (framesL (headL n f :: ts)).length ≤ 1400 := by
    have h1 := framesL_len (headL n f :: ts) (fun t ht => by
      rcases List.mem_cons.1 ht with rfl | ht
      · omega
      · exact hsz t ht)
    rw [List.length_cons] at h1
    omega
  have hl9 : ∀ t ∈ ts, 1 ≤ t.length ∧ t.length ≤ 9000 := fun t ht => by have := hsz t ht; omega
  have hT : headT (n : Int) (f : Int) = file (frameL (headL n f)) := by
    rw [headT_file n f (by omega) hf]
    simp [framesL]
  have hTs : (headT (n : Int) (f : Int)).size = (frameL (headL n f)).length := by rw [hT]; rfl
  refine ⟨_, rfl, by rw [file_size]; omega, ?_, ?_, ?_, ?_, seg_other n f (by omega) ts hl9 (by omega), by simp [bsT]; omega, fun b hb => ?_⟩
  rotate_right
  · unfold bsT at hb
    obtain ⟨t, -, rfl⟩ := List.mem_map.1 hb
    exact rdChanges_le _
  · have := seg_whole n f (by omega) hf ts hri hl9 [] (by rw [List.append_nil]; omega) (end_none _)
    rw [List.append_nil] at this
    exact this
  · have := seg_whole n f (by omega) hf ts hri hl9 [116, 111, 114, 110] (by rw [List.length_append]; simp only [List.length_cons, List.length_nil]; omega) (torn_none _)
    rw [show file (framesL (headL n f :: ts)) ++ (⟨#[116, 111, 114, 110]⟩ : ByteArray) = file (framesL (headL n f :: ts) ++ [116, 111, 114, 110]) from cat_list _ _]
    exact this
  · rw [hTs, file_size]
    simp [framesL]
  · intro k hk hk2
    rw [hTs] at hk
    rw [file_extract, List.drop_zero, Nat.sub_zero]
    exact seg_cut n f (by omega) hf ts hri hl9 k hk (by rw [file_size] at hk2; exact hk2) (by omega)

set_option maxRecDepth 100000 in
set_option maxHeartbeats 8000000 in
theorem segments_walk (w : World) (ao : Option Addr) (len cap : Nat) (hcode : len ≤ 1048576 → Code w ao len) (hT : SumTab w) :
    Calls Tryd.prog 3 #[.slice ao len cap] w fun e w' => e = .returned (.bool true) ∧ Below w.heap.size w w' := by
  have HT := hide hT
  clear hT
  by_cases hlen : len ≤ 1048576
  case neg =>
    have hbig : decide (1048576 < (len : Int)) = true := by simp; omega
    go_enter Tryd.func3, Tryd.ntmps3
    go_wp2_with fail
    refine (big_any _ ao len cap).mono ?_
    rintro e w0 ⟨rfl, rfl⟩
    go_wp2
    go_ret
    exact ⟨rfl, Below.refl _ _⟩
  have hbig : decide (1048576 < (len : Int)) = false := by simp; omega
  have HC := hide (hcode hlen)
  clear hcode
  go_enter Tryd.func3, Tryd.ntmps3
  go_wp2_with fail
  refine (big_any _ ao len cap).mono ?_
  rintro e w0 ⟨rfl, hw0⟩
  obtain rfl := hw0.symm
  go_wp2_with fail
  refine (drawRightSegment_any _ ao len cap hlen HC.out).mono ?_
  rintro e w1 ⟨n, f, ts, rfl, hn, hf, hri, hsz, hl, b1⟩
  obtain ⟨S, hS, hSz, k1, k2, hhz, k3, k4, hbl, hbc⟩ := seg_facts n f ts hn hf hri hsz hl
  rw [← hS]
  have B1 := hide b1
  clear b1 hS hri hsz hl
  have C1 := hide (fun W hW => read_some k1 (by omega) W hW)
  have C2 := hide (fun W hW => read_some k2 (by rw [ByteArray.size_append]; have e4 : (⟨#[116, 111, 114, 110]⟩ : ByteArray).size = 4 := rfl; omega) W hW)
  have K3 := hide k3
  have C4 := hide (fun W hW => read_none k4 (by omega) W hW)
  have T1 := hide (sumTab_later B1.out HT.out)
  clear k1 k2 k3 k4
  generalize bsT ts = bs at C1 C2 K3 hbl hbc
  have HBC := hide hbc
  clear hbc
  obtain ⟨Z, HZ⟩ : ∃ Z : Nat, Hid (S.size = Z) := ⟨_, rfl⟩
  have h4 : (⟨#[116, 111, 114, 110]⟩ : ByteArray).size = 4 := rfl
  go_wp2_with fail
  refine (C1.out _ T1.out).mono ?_
  rintro e w2 ⟨⟨a2, c2, rfl, r2⟩, b2⟩
  have R2 := hide r2
  have B2 := hide (B1.out.trans (b2.mono B1.out.size))
  have T2 := hide (sumTab_later B2.out HT.out)
  clear r2 b2
  go_wp2_with fail
  refine (C2.out _ T2.out).mono ?_
  rintro e w3 ⟨⟨a3, c3, rfl, r3⟩, b3⟩
  have R23 := hide (batchesAt_keep R2.out b3)
  have B3 := hide (B2.out.trans (b3.mono B2.out.size))
  have T3 := hide (sumTab_later B3.out HT.out)
  clear r3 b3 R2
  have hq1 : (!((S.size : Int) == (S.size : Int))) = false := by simp
  have hq2 : (!((f : Int) == (f : Int))) = false := by simp
  have hq3 : (!((bs.length : Int) == (bs.length : Int))) = false := by simp
  go_wp2_with fail
  refine (implHeadText_any (n : Int) (f : Int) _ T3.out).mono ?_
  rintro e w4 ⟨rfl, b4⟩
  have hdt : decide (0 ≤ (n : Int) ∧ (n : Int) ≤ 99 ∧ 0 ≤ (f : Int) ∧ (f : Int) ≤ (n : Int)) = true := by simp; omega
  rw [hdt]
  clear hdt
  have R24 := hide (batchesAt_keep R23.out b4)
  have B4 := hide (B3.out.trans (b4.mono B3.out.size))
  have T4 := hide (sumTab_later B4.out HT.out)
  have HC4 := hide (code_keep HC.out B4.out)
  clear b4 R23
  generalize headT (n : Int) (f : Int) = HD at hhz K3
  go_wp2_with fail
  refine (drawPlaces_any _ ao len cap hlen HC4.out).mono ?_
  rintro e w5 ⟨v5, zs, rfl, hzl, hzb, o5, b5⟩
  obtain ⟨gz, cz, hv5⟩ : ∃ gz cz, v5 = .slice (some ⟨gz, 0, none⟩) 12 cz := by
    rcases o5.2 with ⟨-, h⟩ | ⟨g', cap', cur, h, _⟩
    · omega
    · exact ⟨g', cap', h⟩
  subst hv5
  obtain ⟨z, hz0⟩ : ∃ z, zs[0]? = some z := ⟨zs[0]'(by omega), List.getElem?_eq_getElem (by omega)⟩
  have hcz : w5.cell? ⟨gz, 0, none⟩ = some (.int .i64 (z : Int)) := by
    rw [o5.cellAt 0 (by omega), List.getElem?_map, hz0]; rfl
  have R25 := hide (batchesAt_keep R24.out b5)
  have B5 := hide (B4.out.trans (b5.mono B4.out.size))
  have T5 := hide (sumTab_later B5.out HT.out)
  clear b5 o5 hz0 hzb hzl R24
  obtain ⟨D, HDD⟩ : ∃ D : Nat, Hid (S.size = HD.size + D) := ⟨S.size - HD.size, by show _ = _; omega⟩
  have hsub : (S.size : Int) - (HD.size : Int) = (D : Int) := by have := HDD.out; omega
  have hdz : (((D : Int) + 1) == 0) = false := by rw [beq_eq_false_iff_ne]; omega
  have hrem : (z : Int) % ((D : Int) + 1) = ((z % (D + 1) : Nat) : Int) := by simp
  have hrm2 : (z : Int).tmod ((D : Int) + 1) = ((z % (D + 1) : Nat) : Int) := by rw [Int.tmod_eq_emod_of_nonneg (by omega)]; simp
  obtain ⟨y, HY⟩ : ∃ y : Nat, Hid (z % (D + 1) = y) := ⟨_, rfl⟩
  have hyD : y ≤ D := by rw [← HY.out]; have := Nat.mod_lt z (show 0 < D + 1 by omega); omega
  rw [HY.out] at hrem hrm2
  obtain ⟨m, e6, k6, he6⟩ := K3.out (HD.size + y) (by omega) (by have := HDD.out; omega)
  have C6 := hide (fun W hW => read_some k6 (by rw [ByteArray.size_extract]; omega) W hW)
  have hLm : (bs.take m).length ≤ bs.length := by rw [List.length_take]; omega
  have HLS : Hid (∀ j (h : j < (bs.take m).length), ∃ h2 : j < bs.length, (bs.take m)[j] = bs[j]) := fun j h => ⟨by omega, by simp⟩
  generalize bs.take m = ls at C6 hLm HLS
  clear k6
  go_wp2_with fail
  refine (C6.out _ T5.out).mono ?_
  rintro e w6 ⟨⟨a6, c6, rfl, r6⟩, b6⟩
  have R6 := hide r6
  have R26 := hide (batchesAt_keep R25.out b6)
  have B6 := hide (B5.out.trans (b6.mono B5.out.size))
  clear r6 b6 R25 hcz hrem hrm2 hdz hsub
  have hat : decide ((HD.size : Int) + (y : Int) < (e6 : Int)) = false := by simp; omega
  have hls : decide ((bs.length : Int) < (ls.length : Int)) = false := by simp; omega
  have hlsn : decide (bs.length < ls.length) = false := by simp; omega
  obtain ⟨NM, HNM⟩ : ∃ NM, Hid (segNm (n : Int) = NM) := ⟨_, rfl⟩
  have hnm : (NM.toList == ([] : List UInt8)) = false := by
    rw [← HNM.out, segNm_in n (by omega), ByteArray.toList_eq]
    simp
  have HN : Hid (∀ W : World, Calls Tryd.prog 10 #[.int .i64 (n : Int)] W fun e w' => e = .returned (.string NM) ∧ w' = W) := fun W => by rw [← HNM.out]; exact implSegName_any (n : Int) W
  go_wp2_with fail
  refine (HN.out _).mono ?_
  rintro e w7 ⟨rfl, hw7⟩
  obtain rfl := hw7.symm
  go_wp2_with fail
  go_loopg [20] ls.length (fun gg vi wr => ∃ (i : Nat), i + gg = ls.length ∧ vi = .int .i64 i ∧ i ≤ ls.length ∧ Hid (Below w6.heap.size w6 wr))
  case atStart => exact ⟨0, by omega, rfl, Nat.zero_le _, Below.refl _ _⟩
  case round =>
    obtain ⟨i, hig, rfl, hi, HB⟩ := hrel
    cases gk with
    | succ g0 =>
      have hlt : i < ls.length := by omega
      have hlt' : decide ((i : Int) < (ls.length : Int)) = true := by simp; omega
      obtain ⟨hlt2, heq⟩ := HLS.out i hlt
      obtain ⟨g1, o1, hg1, hw1, hc0, x1, y1, hc1, hx1⟩ := batchesAt_keep R6.out HB.out i hlt
      obtain ⟨g2, o2, hg2, hw2, hd0, x2, y2, hd1, hx2⟩ := batchesAt_keep R26.out HB.out i hlt2
      rw [heq] at hc0 hc1 hx1
      have hFm := List.getElem_mem hlt2
      generalize bs[i] = F at hc0 hc1 hx1 hd0 hd1 hx2 hFm
      have HFm := hFm
      clear hFm heq
      subst hg1 hg2
      have hii0 : (0 : Int) ≤ (i : Int) := by omega
      have hii1 : (i : Int) < (ls.length : Int) := by omega
      have hii2 : (i : Int) < (bs.length : Int) := by omega
      have hcl := HBC.out F HFm
      have hqq : (!(F.seq == F.seq)) = false := by simp
      have HSC : Hid (∀ W, Below wr.heap.size wr W → Calls Tryd.prog 11 #[.slice x1 F.chs.length y1, .slice x2 F.chs.length y2] W fun e w' => e = .returned (.bool true) ∧ Below W.heap.size W w') := fun W hW => sameChanges_same F.chs x1 x2 y1 y2 W (by omega) (changesAt_keep hx1 hW) (changesAt_keep hx2 hW)
      have HW1 := hide hw1
      have HW2 := hide hw2
      clear hx1 hx2 hw1 hw2
      go_wp2_with fail
      go_region_held3 (fun w' => w'.cell? ⟨g1, o1 + i * 2, none⟩ = some (.int .i64 F.seq) ∧ w'.cell? ⟨g1, o1 + i * 2 + 1, none⟩ = some (.slice x1 F.chs.length y1) ∧ w'.cell? ⟨g2, o2 + i * 2, none⟩ = some (.int .i64 F.seq) ∧ w'.cell? ⟨g2, o2 + i * 2 + 1, none⟩ = some (.slice x2 F.chs.length y2)) (first | go_keep | (exact ⟨(b8.cell (p := ⟨g1, o1 + i * 2, none⟩) HW1.out).trans hc0, (b8.cell (p := ⟨g1, o1 + i * 2 + 1, none⟩) HW1.out).trans hc1, (b8.cell (p := ⟨g2, o2 + i * 2, none⟩) HW2.out).trans hd0, (b8.cell (p := ⟨g2, o2 + i * 2 + 1, none⟩) HW2.out).trans hd1⟩)) ((go_at_call 11; refine (HSC.out _ (by first | exact Below.refl _ _ | exact (Below.refl _ _).drew)).mono ?_; rintro e w8 ⟨rfl, b8⟩))
      go_wp2
      go_roundg g0
      case measure => omega
      case rel => exact ⟨i + 1, by omega, by go_num, by omega, HB.out.trans (((Below.refl _ _).drew.trans b8).mono HB.out.size)⟩
    | zero =>
      have hlt' : decide ((i : Int) < (ls.length : Int)) = false := by simp; omega
      have hltn : decide (i < ls.length) = false := by simp; omega
      have B8 := hide (B6.out.trans (HB.out.mono B6.out.size))
      go_wp2_with fail
      refine (C4.out _ (sumTab_later B8.out HT.out)).mono ?_
      rintro e w9 ⟨⟨a9, c9, rfl⟩, b9⟩
      go_wp2
      go_ret
      exact ⟨rfl, B8.out.trans (b9.mono B8.out.size)⟩
end Go.Proofs.YtijmlgdeeodehabDoor
