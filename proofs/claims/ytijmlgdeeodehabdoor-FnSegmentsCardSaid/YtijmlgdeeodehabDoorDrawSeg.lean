/- A drawn right segment. -/
import Derived.Test.YtijmlgdeeodehabDoorSegT
import Derived.Test.YtijmlgdeeodehabDoorSegS0
import Derived.Test.YtijmlgdeeodehabDoorDrawL
namespace Go.Proofs.YtijmlgdeeodehabDoor
open Go.RowKit

theorem changesL_small : ∀ (a : List ChangeD), (∀ A ∈ a, A.key.size ≤ 12 ∧ A.value.size ≤ 12) → (changesL a).length ≤ a.length * 35
  | [], _ => by simp [changesL]
  | A :: r, h => by
    have h1 := h A (List.mem_cons_self ..)
    have h2 := changesL_small r (fun B hB => h B (List.mem_cons_of_mem _ hB))
    have h3 := changeB_size A
    have e : (changeB A).data.toList.length = (changeB A).size := rfl
    simp only [changesL, List.length_append, List.length_cons]
    omega
/-- The text of a right drawn batch. -/
theorem text_few {q : Int} {fs : List ChangeD} (h : textOkD q fs = true) (hl : fs.length ≤ 6) (hs : ∀ A ∈ fs, A.key.size ≤ 12 ∧ A.value.size ≤ 12) : ∃ t : List UInt8, textD q fs = file t ∧ 1 ≤ t.length ∧ t.length ≤ 300 ∧ rdOk (file t) = true ∧ rdSeq (file t) = q := by
  obtain ⟨h1, h2, -⟩ := rd_back h
  have e : textD q fs = file (batchL q.toNat fs) := by unfold textD; rw [if_pos h]
  rw [e] at h1 h2
  refine ⟨_, e, ?_, ?_, h1, h2⟩
  · unfold batchL headB
    rw [ByteArray.data_append, ByteArray.data_append, Array.toList_append, Array.toList_append]
    simp only [List.length_append]
    show 1 ≤ 1 + _ + _ + _
    omega
  · have h3 := changesL_small fs hs
    have h4 := headB_size q.toNat fs.length
    have e2 : (headB q.toNat fs.length).data.toList.length = (headB q.toNat fs.length).size := rfl
    unfold batchL
    rw [List.length_append]
    omega
theorem textD_no {q : Int} {fs : List ChangeD} (h : textOkD q fs = false) : textD q fs = ⟨#[]⟩ := by unfold textD; rw [h]; rfl
theorem framesL_len (ts : List (List UInt8)) (h : ∀ t ∈ ts, 1 ≤ t.length ∧ t.length ≤ 300) : (framesL ts).length ≤ ts.length * 309 := by
  induction ts with
  | nil => simp [framesL]
  | cons t r ih =>
    have h1 := h t (List.mem_cons_self ..)
    have h2 := ih (fun u hu => h u (List.mem_cons_of_mem _ hu))
    have h3 := frameL_len t
    have h4 := Wd.varF_len 5 t.length
    simp only [framesL, List.length_append, List.length_cons]
    omega
theorem headT_file (n f : Nat) (hn : n ≤ 99) (hf : f ≤ n) : headT n f = file (framesL [headL n f]) := by
  rw [headT_in n f hn hf]
  show frameB (file (headL n f)) = _
  rw [frameL_of]
  simp [framesL]
theorem file_put (ts : List (List UInt8)) (t : List UInt8) : file (framesL ts) ++ frameB (file t) = file (framesL (ts ++ [t])) := by
  rw [frameL_of, framesL_snoc]
  exact cat_list _ _

set_option maxRecDepth 100000 in
set_option maxHeartbeats 3200000 in
theorem l06File_any (w0 w : World) (g : Nat) (ao : Option Addr) (len cap n : Nat) (hn : n ≤ 8) (hlen : len ≤ 1048576) (hcode : Code w0 ao len) (hc : CurAt w0 w g ao len cap) :
    Calls Tryd.prog 20 #[.pointer (some ⟨g, 0, none⟩), .int .i64 (n : Int), .int .i64 1] w fun e w' => ∃ (f : Nat) (ts : List (List UInt8)) (q : Int), e = .returned (.tuple #[.string (file (framesL (headL n f :: ts))), .int .i64 q]) ∧ f ≤ n ∧ risingT (-1) ts ∧ (∀ t ∈ ts, 1 ≤ t.length ∧ t.length ≤ 300) ∧ ts.length ≤ 3 ∧ CurAt w0 w' g ao len cap ∧ w.grownBy w' (some g) := by
  have HC := hide hcode
  have HCU := hide hc
  clear hcode hc
  go_enter Tryd.func20, Tryd.ntmps20
  go_wp2_with fail
  refine (below_any w0 _ g ao len cap ((n : Int) + 1) hlen (by omega) HC.out HCU.out).mono ?_
  rintro e w1 ⟨x, rfl, hx1, -, c1, g1⟩
  have hxn : x ≤ n := by have := hx1 (by omega); omega
  clear hx1
  go_wp2_with fail
  refine (once_any w0 _ g ao len cap 4 hlen (by omega) HC.out c1).mono ?_
  rintro e w2 ⟨b, rfl, c2, g2⟩
  have C2 := hide c2
  have G2 := hide (grownBy_trans g1 g2)
  clear c1 g1 c2 g2 HCU
  cases b with
  | false =>
    go_wp2_with fail
    refine (specHeadText_any (n : Int) (0 : Int) _).mono ?_
    rintro e w3 ⟨rfl, b3⟩
    have hcur := cur_lt C2.out
    have C3 := hide (cur_keep C2.out b3 hcur)
    have G3 := hide (grownBy_trans G2.out (grownBy_below _ b3))
    clear b3 hcur C2 G2
    have hS0 : headT (n : Int) 0 = file (framesL [headL n 0]) := headT_file n 0 (by omega) (by omega)
    have hd : decide (0 ≤ (n : Int) ∧ (n : Int) ≤ 99 ∧ 0 ≤ (0 : Int) ∧ (0 : Int) ≤ (n : Int)) = true := by simp; omega
    rw [hd]
    obtain ⟨S0, HS0⟩ : ∃ S0, Hid (headT (n : Int) (0 : Int) = S0) := ⟨_, rfl⟩
    rw [HS0.out]
    have H0 : Hid (S0 = file (framesL (headL n 0 :: []))) := by show _ = _; rw [← HS0.out]; exact hS0
    have hz0 : S0.size ≤ 50 := by
      rw [H0.out, file_size]
      have h1 := headL_len n 0
      have h2 := frameL_len (headL n 0)
      have h3 := Wd.varF_len 5 (headL n 0).length
      simp only [framesL, List.length_append, List.length_nil]
      omega
    clear hd hS0
    go_wp2_with fail
    go_loopw [2, 9, 11] (fun vq vs vi wr => ∃ (i : Nat) (q : Int) (ts : List (List UInt8)) (S : ByteArray), vq = .int .i64 q ∧ vs = .string S ∧ vi = .int .i64 i ∧ i ≤ 3 ∧ ts.length ≤ i ∧ 1 ≤ q ∧ q ≤ 1 + 2 * i ∧ S.size ≤ 50 + 400 * i ∧ Hid (S = file (framesL (headL n 0 :: ts))) ∧ Hid (risingT (-1) ts) ∧ Hid (∀ u ∈ ts, rdSeq (file u) < q) ∧ Hid (∀ t ∈ ts, 1 ≤ t.length ∧ t.length ≤ 300) ∧ Hid (CurAt w0 wr g ao len cap) ∧ Hid (w.grownBy wr (some g))) (fun _ _ vi _ => 4 - (intOf vi).toNat)
    case atStart => exact ⟨0, 1, [], S0, rfl, rfl, rfl, Nat.zero_le _, Nat.zero_le _, by omega, by omega, by omega, H0, trivial, fun u hu => absurd hu List.not_mem_nil, fun u hu => absurd hu List.not_mem_nil, C3, G3⟩
    case round =>
      clear HS0 H0 hz0 C3 G3
      obtain ⟨i, q, ts, S, rfl, rfl, rfl, hi, htl, hq1, hq2, hSz, HS, HRI, HLT, HSZ, CU, GR⟩ := hrel
      go_wp2_with fail
      refine (below_any w0 _ g ao len cap 4 hlen (by omega) HC.out CU.out).mono ?_
      rintro e w4 ⟨y, rfl, hy, -, c4, g4⟩
      have hy4 : y < 4 := by have := hy (by omega); omega
      have C4 := hide c4
      have G4 := hide (grownBy_trans GR.out g4)
      clear hy c4 g4
      by_cases hiy : i < y
      · have hiy' : decide ((i : Int) < (y : Int)) = true := by simp; omega
        go_wp2_with fail
        refine (list_any w0 _ g ao len cap hlen HC.out C4.out).mono ?_
        rintro e w5 ⟨a5, k5, fs, rfl, o5, hf1, hf6, hfs, c5, g5⟩
        have C5 := hide c5
        have G5 := hide (grownBy_trans G4.out g5)
        have A5 := hide (rowChange_rows (rowChange_own o5))
        have HFS := hide hfs
        clear c5 g5 o5 hfs
        go_wp2_with fail
        refine (specBatchText_any q fs a5 k5 _ (by omega) A5.out (fun A hA => by have := HFS.out A hA; omega)).mono ?_
        rintro e w6 ⟨rfl, b6⟩
        have hcur := cur_lt C5.out
        have C6 := hide (cur_keep C5.out b6 hcur)
        have G6 := hide (grownBy_trans G5.out (grownBy_below _ b6))
        clear b6 hcur
        cases hok : textOkD q fs with
        | true =>
          obtain ⟨t, ht, ht1, ht2, ht3, ht4⟩ := text_few hok hf6 HFS.out
          rw [ht]
          have HPUT := hide (file_put (headL n 0 :: ts) t)
          obtain ⟨T, hT⟩ : ∃ T, file t = T := ⟨_, rfl⟩
          have hTz : T.size = t.length := by rw [← hT]; rfl
          rw [hT] at HPUT
          rw [hT]
          have hFz2 : (frameB T).size ≤ 309 := by have h1 := frameB_size T; have h2 := Wd.varF_len 5 T.size; omega
          have H3 := hide ht3
          have H4 := hide ht4
          clear ht hok hT ht3 ht4
          go_wp2_with fail
          refine (specFrame_yes T _ (by omega) (by omega)).mono ?_
          rintro e w7 ⟨rfl, b7⟩
          have hcur := cur_lt C6.out
          have C7 := hide (cur_keep C6.out b7 hcur)
          have G7 := hide (grownBy_trans G6.out (grownBy_below _ b7))
          clear b7 hcur hTz
          obtain ⟨FT, hFT⟩ : ∃ FT, frameB T = FT := ⟨_, rfl⟩
          rw [hFT] at HPUT hFz2 ⊢
          clear hFT
          go_wp2_with fail
          refine (below_any w0 _ g ao len cap 2 hlen (by omega) HC.out C7.out).mono ?_
          rintro e w8 ⟨y2, rfl, hy2, -, c8, g8⟩
          have hy3 : y2 < 2 := by have := hy2 (by omega); omega
          have C8 := hide c8
          have G8 := hide (grownBy_trans G7.out g8)
          clear hy2 c8 g8
          go_wp2_with fail
          go_roundw
          case rel =>
            refine ⟨i + 1, q + 1 + (y2 : Int), ts ++ [t], S ++ FT, rfl, rfl, by go_num, by omega, by simp; omega, by omega, by omega, ?_, ?_, ?_, ?_, ?_, C8, G8⟩
            · rw [ByteArray.size_append]; omega
            · show _ = _
              rw [HS.out, HPUT.out]
              rfl
            · exact risingT_snoc ts (-1) t HRI.out H3.out (fun u hu => by rw [H4.out]; exact HLT.out u hu) (by rw [H4.out]; omega)
            · intro u hu
              rcases List.mem_append.1 hu with h | h
              · have := HLT.out u h; omega
              · obtain rfl : u = t := by simpa using h
                rw [H4.out]; omega
            · intro u hu
              rcases List.mem_append.1 hu with h | h
              · exact HSZ.out u h
              · obtain rfl : u = t := by simpa using h
                exact ⟨ht1, ht2⟩
          case measure => simp [intOf]; omega
        | false =>
          rw [textD_no hok]
          clear hok
          go_wp2_with fail
          refine (specFrame_no ⟨#[]⟩ _ (.inl (by decide))).mono ?_
          rintro e w7 ⟨rfl, rfl⟩
          have hSS : S ++ (⟨#[]⟩ : ByteArray) = S := by apply ByteArray.ext; simp
          go_wp2_with fail
          refine (below_any w0 _ g ao len cap 2 hlen (by omega) HC.out C6.out).mono ?_
          rintro e w8 ⟨y2, rfl, hy2, -, c8, g8⟩
          have hy3 : y2 < 2 := by have := hy2 (by omega); omega
          have C8 := hide c8
          have G8 := hide (grownBy_trans G6.out g8)
          clear hy2 c8 g8
          go_wp2_with fail
          go_roundw
          case rel =>
            refine ⟨i + 1, q + 1 + (y2 : Int), ts, S, rfl, by first | rfl | (rw [hSS]), by go_num, by omega, by omega, by omega, by omega, by omega, HS, HRI, ?_, HSZ, C8, G8⟩
            intro u hu
            have := HLT.out u hu
            omega
          case measure => simp [intOf]; omega
      · have hiy' : decide ((i : Int) < (y : Int)) = false := by simp; omega
        have hiyn : decide (i < y) = false := by simp; omega
        go_wp2
        go_ret2
        exact ⟨0, ts, q, by rw [← HS.out]; rfl, by omega, HRI.out, HSZ.out, by omega, C4.out, G4.out⟩
  | true =>
    go_wp2_with fail
    refine (specHeadText_any (n : Int) (x : Int) _).mono ?_
    rintro e w3 ⟨rfl, b3⟩
    have hcur := cur_lt C2.out
    have C3 := hide (cur_keep C2.out b3 hcur)
    have G3 := hide (grownBy_trans G2.out (grownBy_below _ b3))
    clear b3 hcur C2 G2
    have hS0 := headT_file n x (by omega) (by omega)
    have hd : decide (0 ≤ (n : Int) ∧ (n : Int) ≤ 99 ∧ 0 ≤ (x : Int) ∧ (x : Int) ≤ (n : Int)) = true := by simp; omega
    rw [hd]
    obtain ⟨S0, HS0⟩ : ∃ S0, Hid (headT (n : Int) (x : Int) = S0) := ⟨_, rfl⟩
    rw [HS0.out]
    have Hx : Hid (S0 = file (framesL (headL n x :: []))) := by show _ = _; rw [← HS0.out]; exact hS0
    have hz0 : S0.size ≤ 50 := by
      rw [Hx.out, file_size]
      have h1 := headL_len n x
      have h2 := frameL_len (headL n x)
      have h3 := Wd.varF_len 5 (headL n x).length
      simp only [framesL, List.length_append, List.length_nil]
      omega
    clear hd hS0
    go_wp2_with fail
    go_loopw [2, 9, 11] (fun vq vs vi wr => ∃ (i : Nat) (q : Int) (ts : List (List UInt8)) (S : ByteArray), vq = .int .i64 q ∧ vs = .string S ∧ vi = .int .i64 i ∧ i ≤ 3 ∧ ts.length ≤ i ∧ 1 ≤ q ∧ q ≤ 1 + 2 * i ∧ S.size ≤ 50 + 400 * i ∧ Hid (S = file (framesL (headL n x :: ts))) ∧ Hid (risingT (-1) ts) ∧ Hid (∀ u ∈ ts, rdSeq (file u) < q) ∧ Hid (∀ t ∈ ts, 1 ≤ t.length ∧ t.length ≤ 300) ∧ Hid (CurAt w0 wr g ao len cap) ∧ Hid (w.grownBy wr (some g))) (fun _ _ vi _ => 4 - (intOf vi).toNat)
    case atStart => exact ⟨0, 1, [], S0, rfl, rfl, rfl, Nat.zero_le _, Nat.zero_le _, by omega, by omega, by omega, Hx, trivial, fun u hu => absurd hu List.not_mem_nil, fun u hu => absurd hu List.not_mem_nil, C3, G3⟩
    case round =>
      clear HS0 Hx hz0 C3 G3
      obtain ⟨i, q, ts, S, rfl, rfl, rfl, hi, htl, hq1, hq2, hSz, HS, HRI, HLT, HSZ, CU, GR⟩ := hrel
      go_wp2_with fail
      refine (below_any w0 _ g ao len cap 4 hlen (by omega) HC.out CU.out).mono ?_
      rintro e w4 ⟨y, rfl, hy, -, c4, g4⟩
      have hy4 : y < 4 := by have := hy (by omega); omega
      have C4 := hide c4
      have G4 := hide (grownBy_trans GR.out g4)
      clear hy c4 g4
      by_cases hiy : i < y
      · have hiy' : decide ((i : Int) < (y : Int)) = true := by simp; omega
        go_wp2_with fail
        refine (list_any w0 _ g ao len cap hlen HC.out C4.out).mono ?_
        rintro e w5 ⟨a5, k5, fs, rfl, o5, hf1, hf6, hfs, c5, g5⟩
        have C5 := hide c5
        have G5 := hide (grownBy_trans G4.out g5)
        have A5 := hide (rowChange_rows (rowChange_own o5))
        have HFS := hide hfs
        clear c5 g5 o5 hfs
        go_wp2_with fail
        refine (specBatchText_any q fs a5 k5 _ (by omega) A5.out (fun A hA => by have := HFS.out A hA; omega)).mono ?_
        rintro e w6 ⟨rfl, b6⟩
        have hcur := cur_lt C5.out
        have C6 := hide (cur_keep C5.out b6 hcur)
        have G6 := hide (grownBy_trans G5.out (grownBy_below _ b6))
        clear b6 hcur
        cases hok : textOkD q fs with
        | true =>
          obtain ⟨t, ht, ht1, ht2, ht3, ht4⟩ := text_few hok hf6 HFS.out
          rw [ht]
          have HPUT := hide (file_put (headL n x :: ts) t)
          obtain ⟨T, hT⟩ : ∃ T, file t = T := ⟨_, rfl⟩
          have hTz : T.size = t.length := by rw [← hT]; rfl
          rw [hT] at HPUT
          rw [hT]
          have hFz2 : (frameB T).size ≤ 309 := by have h1 := frameB_size T; have h2 := Wd.varF_len 5 T.size; omega
          have H3 := hide ht3
          have H4 := hide ht4
          clear ht hok hT ht3 ht4
          go_wp2_with fail
          refine (specFrame_yes T _ (by omega) (by omega)).mono ?_
          rintro e w7 ⟨rfl, b7⟩
          have hcur := cur_lt C6.out
          have C7 := hide (cur_keep C6.out b7 hcur)
          have G7 := hide (grownBy_trans G6.out (grownBy_below _ b7))
          clear b7 hcur hTz
          obtain ⟨FT, hFT⟩ : ∃ FT, frameB T = FT := ⟨_, rfl⟩
          rw [hFT] at HPUT hFz2 ⊢
          clear hFT
          go_wp2_with fail
          refine (below_any w0 _ g ao len cap 2 hlen (by omega) HC.out C7.out).mono ?_
          rintro e w8 ⟨y2, rfl, hy2, -, c8, g8⟩
          have hy3 : y2 < 2 := by have := hy2 (by omega); omega
          have C8 := hide c8
          have G8 := hide (grownBy_trans G7.out g8)
          clear hy2 c8 g8
          go_wp2_with fail
          go_roundw
          case rel =>
            refine ⟨i + 1, q + 1 + (y2 : Int), ts ++ [t], S ++ FT, rfl, rfl, by go_num, by omega, by simp; omega, by omega, by omega, ?_, ?_, ?_, ?_, ?_, C8, G8⟩
            · rw [ByteArray.size_append]; omega
            · show _ = _
              rw [HS.out, HPUT.out]
              rfl
            · exact risingT_snoc ts (-1) t HRI.out H3.out (fun u hu => by rw [H4.out]; exact HLT.out u hu) (by rw [H4.out]; omega)
            · intro u hu
              rcases List.mem_append.1 hu with h | h
              · have := HLT.out u h; omega
              · obtain rfl : u = t := by simpa using h
                rw [H4.out]; omega
            · intro u hu
              rcases List.mem_append.1 hu with h | h
              · exact HSZ.out u h
              · obtain rfl : u = t := by simpa using h
                exact ⟨ht1, ht2⟩
          case measure => simp [intOf]; omega
        | false =>
          rw [textD_no hok]
          clear hok
          go_wp2_with fail
          refine (specFrame_no ⟨#[]⟩ _ (.inl (by decide))).mono ?_
          rintro e w7 ⟨rfl, rfl⟩
          have hSS : S ++ (⟨#[]⟩ : ByteArray) = S := by apply ByteArray.ext; simp
          go_wp2_with fail
          refine (below_any w0 _ g ao len cap 2 hlen (by omega) HC.out C6.out).mono ?_
          rintro e w8 ⟨y2, rfl, hy2, -, c8, g8⟩
          have hy3 : y2 < 2 := by have := hy2 (by omega); omega
          have C8 := hide c8
          have G8 := hide (grownBy_trans G6.out g8)
          clear hy2 c8 g8
          go_wp2_with fail
          go_roundw
          case rel =>
            refine ⟨i + 1, q + 1 + (y2 : Int), ts, S, rfl, by first | rfl | (rw [hSS]), by go_num, by omega, by omega, by omega, by omega, by omega, HS, HRI, ?_, HSZ, C8, G8⟩
            intro u hu
            have := HLT.out u hu
            omega
          case measure => simp [intOf]; omega
      · have hiy' : decide ((i : Int) < (y : Int)) = false := by simp; omega
        have hiyn : decide (i < y) = false := by simp; omega
        go_wp2
        go_ret2
        exact ⟨x, ts, q, by rw [← HS.out]; rfl, by omega, HRI.out, HSZ.out, by omega, C4.out, G4.out⟩

set_option maxRecDepth 100000 in
theorem drawRightSegment_any (w : World) (ao : Option Addr) (len cap : Nat) (hlen : len ≤ 1048576) (hcode : Code w ao len) :
    Calls Tryd.prog 6 #[.slice ao len cap] w fun e w' => ∃ (n f : Nat) (ts : List (List UInt8)), e = .returned (.tuple #[.int .i64 (n : Int), .string (file (framesL (headL n f :: ts)))]) ∧ n ≤ 8 ∧ f ≤ n ∧ risingT (-1) ts ∧ (∀ t ∈ ts, 1 ≤ t.length ∧ t.length ≤ 300) ∧ ts.length ≤ 3 ∧ Below w.heap.size w w' := by
  have HC := hide hcode
  clear hcode
  go_enter Tryd.func6, Tryd.ntmps6
  go_wp2_with fail
  refine (new_any w ao len cap hlen HC.out).mono ?_
  rintro e w1 ⟨g, rfl, c1⟩
  go_wp2_with fail
  refine (below_any w _ g ao len cap 9 hlen (by omega) HC.out c1).mono ?_
  rintro e w2 ⟨n, rfl, hn, -, c2, g2⟩
  have hn9 : n ≤ 8 := by have := hn (by omega); omega
  clear hn
  go_wp2_with fail
  refine (l06File_any w _ g ao len cap n hn9 hlen HC.out c2).mono ?_
  rintro e w3 ⟨f, ts, q, rfl, hf, hr, hs, hl, c3, g3⟩
  go_wp2
  go_ret2
  exact ⟨n, f, ts, rfl, hn9, hf, hr, hs, hl, c3.1⟩
end Go.Proofs.YtijmlgdeeodehabDoor
