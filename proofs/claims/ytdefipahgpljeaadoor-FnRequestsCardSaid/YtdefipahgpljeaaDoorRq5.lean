import Derived.Test.YtdefipahgpljeaaDoorRq4
set_option maxRecDepth 100000
set_option maxHeartbeats 4000000
namespace Go.Proofs.YtdefipahgpljeaaDoor
open Go.RowKit
def Fits (s : ByteArray) (i : Nat) (t : ByteArray) (k : Nat) : Prop := ∀ j, j < k → i + j < s.size ∧ Wd.bt s (i + j) = Wd.bt t j
theorem fits_more {s t : ByteArray} {i k : Nat} (h : Fits s i t k) (h1 : i + k < s.size) (h2 : Wd.bt s (i + k) = Wd.bt t k) : Fits s i t (k + 1) := by
  intro j hj
  by_cases e : j = k
  · subst e; exact ⟨h1, h2⟩
  · exact h j (by omega)
theorem expect_any (w0 w : World) (g : Nat) (s t : ByteArray) (i : Nat) (v : Value) (L : List ByteArray) (hz : s.size ≤ 1048576) (hi : i ≤ s.size) (ht : t.size ≤ 2) (h : PS w0 w g s i v L) :
    Calls Tryd.prog 53 #[.pointer (some ⟨g, 0, none⟩), .string t] w fun e w' => ∃ k, k ≤ t.size ∧ Fits s i t k ∧ i + k ≤ s.size ∧
      ((e = .returned (.int .i64 0) ∧ k < t.size ∧ s.size ≤ i + k ∧ PS w0 w' g s (i + k) v L) ∨ (e = .returned (.int .i64 2) ∧ k < t.size ∧ i + k < s.size ∧ Wd.bt s (i + k) ≠ Wd.bt t k ∧ PS w0 w' g s (i + k + 1) v L) ∨ (e = .returned (.int .i64 1) ∧ k = t.size ∧ PS w0 w' g s (i + k) v L)) := by
  have HP := hide h
  clear h
  go_enter Tryd.func53, Tryd.ntmps53
  go_wp2_with fail
  go_loopw [10] (fun ii wr => ∃ k : Nat, k ≤ t.size ∧ i + k ≤ s.size ∧ ii = .int .i64 k ∧ Hid (Fits s i t k) ∧ Hid (PS w0 wr g s (i + k) v L)) (fun ii _ => t.size - (intOf ii).toNat)
  case atStart => exact ⟨0, Nat.zero_le _, hi, rfl, fun j hj => absurd hj (by omega), HP⟩
  case round =>
    obtain ⟨k, hk, hik, rfl, HF, HR⟩ := hrel
    by_cases hlt : k < t.size
    · by_cases hend : i + k < s.size
      · have hT := hide (take_yes w0 wr g s (i + k) 1 v L hz (by omega) HR.out)
        obtain ⟨x, hx, hxz, hx0⟩ : ∃ x : ByteArray, Hid (s.extract (i + k) (i + k + 1) = x) ∧ Hid (x.size = 1) ∧ Hid (Wd.bt x 0 = Wd.bt s (i + k)) :=
          ⟨_, rfl, by show _ = _; rw [ByteArray.size_extract]; omega, by show _ = _; rw [bt_cut s (i + k) (i + k + 1) 0 (by omega) (by omega), Nat.add_zero]⟩
        have hx1 : 0 < x.size := by rw [hxz.out]; exact Nat.one_pos
        obtain ⟨b, hB, hbt, hb256⟩ : ∃ b : Nat, Hid (Wd.bt s (i + k) = b) ∧ (x[0]'hx1).toNat = b ∧ b < 256 := ⟨_, rfl, by rw [Wd.bt_eq x 0 hx1]; exact hx0.out, Wd.bt_lt _ _⟩
        obtain ⟨c, hC, hct, hc256⟩ : ∃ c : Nat, Hid (Wd.bt t k = c) ∧ (t[k]'hlt).toNat = c ∧ c < 256 := ⟨_, rfl, Wd.bt_eq t k hlt, Wd.bt_lt t k⟩
        have hidx := idx_run x 0 b hx1 hbt
        have hidt := idx_run t k c hlt hct
        by_cases hbc : b = c
        · have hbc' : ((b : Int) != (c : Int)) = false := by simp; omega
          have HF2 := hide (fits_more HF.out hend (by rw [hB.out, hC.out]; exact hbc))
          clear hbc
          go_wp2_with fail
          refine (hT.out).mono ?_
          rw [hx.out]
          rintro e w1 ⟨rfl, hp1⟩
          have HP1 := hide hp1
          clear hp1
          go_wp2_with fail
          go_quiet (fail)
          go_wp2_with fail
          go_roundw
          case rel => exact ⟨k + 1, by omega, by omega, by go_num, HF2, ps_drew HP1.out _⟩
          case measure => simp [intOf]; omega
        · have hbc' : ((b : Int) != (c : Int)) = true := by simp; omega
          have hne := hide (show Wd.bt s (i + k) ≠ Wd.bt t k by rw [hB.out, hC.out]; exact hbc)
          clear hbc
          go_wp2_with fail
          refine (hT.out).mono ?_
          rw [hx.out]
          rintro e w1 ⟨rfl, hp1⟩
          have HP1 := hide hp1
          clear hp1
          go_wp2_with fail
          go_quiet (fail)
          go_wp2
          go_ret
          exact ⟨k, by omega, HF.out, by omega, .inr (.inl ⟨rfl, hlt, hend, hne.out, ps_drew HP1.out _⟩)⟩
      · have hT := hide (take_no w0 wr g s (i + k) 1 v L hz hik (by omega) HR.out)
        go_wp2_with fail
        refine (hT.out).mono ?_
        rintro e w1 ⟨rfl, hp1⟩
        have HP1 := hide hp1
        clear hp1
        go_wp2
        go_ret
        exact ⟨k, by omega, HF.out, hik, .inl ⟨rfl, hlt, by omega, HP1.out⟩⟩
    · go_wp2
      go_ret
      exact ⟨k, hk, HF.out, hik, .inr (.inr ⟨rfl, by omega, HR.out⟩)⟩
def oneSt (s : ByteArray) (i c : Nat) : Nat := if s.size ≤ i then 0 else if Wd.bt s i ≠ c then 2 else 1
theorem expect_one (w0 w : World) (g : Nat) (s : ByteArray) (b : UInt8) (i : Nat) (v : Value) (L : List ByteArray) (hz : s.size ≤ 1048576) (hi : i ≤ s.size) (h : PS w0 w g s i v L) :
    Calls Tryd.prog 53 #[.pointer (some ⟨g, 0, none⟩), .string ⟨#[b]⟩] w fun e w' => e = .returned (.int .i64 (oneSt s i b.toNat : Int)) ∧ ∃ j, j ≤ s.size ∧ PS w0 w' g s j v L ∧ (oneSt s i b.toNat = 1 → j = i + 1 ∧ i < s.size) := by
  refine (expect_any w0 w g s ⟨#[b]⟩ i v L hz hi (by show 1 ≤ 2; omega) h).mono ?_
  have hb0 : Wd.bt ⟨#[b]⟩ 0 = b.toNat := rfl
  have hsz : (⟨#[b]⟩ : ByteArray).size = 1 := rfl
  rintro e w' ⟨k, hk, hF, hks, ⟨rfl, h1, h2, hp⟩ | ⟨rfl, h1, h2, h3, hp⟩ | ⟨rfl, h1, hp⟩⟩
  · have hk0 : k = 0 := by omega
    subst hk0
    have e : oneSt s i b.toNat = 0 := by unfold oneSt; rw [if_pos (by omega)]
    rw [e]
    exact ⟨rfl, _, by omega, hp, fun h => by cases h⟩
  · have hk0 : k = 0 := by omega
    subst hk0
    have e : oneSt s i b.toNat = 2 := by unfold oneSt; rw [if_neg (by omega), if_pos (by rw [← hb0]; exact h3)]
    rw [e]
    exact ⟨rfl, _, by omega, hp, fun h => by cases h⟩
  · have hk0 : k = 1 := by omega
    subst hk0
    have h4 := hF 0 (by omega)
    have e : oneSt s i b.toNat = 1 := by unfold oneSt; rw [if_neg (by omega), if_neg (by rw [← hb0]; exact fun hx => hx h4.2)]
    rw [e]
    exact ⟨rfl, _, by omega, hp, fun _ => ⟨rfl, by omega⟩⟩
theorem expect_crlf (w0 w : World) (g : Nat) (s : ByteArray) (i : Nat) (v : Value) (L : List ByteArray) (hz : s.size ≤ 1048576) (hi : i ≤ s.size) (h : PS w0 w g s i v L) :
    Calls Tryd.prog 53 #[.pointer (some ⟨g, 0, none⟩), .string ⟨#[13, 10]⟩] w fun e w' => e = .returned (.int .i64 (crlf s i : Int)) ∧ ∃ j, j ≤ s.size ∧ PS w0 w' g s j v L ∧ (crlf s i = 1 → j = i + 2) := by
  refine (expect_any w0 w g s ⟨#[13, 10]⟩ i v L hz hi (by decide) h).mono ?_
  have hb0 : Wd.bt ⟨#[13, 10]⟩ 0 = 13 := rfl
  have hb1 : Wd.bt ⟨#[13, 10]⟩ 1 = 10 := rfl
  have hsz : (⟨#[13, 10]⟩ : ByteArray).size = 2 := rfl
  rintro e w' ⟨k, hk, hF, hks, ⟨rfl, h1, h2, hp⟩ | ⟨rfl, h1, h2, h3, hp⟩ | ⟨rfl, h1, hp⟩⟩
  · rcases (show k = 0 ∨ k = 1 by omega) with rfl | rfl
    · have e := crlf_end (s := s) (j := i) (by omega)
      rw [e]
      exact ⟨rfl, _, by omega, hp, fun h => by cases h⟩
    · have h4 := hF 0 (by omega)
      have e := crlf_end2 (s := s) (j := i) h4.1 (by rw [← hb0]; exact h4.2) (by omega)
      rw [e]
      exact ⟨rfl, _, by omega, hp, fun h => by cases h⟩
  · rcases (show k = 0 ∨ k = 1 by omega) with rfl | rfl
    · have e := crlf_cr (s := s) (j := i) (by omega) (by rw [← hb0]; exact h3)
      rw [e]
      exact ⟨rfl, _, by omega, hp, fun h => by cases h⟩
    · have h4 := hF 0 (by omega)
      have e := crlf_lf (s := s) (j := i) (by rw [← hb0]; exact h4.2) (by omega) (by rw [← hb1]; exact h3)
      rw [e]
      exact ⟨rfl, _, by omega, hp, fun h => by cases h⟩
  · have hk0 : k = 2 := by omega
    subst hk0
    have h4 := hF 0 (by omega)
    have h5 := hF 1 (by omega)
    have e := crlf_is (s := s) (j := i) (by rw [← hb0]; exact h4.2) h5.1 (by rw [← hb1]; exact h5.2)
    rw [e]
    exact ⟨rfl, _, by omega, hp, fun _ => rfl⟩
def numSt (s : ByteArray) (i lim : Nat) : Nat := if s.size ≤ i then 0 else if numOk s i lim then 1 else 2
def numSV (s : ByteArray) (i lim : Nat) : Nat := if numSt s i lim = 1 then numV s i else 0
theorem number_any (w0 w : World) (g : Nat) (s : ByteArray) (i lim : Nat) (v : Value) (L : List ByteArray) (hz : s.size ≤ 1048576) (hi : i ≤ s.size) (hl : lim ≤ 999) (h : PS w0 w g s i v L) :
    Calls Tryd.prog 54 #[.pointer (some ⟨g, 0, none⟩), .int .i64 (lim : Int)] w fun e w' => e = .returned (.tuple #[.int .i64 (numSV s i lim : Int), .int .i64 (numSt s i lim : Int)]) ∧ ∃ j, j ≤ s.size ∧ PS w0 w' g s j v L ∧ (numSt s i lim = 1 → j = figE s i) := by
  have HP := hide h
  have HL := hide (left_any w g s i v hz hi h.prs)
  clear h
  by_cases hlt : i < s.size
  · have hm : (((s.size - i : Nat) : Int) == 0) = false := by rw [beq_eq_false_iff_ne]; omega
    have HT := hide (fun q => takeFigures_any w0 (w.drewN q) g s i v L hz hi (ps_drew HP.out q))
    have hTz : (numTx s i).size ≤ 1048576 := by have := numTx_size s i hi; have := figE_le s i hi; omega
    have hfe := figE_le s i hi
    by_cases hg : Wd.good (numTx s i)
    · have HD := hide (fun W => implDec_yes (numTx s i) W hg)
      obtain ⟨n, hn, hn9⟩ : ∃ n : Nat, Hid (numV s i = n) ∧ n ≤ 1000000000 := ⟨_, rfl, hg.2.2.2.2⟩
      rw [show Wd.numF (numTx s i) (numTx s i).size = n from hn.out] at HD
      by_cases hnl : lim < n
      · have hnl' : decide ((lim : Int) < (n : Int)) = true := by simp; omega
        have hst : Hid (numSt s i lim = 2) := by show _ = _; unfold numSt; rw [if_neg (by omega), if_neg (fun hk => by have := hk.2.2.2; rw [hn.out] at this; omega)]
        have hsv : Hid (numSV s i lim = 0) := by show _ = _; unfold numSV; rw [hst.out]; rfl
        clear hg
        go_enter Tryd.func54, Tryd.ntmps54
        go_wp2_with fail
        refine (HL.out).mono ?_
        rintro e w1 ⟨rfl, q, rfl⟩
        go_wp2_with fail
        refine (HT.out q).mono ?_
        rintro e w2 ⟨rfl, hp2⟩
        have HP2 := hide hp2
        clear hp2
        go_wp2_with fail
        refine (HD.out _).mono ?_
        rintro e w3 ⟨rfl, hb3⟩
        have HP3 := hide (ps_below HP2.out hb3)
        clear hb3
        go_wp2
        go_ret2
        rw [hst.out, hsv.out]
        exact ⟨rfl, _, hfe, HP3.out, fun h => by cases h⟩
      · have hnl' : decide ((lim : Int) < (n : Int)) = false := by simp; omega
        have hok : numOk s i lim := Decidable.byContradiction fun hk => by have := num_bad hi hl hk hg; rw [hn.out] at this; omega
        have hst : Hid (numSt s i lim = 1) := by show _ = _; unfold numSt; rw [if_neg (by omega), if_pos hok]
        have hsv : Hid (numSV s i lim = n) := by show _ = _; unfold numSV; rw [if_pos hst.out]; exact hn.out
        clear hg hok
        go_enter Tryd.func54, Tryd.ntmps54
        go_wp2_with fail
        refine (HL.out).mono ?_
        rintro e w1 ⟨rfl, q, rfl⟩
        go_wp2_with fail
        refine (HT.out q).mono ?_
        rintro e w2 ⟨rfl, hp2⟩
        have HP2 := hide hp2
        clear hp2
        go_wp2_with fail
        refine (HD.out _).mono ?_
        rintro e w3 ⟨rfl, hb3⟩
        have HP3 := hide (ps_below HP2.out hb3)
        clear hb3
        go_wp2
        go_ret2
        rw [hst.out, hsv.out]
        exact ⟨rfl, _, hfe, HP3.out, fun _ => rfl⟩
    · have HD := hide (fun W => implDec_no (numTx s i) W hTz hg)
      have hst : Hid (numSt s i lim = 2) := by show _ = _; unfold numSt; rw [if_neg (by omega), if_neg (fun hk => hg (numOk_good hi hk))]
      have hsv : Hid (numSV s i lim = 0) := by show _ = _; unfold numSV; rw [hst.out]; rfl
      clear hg
      go_enter Tryd.func54, Tryd.ntmps54
      go_wp2_with fail
      refine (HL.out).mono ?_
      rintro e w1 ⟨rfl, q, rfl⟩
      go_wp2_with fail
      refine (HT.out q).mono ?_
      rintro e w2 ⟨rfl, hp2⟩
      have HP2 := hide hp2
      clear hp2
      go_wp2_with fail
      refine (HD.out _).mono ?_
      rintro e w3 ⟨rfl, hb3⟩
      have HP3 := hide (ps_below HP2.out hb3)
      clear hb3
      go_wp2
      go_ret2
      rw [hst.out, hsv.out]
      exact ⟨rfl, _, hfe, HP3.out, fun h => by cases h⟩
  · have hm : (((s.size - i : Nat) : Int) == 0) = true := by rw [beq_iff_eq]; omega
    have hst : Hid (numSt s i lim = 0) := by show _ = _; unfold numSt; rw [if_pos (by omega)]
    have hsv : Hid (numSV s i lim = 0) := by show _ = _; unfold numSV; rw [hst.out]; rfl
    go_enter Tryd.func54, Tryd.ntmps54
    go_wp2_with fail
    refine (HL.out).mono ?_
    rintro e w1 ⟨rfl, q, rfl⟩
    go_wp2
    go_ret2
    rw [hst.out, hsv.out]
    exact ⟨rfl, _, hi, ps_drew HP.out _, fun h => by cases h⟩
def headM (s : ByteArray) (i c lim : Nat) : Nat := if oneSt s i c ≠ 1 then oneSt s i c else headSt s (i + 1) lim
def headV (s : ByteArray) (i c lim : Nat) : Nat := if headM s i c lim = 1 then numV s (i + 1) else 0
theorem head_num (s : ByteArray) (i lim : Nat) : headSt s i lim = if numSt s i lim ≠ 1 then numSt s i lim else crlf s (figE s i) := by
  unfold headSt numSt
  by_cases h1 : s.size ≤ i
  · rw [if_pos h1, if_pos h1]; rfl
  · rw [if_neg h1, if_neg h1]
    by_cases h2 : numOk s i lim
    · rw [if_pos h2, if_pos h2, if_neg (by decide)]
    · rw [if_neg h2, if_neg h2]; rfl
theorem head_any (w0 w : World) (g : Nat) (s : ByteArray) (b : UInt8) (i lim : Nat) (v : Value) (L : List ByteArray) (hz : s.size ≤ 1048576) (hi : i ≤ s.size) (hl : lim ≤ 999) (h : PS w0 w g s i v L) :
    Calls Tryd.prog 43 #[.pointer (some ⟨g, 0, none⟩), .string ⟨#[b]⟩, .int .i64 (lim : Int)] w fun e w' => e = .returned (.tuple #[.int .i64 (headV s i b.toNat lim : Int), .int .i64 (headM s i b.toNat lim : Int)]) ∧ ∃ j, j ≤ s.size ∧ PS w0 w' g s j v L ∧ (headM s i b.toNat lim = 1 → j = figE s (i + 1) + 2) := by
  have HE := hide (expect_one w0 w g s b i v L hz hi h)
  clear h
  by_cases h1 : oneSt s i b.toNat = 1
  · have hM : Hid (headM s i b.toNat lim = headSt s (i + 1) lim) := by show _ = _; unfold headM; rw [if_neg (fun hx => hx h1)]
    rw [h1] at HE
    have hi1 : i < s.size := by unfold oneSt at h1; split at h1; · cases h1
                                omega
    by_cases h2 : numSt s (i + 1) lim = 1
    · have hM2 : Hid (headM s i b.toNat lim = crlf s (figE s (i + 1))) := by show _ = _; rw [hM.out, head_num, if_neg (fun hx => hx h2)]
      have hV : Hid (numSV s (i + 1) lim = numV s (i + 1)) := by show _ = _; unfold numSV; rw [if_pos h2]
      have hfe := figE_le s (i + 1) (by omega)
      by_cases h3 : crlf s (figE s (i + 1)) = 1
      · have hM3 : Hid (headM s i b.toNat lim = 1) := hM2.out.trans h3
        have hV3 : Hid (headV s i b.toNat lim = numV s (i + 1)) := by show _ = _; unfold headV; rw [if_pos hM3.out]
        go_enter Tryd.func43, Tryd.ntmps43
        go_wp2_with fail
        refine (HE.out).mono ?_
        rintro e w1 ⟨rfl, j1, hj1, hp1, hq1⟩
        obtain ⟨rfl, -⟩ := hq1 (by trivial)
        have HN := hide (number_any w0 w1 g s (i + 1) lim v L hz hj1 hl hp1)
        rw [hV.out, h2] at HN
        clear hp1 hq1
        go_wp2_with fail
        refine (HN.out).mono ?_
        rintro e w2 ⟨rfl, j2, hj2, hp2, hq2⟩
        obtain rfl := hq2 (by trivial)
        have HX := hide (expect_crlf w0 w2 g s (figE s (i + 1)) v L hz hj2 hp2)
        rw [h3] at HX
        clear hp2 hq2
        go_wp2_with fail
        refine (HX.out).mono ?_
        rintro e w3 ⟨rfl, j3, hj3, hp3, hq3⟩
        have HP3 := hide hp3
        clear hp3
        go_wp2
        go_ret2
        rw [hV3.out, hM3.out]
        exact ⟨rfl, j3, hj3, HP3.out, fun _ => hq3 (by trivial)⟩
      · have hcle := crlf_le s (figE s (i + 1))
        obtain ⟨c3, hc3, hc3n⟩ : ∃ c3 : Nat, Hid (crlf s (figE s (i + 1)) = c3) ∧ ((c3 : Int) != 1) = true := ⟨_, rfl, by simp; omega⟩
        have hM3 : Hid (headM s i b.toNat lim = c3) := hM2.out.trans hc3.out
        have hV3 : Hid (headV s i b.toNat lim = 0) := by show _ = _; unfold headV; rw [if_neg (by rw [hM2.out]; exact h3)]
        go_enter Tryd.func43, Tryd.ntmps43
        go_wp2_with fail
        refine (HE.out).mono ?_
        rintro e w1 ⟨rfl, j1, hj1, hp1, hq1⟩
        obtain ⟨rfl, -⟩ := hq1 (by trivial)
        have HN := hide (number_any w0 w1 g s (i + 1) lim v L hz hj1 hl hp1)
        rw [hV.out, h2] at HN
        clear hp1 hq1
        go_wp2_with fail
        refine (HN.out).mono ?_
        rintro e w2 ⟨rfl, j2, hj2, hp2, hq2⟩
        obtain rfl := hq2 (by trivial)
        have HX := hide (expect_crlf w0 w2 g s (figE s (i + 1)) v L hz hj2 hp2)
        rw [hc3.out] at HX
        clear hp2 hq2
        go_wp2_with fail
        refine (HX.out).mono ?_
        rintro e w3 ⟨rfl, j3, hj3, hp3, hq3⟩
        have HP3 := hide hp3
        clear hp3
        go_wp2
        go_ret2
        rw [hV3.out, hM3.out]
        exact ⟨rfl, j3, hj3, HP3.out, fun hx => absurd (hc3.out.trans hx) h3⟩
    · obtain ⟨c3, hc3, hc3n⟩ : ∃ c3 : Nat, Hid (numSt s (i + 1) lim = c3) ∧ ((c3 : Int) != 1) = true := ⟨_, rfl, by simp; omega⟩
      have hM3 : Hid (headM s i b.toNat lim = c3) := by show _ = _; rw [hM.out, head_num, if_pos h2]; exact hc3.out
      have hV3 : Hid (headV s i b.toNat lim = 0) := by show _ = _; unfold headV; rw [if_neg (by rw [hM3.out, ← hc3.out]; exact h2)]
      go_enter Tryd.func43, Tryd.ntmps43
      go_wp2_with fail
      refine (HE.out).mono ?_
      rintro e w1 ⟨rfl, j1, hj1, hp1, hq1⟩
      obtain ⟨rfl, -⟩ := hq1 (by trivial)
      have HN := hide (number_any w0 w1 g s (i + 1) lim v L hz hj1 hl hp1)
      rw [hc3.out] at HN
      clear hp1 hq1
      go_wp2_with fail
      refine (HN.out).mono ?_
      rintro e w2 ⟨rfl, j2, hj2, hp2, hq2⟩
      have HP3 := hide hp2
      clear hp2
      go_wp2
      go_ret2
      rw [hV3.out, hM3.out]
      exact ⟨rfl, j2, hj2, HP3.out, fun hx => absurd (hc3.out.trans hx) h2⟩
  · obtain ⟨c3, hc3, hc3n⟩ : ∃ c3 : Nat, Hid (oneSt s i b.toNat = c3) ∧ ((c3 : Int) != 1) = true := ⟨_, rfl, by simp; omega⟩
    have hM3 : Hid (headM s i b.toNat lim = c3) := by show _ = _; unfold headM; rw [if_pos h1]; exact hc3.out
    have hV3 : Hid (headV s i b.toNat lim = 0) := by show _ = _; unfold headV; rw [if_neg (by rw [hM3.out, ← hc3.out]; exact h1)]
    rw [hc3.out] at HE
    go_enter Tryd.func43, Tryd.ntmps43
    go_wp2_with fail
    refine (HE.out).mono ?_
    rintro e w1 ⟨rfl, j1, hj1, hp1, hq1⟩
    have HP3 := hide hp1
    clear hp1
    go_wp2
    go_ret2
    rw [hV3.out, hM3.out]
    exact ⟨rfl, j1, hj1, HP3.out, fun hx => absurd (hc3.out.trans hx) h1⟩
theorem prs_put {w : World} {g : Nat} {s : ByteArray} {i : Nat} {v : Value} (h : Prs w g s i v) (v' : Value) : Prs (w.setCell ⟨g, 2, none⟩ v') g s i v' := (heap_setCell_same _ _ _ _ _ _ h).trans rfl
theorem own_put {w : World} {g B : Nat} {v v' : Value} {L : List ByteArray} (h : w.ownsRow B 9 1 v L.length (L.map Value.string)) (hg : g < B) : (w.setCell ⟨g, 2, none⟩ v').ownsRow B 9 1 v L.length (L.map Value.string) := by
  refine h.kept (grownBy_store (World.grownBy.refl w (some g)) 2 _) ?_
  cases hv : v.ownBlock with
  | none => exact .inl rfl
  | some k => exact .inr (by have := (h.lt k hv).1; intro e; simp at e; omega)
def argSt (s : ByteArray) (i : Nat) : Nat := if headM s i 36 60 ≠ 1 then headM s i 36 60 else if s.size < figE s (i + 1) + 2 + numV s (i + 1) then 0 else crlf s (figE s (i + 1) + 2 + numV s (i + 1))
theorem rd_yes {s : ByteArray} {i : Nat} (h : argSt s i = 1) (c : Nat) (acc : List ByteArray) : rdArgs s (c + 1) i acc = rdArgs s c (figE s (i + 1) + 2 + numV s (i + 1) + 2) (acc ++ [s.extract (figE s (i + 1) + 2) (figE s (i + 1) + 2 + numV s (i + 1))]) := by
  unfold argSt headM oneSt at h
  rw [rdArgs]
  by_cases h1 : s.size ≤ i
  · simp [h1] at h
  by_cases h2 : Wd.bt s i = 36
  · by_cases h3 : headSt s (i + 1) 60 = 1
    · by_cases h4 : s.size < figE s (i + 1) + 2 + numV s (i + 1)
      · simp [h1, h2, h3, h4] at h
      · simp [h1, h2, h3, h4] at h
        simp [h1, h2, h3, h4, h]
    · simp [h1, h2, h3] at h
  · simp [h1, h2] at h
theorem rd_no {s : ByteArray} {i : Nat} (h : argSt s i ≠ 1) (c : Nat) (acc : List ByteArray) : rdArgs s (c + 1) i acc = (argSt s i, 0, []) := by
  unfold argSt headM oneSt at h ⊢
  rw [rdArgs]
  by_cases h1 : s.size ≤ i
  · simp [h1]
  by_cases h2 : Wd.bt s i = 36
  · by_cases h3 : headSt s (i + 1) 60 = 1
    · by_cases h4 : s.size < figE s (i + 1) + 2 + numV s (i + 1)
      · simp [h1, h2, h3, h4]
      · simp [h1, h2, h3, h4] at h
        simp [h1, h2, h3, h4, h]
    · simp [h1, h2, h3]
  · simp [h1, h2]
theorem argSt_le (s : ByteArray) (i : Nat) : argSt s i ≤ 2 := by
  unfold argSt headM oneSt
  have h1 := headSt_le s (i + 1) 60
  have h2 := crlf_le s (figE s (i + 1) + 2 + numV s (i + 1))
  repeat (first | split | omega)
theorem headM_head {s : ByteArray} {i c lim : Nat} (h : headM s i c lim = 1) : headSt s (i + 1) lim = 1 ∧ i < s.size := by
  unfold headM oneSt at h
  by_cases h1 : s.size ≤ i
  · simp [h1] at h
  by_cases h2 : Wd.bt s i = c
  · simp [h1, h2] at h
    exact ⟨h, by omega⟩
  · simp [h1, h2] at h
theorem argument_any (w0 w : World) (g : Nat) (s : ByteArray) (i : Nat) (v : Value) (L : List ByteArray) (hz : s.size ≤ 1048576) (hi : i ≤ s.size) (hL : L.length ≤ 1000) (h : PS w0 w g s i v L) :
    Calls Tryd.prog 44 #[.pointer (some ⟨g, 0, none⟩)] w fun e w' => e = .returned (.int .i64 (argSt s i : Int)) ∧ ∃ j v' L', j ≤ s.size ∧ PS w0 w' g s j v' L' ∧ (argSt s i = 1 → j = figE s (i + 1) + 2 + numV s (i + 1) + 2 ∧ L' = L ++ [s.extract (figE s (i + 1) + 2) (figE s (i + 1) + 2 + numV s (i + 1))]) := by
  have HH := hide (head_any w0 w g s 36 i 60 v L hz hi (by omega) h)
  clear h
  rw [show (36 : UInt8).toNat = 36 from rfl] at HH
  by_cases h1 : headM s i 36 60 = 1
  · have hV : headV s i 36 60 = numV s (i + 1) := by unfold headV; rw [if_pos h1]
    have hf := headSt_yes (headM_head h1).1
    have hsz60 := hf.2.1.2.2.2
    have hnxz := hf.2.2.2
    clear hf
    rw [h1, hV] at HH
    clear hV
    have hA1 : Hid (argSt s i = if s.size < figE s (i + 1) + 2 + numV s (i + 1) then 0 else crlf s (figE s (i + 1) + 2 + numV s (i + 1))) := by show _ = _; unfold argSt; rw [if_neg (fun hx => hx h1)]
    obtain ⟨nx, hnx⟩ : ∃ nx, Hid (figE s (i + 1) + 2 = nx) := ⟨_, rfl⟩
    obtain ⟨sz, hsz⟩ : ∃ sz, Hid (numV s (i + 1) = sz) := ⟨_, rfl⟩
    rw [hnx.out, hsz.out] at hA1
    rw [hnx.out] at HH hnxz
    rw [hsz.out] at HH hsz60
    rw [hnx.out, hsz.out]
    by_cases h2 : s.size < nx + sz
    · have hA2 : Hid (argSt s i = 0) := by show _ = _; rw [hA1.out, if_pos h2]
      go_enter Tryd.func44, Tryd.ntmps44
      go_wp2_with fail
      refine (HH.out).mono ?_
      rintro e w1 ⟨rfl, j1, hj1, hp1, hq1⟩
      obtain rfl := hq1 (by trivial)
      have HT := hide (take_no w0 w1 g s j1 sz v L hz hj1 h2 hp1)
      clear hp1
      go_wp2_with fail
      refine (HT.out).mono ?_
      rintro e w2 ⟨rfl, hp2⟩
      have HP2 := hide hp2
      clear hp2
      go_wp2
      go_ret
      rw [hA2.out]
      exact ⟨rfl, j1, v, L, hj1, HP2.out, fun h => by cases h⟩
    · have hA2 : Hid (argSt s i = crlf s (nx + sz)) := by show _ = _; rw [hA1.out, if_neg h2]
      obtain ⟨X, hX, hXz⟩ : ∃ X : ByteArray, Hid (s.extract nx (nx + sz) = X) ∧ X.size ≤ 1048576 := ⟨_, rfl, by rw [ByteArray.size_extract]; omega⟩
      rw [hX.out]
      go_enter Tryd.func44, Tryd.ntmps44
      go_wp2_with fail
      refine (HH.out).mono ?_
      rintro e w1 ⟨rfl, j1, hj1, hp1, hq1⟩
      obtain rfl := hq1 (by trivial)
      have HT := hide (take_yes w0 w1 g s j1 sz v L hz (by omega) hp1)
      rw [hX.out] at HT
      clear hp1
      go_wp2_with fail
      refine (HT.out).mono ?_
      rintro e w2 ⟨rfl, hp2⟩
      have HP2 := hide hp2
      clear hp2 hq1
      have HPr := hide HP2.out.prs
      have HOwn := hide HP2.out.own
      have hgB : g < g + 1 := Nat.lt_succ_self g
      have hgw := prs_lt HP2.out.prs
      have hBw : g + 1 ≤ w2.heap.size := hgw
      obtain ⟨-, -, hc2, -, hf2⟩ := prs_cells HP2.out.prs
      go_wp2_with fail
      go_region_law ((first | (refine step_app_txt _ (g + 1) (by rfl) _ _ (by rfl) _ (L) X (by rfl) (HO4.out.alloc _) w4.heap.size (by simp [Act.eval]) (heap_alloc_new w4 _) (by omega) hB4 ?_; intro g3 cap3 w3 hown3 hb3 hgr3 hg3 hgl3; have hn0 : Prs w3 g s (j1 + sz) v := (hb3.block g hgB).trans ((((Below.refl _ w4).alloc (Nat.le_refl _) _).block g hg4).trans HP4.out); obtain ⟨-, -, hn2, -, hn3⟩ := prs_cells hn0; have HN0 := hide hn0; have HO3 := hide hown3; have HB3 := hide ((B4.out.mono hBw).trans (((Below.refl _ w4).alloc (Nat.le_trans hBw B4.out.size) _).trans hb3)); clear hn0 hown3 hb3 hgr3) | (go_simp; go_at_call 48; refine (ownText_any X _ hXz).mono ?_; rintro e w4 ⟨rfl, b4⟩; have B4 : Hid (Below w2.heap.size w2 w4) := (Below.refl _ w2).drew.trans b4; have hg4 : g < w4.heap.size := Nat.lt_of_lt_of_le hgw B4.out.size; have HP4 : Hid (Prs w4 g s (j1 + sz) v) := (B4.out.block g hgw).trans HPr.out; have hall0 : w4.cell? ⟨g, 2, none⟩ = some v := (prs_cells HP4.out).2.2.1; have hall : (w4.alloc (.cells #[.string X] 9)).cell? ⟨g, 2, none⟩ = some v := (((Below.refl _ w4).alloc (Nat.le_refl _) _).cell (p := ⟨g, 2, none⟩) hg4).trans hall0; have HO4 := hide (ownsRow_below HOwn.out B4.out); have hB4 : g + 1 ≤ (w4.alloc (.cells #[.string X] 9)).heap.size := Nat.le_trans hBw (Nat.le_trans B4.out.size (by simp)); clear b4)))
      all_goals
        obtain ⟨w5, hw5⟩ : ∃ w5, w3.setCell ⟨g, 2, none⟩ (.slice (some ⟨g3, 0, none⟩) (L.length + 1) cap3) = w5 := ⟨_, rfl⟩
        have HP5 : Hid (PS w0 w5 g s (j1 + sz) (.slice (some ⟨g3, 0, none⟩) (L.length + 1) cap3) (L ++ [X])) := by
          rw [← hw5]
          exact ⟨prs_put HN0.out _, HP2.out.ge, (HP2.out.bel.trans (HB3.out.mono (Nat.le_succ_of_le HP2.out.ge))).setCell (p := ⟨g, 2, none⟩) HP2.out.ge _, own_put HO3.out hgB⟩
        rw [hw5]
        clear hw5
        have HX := hide (expect_crlf w0 w5 g s (j1 + sz) _ _ hz (by omega) HP5.out)
        go_wp2_with fail
        refine (HX.out).mono ?_
        rintro e w6 ⟨rfl, j6, hj6, hp6, hq6⟩
        have HP6 := hide hp6
        have HQ6 := hide hq6
        clear hp6 hq6
        go_wp2
        go_ret
        rw [hA2.out]
        exact ⟨rfl, j6, _, _, hj6, HP6.out, fun h => ⟨HQ6.out h, rfl⟩⟩
  · obtain ⟨c3, hc3, hc3n⟩ : ∃ c3 : Nat, Hid (headM s i 36 60 = c3) ∧ ((c3 : Int) != 1) = true := ⟨_, rfl, by simp; omega⟩
    have hA : Hid (argSt s i = c3) := by show _ = _; unfold argSt; rw [if_pos h1]; exact hc3.out
    rw [hc3.out] at HH
    go_enter Tryd.func44, Tryd.ntmps44
    go_wp2_with fail
    refine (HH.out).mono ?_
    rintro e w1 ⟨rfl, j1, hj1, hp1, hq1⟩
    have HP1 := hide hp1
    clear hp1
    go_wp2
    go_ret
    rw [hA.out]
    exact ⟨rfl, j1, v, L, hj1, HP1.out, fun hx => absurd (hc3.out.trans hx) h1⟩
def cRes (s : ByteArray) : Nat × Nat × List ByteArray := if headM s 0 42 8 = 1 then rdArgs s (numV s 1) (figE s 1 + 2) [] else (headM s 0 42 8, 0, [])
theorem parse_counted {s : ByteArray} (h0 : s.size ≠ 0) (h : Wd.bt s 0 = 42) : parse s = cRes s := by
  have e : headM s 0 42 8 = headSt s 1 8 := by
    unfold headM oneSt
    rw [if_neg (show ¬ s.size ≤ 0 by omega), if_neg (show ¬ Wd.bt s 0 ≠ 42 by omega)]
    rfl
  unfold parse cRes
  rw [if_neg h0, if_neg (show ¬ Wd.bt s 0 ≠ 42 by omega), e]
theorem counted_any (w0 w : World) (g : Nat) (s : ByteArray) (v : Value) (hz : s.size ≤ 1048576) (h : PS w0 w g s 0 v []) :
    Calls Tryd.prog 34 #[.pointer (some ⟨g, 0, none⟩)] w fun e w' => e = .returned (.int .i64 ((cRes s).1 : Int)) ∧ Below w0.heap.size w0 w' ∧ ((cRes s).1 = 1 → ∃ v', PS w0 w' g s (cRes s).2.1 v' (cRes s).2.2) := by
  have HH := hide (head_any w0 w g s 42 0 8 v [] hz (Nat.zero_le _) (by omega) h)
  clear h
  rw [show (42 : UInt8).toNat = 42 from rfl] at HH
  by_cases h1 : headM s 0 42 8 = 1
  · have hV : headV s 0 42 8 = numV s 1 := by unfold headV; rw [if_pos h1]
    have hf := headSt_yes (headM_head h1).1
    have hn8 : numV s 1 ≤ 8 := hf.2.1.2.2.2
    have hnxz : figE s 1 + 2 ≤ s.size := hf.2.2.2
    clear hf
    rw [h1, hV] at HH
    clear hV
    have hC : Hid (cRes s = rdArgs s (numV s 1) (figE s 1 + 2) []) := by show _ = _; unfold cRes; rw [if_pos h1]
    obtain ⟨n, hn⟩ : ∃ n, Hid (numV s 1 = n) := ⟨_, rfl⟩
    obtain ⟨p0, hp0⟩ : ∃ p0, Hid (figE s 1 + 2 = p0) := ⟨_, rfl⟩
    rw [show figE s (0 + 1) = figE s 1 from rfl, hp0.out] at HH
    rw [hn.out] at HH hn8 hC
    rw [hp0.out] at hnxz hC
    clear h1
    go_enter Tryd.func34, Tryd.ntmps34
    go_wp2_with fail
    refine (HH.out).mono ?_
    rintro e w1 ⟨rfl, j1, hj1, hp1, hq1⟩
    have hj : j1 = p0 := hq1 (by trivial)
    rw [hj] at hp1
    have HP1 := hide hp1
    clear hp1 hq1 hj hj1 HH
    go_wp2_with fail
    go_loopw [4, 11] (fun st ii wr => ∃ (k p : Nat) (v' : Value) (acc : List ByteArray), k ≤ n ∧ p ≤ s.size ∧ acc.length ≤ k ∧ st = .int .i64 1 ∧ ii = .int .i64 k ∧ Hid (rdArgs s (n - k) p acc = cRes s) ∧ Hid (PS w0 wr g s p v' acc)) (fun _ ii _ => n - (intOf ii).toNat)
    case atStart => exact ⟨0, p0, v, [], Nat.zero_le _, hnxz, Nat.le_refl _, rfl, rfl, hC.out.symm, HP1⟩
    case round =>
      obtain ⟨k, p, v', acc, hk, hps, hacc, rfl, rfl, HR, HP⟩ := hrel
      by_cases hlt : k < n
      · have HA := hide (argument_any w0 wr g s p v' acc hz hps (by omega) HP.out)
        have hnk : n - k = (n - (k + 1)) + 1 := by omega
        by_cases ha : argSt s p = 1
        · have HR2 := hide HR.out
          rw [hnk, rd_yes ha] at HR2
          rw [ha] at HA
          clear ha hnk
          go_wp2_with fail
          refine (HA.out).mono ?_
          rintro e w2 ⟨rfl, j2, v2, L2, hj2, hp2, hq2⟩
          obtain ⟨rfl, rfl⟩ := hq2 (by trivial)
          have HP2 := hide hp2
          clear hp2 hq2
          go_wp2_with fail
          go_roundw
          case rel => exact ⟨k + 1, _, _, _, by omega, hj2, by simp; omega, rfl, by go_num, HR2, HP2⟩
          case measure => simp [intOf]; omega
        · have HR2 := hide HR.out
          rw [hnk, rd_no ha] at HR2
          have hle := argSt_le s p
          obtain ⟨c3, hc3, hc3n⟩ : ∃ c3 : Nat, Hid (argSt s p = c3) ∧ ((c3 : Int) != 1) = true := ⟨_, rfl, by simp; omega⟩
          rw [hc3.out] at HA HR2 ha
          have HNA := hide ha
          clear ha hnk hle
          go_wp2_with fail
          refine (HA.out).mono ?_
          rintro e w2 ⟨rfl, j2, v2, L2, hj2, hp2, hq2⟩
          have HP2 := hide hp2
          clear hp2 hq2
          go_wp2
          go_ret
          rw [← HR2.out]
          exact ⟨rfl, HP2.out.bel, fun hx => absurd hx HNA.out⟩
      · have hke : n - k = 0 := by omega
        rw [hke] at HR
        clear hke
        go_wp2
        go_ret
        rw [← HR.out]
        exact ⟨rfl, HP.out.bel, fun _ => ⟨v', HP.out⟩⟩
  · obtain ⟨c3, hc3, hc3n⟩ : ∃ c3 : Nat, Hid (headM s 0 42 8 = c3) ∧ Hid (c3 ≠ 1) := ⟨_, rfl, h1⟩
    have hV : headV s 0 42 8 = 0 := by unfold headV; rw [if_neg h1]
    have hC : Hid (cRes s = (c3, 0, [])) := by show _ = _; unfold cRes; rw [if_neg h1, hc3.out]
    rw [hc3.out, hV] at HH
    clear h1 hV
    go_enter Tryd.func34, Tryd.ntmps34
    go_wp2_with fail
    refine (HH.out).mono ?_
    rintro e w1 ⟨rfl, j1, hj1, hp1, hq1⟩
    have HP1 := hide hp1
    clear hp1 hq1
    go_wp2_with fail
    go_loopw [4, 11] (fun st ii wr => st = .int .i64 (c3 : Int) ∧ ii = .int .i64 0 ∧ wr = w1) (fun _ _ _ => 0)
    case atStart => exact ⟨rfl, rfl, rfl⟩
    case round =>
      obtain ⟨rfl, rfl, rfl⟩ := hrel
      go_wp2
      go_ret
      rw [hC.out]
      exact ⟨rfl, HP1.out.bel, fun hx => absurd hx hc3n.out⟩
end Go.Proofs.YtdefipahgpljeaaDoor
