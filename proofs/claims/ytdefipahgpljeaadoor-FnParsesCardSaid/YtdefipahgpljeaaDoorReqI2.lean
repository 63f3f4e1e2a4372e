/- The program's parser: what it expects, numbers, heads, arguments. -/
import Derived.Test.YtdefipahgpljeaaDoorReqI1
import Derived.Test.YtdefipahgpljeaaDoorClone
namespace Go.Proofs.YtdefipahgpljeaaDoor
open Go.RowKit

/-- The first k bytes of t stand at a place. -/
def Fits (s : ByteArray) (i : Nat) (t : ByteArray) (k : Nat) : Prop := ∀ j, j < k → i + j < s.size ∧ Wd.bt s (i + j) = Wd.bt t j
theorem fits_more {s t : ByteArray} {i k : Nat} (h : Fits s i t k) (h1 : i + k < s.size) (h2 : Wd.bt s (i + k) = Wd.bt t k) : Fits s i t (k + 1) := by
  intro j hj
  by_cases e : j = k
  · subst e; exact ⟨h1, h2⟩
  · exact h j (by omega)

set_option maxRecDepth 100000 in
set_option maxHeartbeats 1000000 in
theorem expect_any (w0 w : World) (g : Nat) (s t : ByteArray) (i : Nat) (v : Value) (L : List ByteArray) (hz : s.size ≤ 1048576) (hi : i ≤ s.size) (ht : t.size ≤ 2) (h : PS w0 w g s i v L) :
    Calls Tryd.prog 53 #[.pointer (some ⟨g, 0, none⟩), .string t] w fun e w' => ∃ k, k ≤ t.size ∧ Fits s i t k ∧ i + k ≤ s.size ∧
      ((e = .returned (.int .i64 0) ∧ k < t.size ∧ s.size ≤ i + k ∧ PS w0 w' g s (i + k) v L) ∨ (e = .returned (.int .i64 2) ∧ k < t.size ∧ i + k < s.size ∧ Wd.bt s (i + k) ≠ Wd.bt t k ∧ PS w0 w' g s (i + k + 1) v L) ∨ (e = .returned (.int .i64 1) ∧ k = t.size ∧ PS w0 w' g s (i + k) v L)) := by
  have HP := hide h
  clear h
  go_enter Tryd.func53, Tryd.ntmps53
  go_wp2_with fail
  go_loopw [10] (fun ii wr => ∃ k : Nat, k ≤ t.size ∧ i + k ≤ s.size ∧ ii = .int .i64 k ∧ Hid (Fits s i t k) ∧ Hid (PS w0 wr g s (i + k) v L)) (fun ii _ => t.size - (intOf ii).toNat)
  case atStart => exact ⟨0, Nat.zero_le _, hi, rfl, fun j hj => absurd hj (by omega), HP⟩
  case round =>
    obtain ⟨k, hk, hik, rfl, HF, HR⟩ := hrel
    by_cases hlt : k < t.size
    · by_cases hend : i + k < s.size
      · have hT := hide (take_yes w0 wr g s (i + k) 1 v L hz (by omega) HR.out)
        obtain ⟨x, hx, hxz, hx0⟩ : ∃ x : ByteArray, Hid (s.extract (i + k) (i + k + 1) = x) ∧ Hid (x.size = 1) ∧ Hid (Wd.bt x 0 = Wd.bt s (i + k)) :=
          ⟨_, rfl, by show _ = _; rw [ByteArray.size_extract]; omega, by show _ = _; rw [bt_cut s (i + k) (i + k + 1) 0 (by omega) (by omega), Nat.add_zero]⟩
        have hx1 : 0 < x.size := by rw [hxz.out]; exact Nat.one_pos
        obtain ⟨b, hB, hbt, hb256⟩ : ∃ b : Nat, Hid (Wd.bt s (i + k) = b) ∧ (x[0]'hx1).toNat = b ∧ b < 256 := ⟨_, rfl, by rw [Wd.bt_eq x 0 hx1]; exact hx0.out, Wd.bt_lt _ _⟩
        obtain ⟨c, hC, hct, hc256⟩ : ∃ c : Nat, Hid (Wd.bt t k = c) ∧ (t[k]'hlt).toNat = c ∧ c < 256 := ⟨_, rfl, Wd.bt_eq t k hlt, Wd.bt_lt t k⟩
        have hidx := idx_run x 0 b hx1 hbt
        have hidt := idx_run t k c hlt hct
        by_cases hbc : b = c
        · have hbc' : ((b : Int) != (c : Int)) = false := by simp; omega
          have HF2 := hide (fits_more HF.out hend (by rw [hB.out, hC.out]; exact hbc))
          clear hbc
          go_wp2_with fail
          refine (hT.out).mono ?_
          rw [hx.out]
          rintro e w1 ⟨rfl, hp1⟩
          have HP1 := hide hp1
          clear hp1
          go_wp2_with fail
          go_quiet (fail)
          go_wp2_with fail
          go_roundw
          case rel => exact ⟨k + 1, by omega, by omega, by go_num, HF2, ps_drew HP1.out _⟩
          case measure => simp [intOf]; omega
        · have hbc' : ((b : Int) != (c : Int)) = true := by simp; omega
          have hne := hide (show Wd.bt s (i + k) ≠ Wd.bt t k by rw [hB.out, hC.out]; exact hbc)
          clear hbc
          go_wp2_with fail
          refine (hT.out).mono ?_
          rw [hx.out]
          rintro e w1 ⟨rfl, hp1⟩
          have HP1 := hide hp1
          clear hp1
          go_wp2_with fail
          go_quiet (fail)
          go_wp2
          go_ret
          exact ⟨k, by omega, HF.out, by omega, .inr (.inl ⟨rfl, hlt, hend, hne.out, ps_drew HP1.out _⟩)⟩
      · have hT := hide (take_no w0 wr g s (i + k) 1 v L hz hik (by omega) HR.out)
        go_wp2_with fail
        refine (hT.out).mono ?_
        rintro e w1 ⟨rfl, hp1⟩
        have HP1 := hide hp1
        clear hp1
        go_wp2
        go_ret
        exact ⟨k, by omega, HF.out, hik, .inl ⟨rfl, hlt, by omega, HP1.out⟩⟩
    · go_wp2
      go_ret
      exact ⟨k, hk, HF.out, hik, .inr (.inr ⟨rfl, by omega, HR.out⟩)⟩

/-- A byte that is expected. -/
def oneSt (s : ByteArray) (i c : Nat) : Nat := if s.size ≤ i then 0 else if Wd.bt s i ≠ c then 2 else 1
theorem expect_one (w0 w : World) (g : Nat) (s : ByteArray) (b : UInt8) (i : Nat) (v : Value) (L : List ByteArray) (hz : s.size ≤ 1048576) (hi : i ≤ s.size) (h : PS w0 w g s i v L) :
    Calls Tryd.prog 53 #[.pointer (some ⟨g, 0, none⟩), .string ⟨#[b]⟩] w fun e w' => e = .returned (.int .i64 (oneSt s i b.toNat : Int)) ∧ ∃ j, j ≤ s.size ∧ PS w0 w' g s j v L ∧ (oneSt s i b.toNat = 1 → j = i + 1 ∧ i < s.size) := by
  refine (expect_any w0 w g s ⟨#[b]⟩ i v L hz hi (by show 1 ≤ 2; omega) h).mono ?_
  have hb0 : Wd.bt ⟨#[b]⟩ 0 = b.toNat := rfl
  have hsz : (⟨#[b]⟩ : ByteArray).size = 1 := rfl
  rintro e w' ⟨k, hk, hF, hks, ⟨rfl, h1, h2, hp⟩ | ⟨rfl, h1, h2, h3, hp⟩ | ⟨rfl, h1, hp⟩⟩
  · have hk0 : k = 0 := by omega
    subst hk0
    have e : oneSt s i b.toNat = 0 := by unfold oneSt; rw [if_pos (by omega)]
    rw [e]
    exact ⟨rfl, _, by omega, hp, fun h => by cases h⟩
  · have hk0 : k = 0 := by omega
    subst hk0
    have e : oneSt s i b.toNat = 2 := by unfold oneSt; rw [if_neg (by omega), if_pos (by rw [← hb0]; exact h3)]
    rw [e]
    exact ⟨rfl, _, by omega, hp, fun h => by cases h⟩
  · have hk0 : k = 1 := by omega
    subst hk0
    have h4 := hF 0 (by omega)
    have e : oneSt s i b.toNat = 1 := by unfold oneSt; rw [if_neg (by omega), if_neg (by rw [← hb0]; exact fun hx => hx h4.2)]
    rw [e]
    exact ⟨rfl, _, by omega, hp, fun _ => ⟨rfl, by omega⟩⟩
theorem expect_crlf (w0 w : World) (g : Nat) (s : ByteArray) (i : Nat) (v : Value) (L : List ByteArray) (hz : s.size ≤ 1048576) (hi : i ≤ s.size) (h : PS w0 w g s i v L) :
    Calls Tryd.prog 53 #[.pointer (some ⟨g, 0, none⟩), .string ⟨#[13, 10]⟩] w fun e w' => e = .returned (.int .i64 (crlf s i : Int)) ∧ ∃ j, j ≤ s.size ∧ PS w0 w' g s j v L ∧ (crlf s i = 1 → j = i + 2) := by
  refine (expect_any w0 w g s ⟨#[13, 10]⟩ i v L hz hi (by decide) h).mono ?_
  have hb0 : Wd.bt ⟨#[13, 10]⟩ 0 = 13 := rfl
  have hb1 : Wd.bt ⟨#[13, 10]⟩ 1 = 10 := rfl
  have hsz : (⟨#[13, 10]⟩ : ByteArray).size = 2 := rfl
  rintro e w' ⟨k, hk, hF, hks, ⟨rfl, h1, h2, hp⟩ | ⟨rfl, h1, h2, h3, hp⟩ | ⟨rfl, h1, hp⟩⟩
  · rcases (show k = 0 ∨ k = 1 by omega) with rfl | rfl
    · have e := crlf_end (s := s) (j := i) (by omega)
      rw [e]
      exact ⟨rfl, _, by omega, hp, fun h => by cases h⟩
    · have h4 := hF 0 (by omega)
      have e := crlf_end2 (s := s) (j := i) h4.1 (by rw [← hb0]; exact h4.2) (by omega)
      rw [e]
      exact ⟨rfl, _, by omega, hp, fun h => by cases h⟩
  · rcases (show k = 0 ∨ k = 1 by omega) with rfl | rfl
    · have e := crlf_cr (s := s) (j := i) (by omega) (by rw [← hb0]; exact h3)
      rw [e]
      exact ⟨rfl, _, by omega, hp, fun h => by cases h⟩
    · have h4 := hF 0 (by omega)
      have e := crlf_lf (s := s) (j := i) (by rw [← hb0]; exact h4.2) (by omega) (by rw [← hb1]; exact h3)
      rw [e]
      exact ⟨rfl, _, by omega, hp, fun h => by cases h⟩
  · have hk0 : k = 2 := by omega
    subst hk0
    have h4 := hF 0 (by omega)
    have h5 := hF 1 (by omega)
    have e := crlf_is (s := s) (j := i) (by rw [← hb0]; exact h4.2) h5.1 (by rw [← hb1]; exact h5.2)
    rw [e]
    exact ⟨rfl, _, by omega, hp, fun _ => rfl⟩

/-- A number: whether it may still come (0), stands there (1), or is none (2). -/
def numSt (s : ByteArray) (i lim : Nat) : Nat := if s.size ≤ i then 0 else if numOk s i lim then 1 else 2
def numSV (s : ByteArray) (i lim : Nat) : Nat := if numSt s i lim = 1 then numV s i else 0
set_option maxRecDepth 100000 in
set_option maxHeartbeats 1000000 in
theorem number_any (w0 w : World) (g : Nat) (s : ByteArray) (i lim : Nat) (v : Value) (L : List ByteArray) (hz : s.size ≤ 1048576) (hi : i ≤ s.size) (hl : lim ≤ 999) (h : PS w0 w g s i v L) :
    Calls Tryd.prog 54 #[.pointer (some ⟨g, 0, none⟩), .int .i64 (lim : Int)] w fun e w' => e = .returned (.tuple #[.int .i64 (numSV s i lim : Int), .int .i64 (numSt s i lim : Int)]) ∧ ∃ j, j ≤ s.size ∧ PS w0 w' g s j v L ∧ (numSt s i lim = 1 → j = figE s i) := by
  have HP := hide h
  have HL := hide (left_any w g s i v hz hi h.prs)
  clear h
  by_cases hlt : i < s.size
  · have hm : (((s.size - i : Nat) : Int) == 0) = false := by rw [beq_eq_false_iff_ne]; omega
    have HT := hide (fun q => takeFigures_any w0 (w.drewN q) g s i v L hz hi (ps_drew HP.out q))
    have hTz : (numTx s i).size ≤ 1048576 := by have := numTx_size s i hi; have := figE_le s i hi; omega
    have hfe := figE_le s i hi
    by_cases hg : Wd.good (numTx s i)
    · have HD := hide (fun W => implDec_yes (numTx s i) W hg)
      obtain ⟨n, hn, hn9⟩ : ∃ n : Nat, Hid (numV s i = n) ∧ n ≤ 1000000000 := ⟨_, rfl, hg.2.2.2.2⟩
      rw [show Wd.numF (numTx s i) (numTx s i).size = n from hn.out] at HD
      by_cases hnl : lim < n
      · have hnl' : decide ((lim : Int) < (n : Int)) = true := by simp; omega
        have hst : Hid (numSt s i lim = 2) := by show _ = _; unfold numSt; rw [if_neg (by omega), if_neg (fun hk => by have := hk.2.2.2; rw [hn.out] at this; omega)]
        have hsv : Hid (numSV s i lim = 0) := by show _ = _; unfold numSV; rw [hst.out]; rfl
        clear hg
        go_enter Tryd.func54, Tryd.ntmps54
        go_wp2_with fail
        refine (HL.out).mono ?_
        rintro e w1 ⟨rfl, q, rfl⟩
        go_wp2_with fail
        refine (HT.out q).mono ?_
        rintro e w2 ⟨rfl, hp2⟩
        have HP2 := hide hp2
        clear hp2
        go_wp2_with fail
        refine (HD.out _).mono ?_
        rintro e w3 ⟨rfl, hb3⟩
        have HP3 := hide (ps_below HP2.out hb3)
        clear hb3
        go_wp2
        go_ret2
        rw [hst.out, hsv.out]
        exact ⟨rfl, _, hfe, HP3.out, fun h => by cases h⟩
      · have hnl' : decide ((lim : Int) < (n : Int)) = false := by simp; omega
        have hok : numOk s i lim := Decidable.byContradiction fun hk => by have := num_bad hi hl hk hg; rw [hn.out] at this; omega
        have hst : Hid (numSt s i lim = 1) := by show _ = _; unfold numSt; rw [if_neg (by omega), if_pos hok]
        have hsv : Hid (numSV s i lim = n) := by show _ = _; unfold numSV; rw [if_pos hst.out]; exact hn.out
        clear hg hok
        go_enter Tryd.func54, Tryd.ntmps54
        go_wp2_with fail
        refine (HL.out).mono ?_
        rintro e w1 ⟨rfl, q, rfl⟩
        go_wp2_with fail
        refine (HT.out q).mono ?_
        rintro e w2 ⟨rfl, hp2⟩
        have HP2 := hide hp2
        clear hp2
        go_wp2_with fail
        refine (HD.out _).mono ?_
        rintro e w3 ⟨rfl, hb3⟩
        have HP3 := hide (ps_below HP2.out hb3)
        clear hb3
        go_wp2
        go_ret2
        rw [hst.out, hsv.out]
        exact ⟨rfl, _, hfe, HP3.out, fun _ => rfl⟩
    · have HD := hide (fun W => implDec_no (numTx s i) W hTz hg)
      have hst : Hid (numSt s i lim = 2) := by show _ = _; unfold numSt; rw [if_neg (by omega), if_neg (fun hk => hg (numOk_good hi hk))]
      have hsv : Hid (numSV s i lim = 0) := by show _ = _; unfold numSV; rw [hst.out]; rfl
      clear hg
      go_enter Tryd.func54, Tryd.ntmps54
      go_wp2_with fail
      refine (HL.out).mono ?_
      rintro e w1 ⟨rfl, q, rfl⟩
      go_wp2_with fail
      refine (HT.out q).mono ?_
      rintro e w2 ⟨rfl, hp2⟩
      have HP2 := hide hp2
      clear hp2
      go_wp2_with fail
      refine (HD.out _).mono ?_
      rintro e w3 ⟨rfl, hb3⟩
      have HP3 := hide (ps_below HP2.out hb3)
      clear hb3
      go_wp2
      go_ret2
      rw [hst.out, hsv.out]
      exact ⟨rfl, _, hfe, HP3.out, fun h => by cases h⟩
  · have hm : (((s.size - i : Nat) : Int) == 0) = true := by rw [beq_iff_eq]; omega
    have hst : Hid (numSt s i lim = 0) := by show _ = _; unfold numSt; rw [if_pos (by omega)]
    have hsv : Hid (numSV s i lim = 0) := by show _ = _; unfold numSV; rw [hst.out]; rfl
    go_enter Tryd.func54, Tryd.ntmps54
    go_wp2_with fail
    refine (HL.out).mono ?_
    rintro e w1 ⟨rfl, q, rfl⟩
    go_wp2
    go_ret2
    rw [hst.out, hsv.out]
    exact ⟨rfl, _, hi, ps_drew HP.out _, fun h => by cases h⟩

/-- A mark, a number, CR and LF. -/
def headM (s : ByteArray) (i c lim : Nat) : Nat := if oneSt s i c ≠ 1 then oneSt s i c else headSt s (i + 1) lim
def headV (s : ByteArray) (i c lim : Nat) : Nat := if headM s i c lim = 1 then numV s (i + 1) else 0
theorem head_num (s : ByteArray) (i lim : Nat) : headSt s i lim = if numSt s i lim ≠ 1 then numSt s i lim else crlf s (figE s i) := by
  unfold headSt numSt
  by_cases h1 : s.size ≤ i
  · rw [if_pos h1, if_pos h1]; rfl
  · rw [if_neg h1, if_neg h1]
    by_cases h2 : numOk s i lim
    · rw [if_pos h2, if_pos h2, if_neg (by decide)]
    · rw [if_neg h2, if_neg h2]; rfl
set_option maxRecDepth 100000 in
set_option maxHeartbeats 1000000 in
theorem head_any (w0 w : World) (g : Nat) (s : ByteArray) (b : UInt8) (i lim : Nat) (v : Value) (L : List ByteArray) (hz : s.size ≤ 1048576) (hi : i ≤ s.size) (hl : lim ≤ 999) (h : PS w0 w g s i v L) :
    Calls Tryd.prog 43 #[.pointer (some ⟨g, 0, none⟩), .string ⟨#[b]⟩, .int .i64 (lim : Int)] w fun e w' => e = .returned (.tuple #[.int .i64 (headV s i b.toNat lim : Int), .int .i64 (headM s i b.toNat lim : Int)]) ∧ ∃ j, j ≤ s.size ∧ PS w0 w' g s j v L ∧ (headM s i b.toNat lim = 1 → j = figE s (i + 1) + 2) := by
  have HE := hide (expect_one w0 w g s b i v L hz hi h)
  clear h
  by_cases h1 : oneSt s i b.toNat = 1
  · have hM : Hid (headM s i b.toNat lim = headSt s (i + 1) lim) := by show _ = _; unfold headM; rw [if_neg (fun hx => hx h1)]
    rw [h1] at HE
    have hi1 : i < s.size := by unfold oneSt at h1; split at h1; · cases h1
                                omega
    by_cases h2 : numSt s (i + 1) lim = 1
    · have hM2 : Hid (headM s i b.toNat lim = crlf s (figE s (i + 1))) := by show _ = _; rw [hM.out, head_num, if_neg (fun hx => hx h2)]
      have hV : Hid (numSV s (i + 1) lim = numV s (i + 1)) := by show _ = _; unfold numSV; rw [if_pos h2]
      have hfe := figE_le s (i + 1) (by omega)
      by_cases h3 : crlf s (figE s (i + 1)) = 1
      · have hM3 : Hid (headM s i b.toNat lim = 1) := hM2.out.trans h3
        have hV3 : Hid (headV s i b.toNat lim = numV s (i + 1)) := by show _ = _; unfold headV; rw [if_pos hM3.out]
        go_enter Tryd.func43, Tryd.ntmps43
        go_wp2_with fail
        refine (HE.out).mono ?_
        rintro e w1 ⟨rfl, j1, hj1, hp1, hq1⟩
        obtain ⟨rfl, -⟩ := hq1 (by trivial)
        have HN := hide (number_any w0 w1 g s (i + 1) lim v L hz hj1 hl hp1)
        rw [hV.out, h2] at HN
        clear hp1 hq1
        go_wp2_with fail
        refine (HN.out).mono ?_
        rintro e w2 ⟨rfl, j2, hj2, hp2, hq2⟩
        obtain rfl := hq2 (by trivial)
        have HX := hide (expect_crlf w0 w2 g s (figE s (i + 1)) v L hz hj2 hp2)
        rw [h3] at HX
        clear hp2 hq2
        go_wp2_with fail
        refine (HX.out).mono ?_
        rintro e w3 ⟨rfl, j3, hj3, hp3, hq3⟩
        have HP3 := hide hp3
        clear hp3
        go_wp2
        go_ret2
        rw [hV3.out, hM3.out]
        exact ⟨rfl, j3, hj3, HP3.out, fun _ => hq3 (by trivial)⟩
      · have hcle := crlf_le s (figE s (i + 1))
        obtain ⟨c3, hc3, hc3n⟩ : ∃ c3 : Nat, Hid (crlf s (figE s (i + 1)) = c3) ∧ ((c3 : Int) != 1) = true := ⟨_, rfl, by simp; omega⟩
        have hM3 : Hid (headM s i b.toNat lim = c3) := hM2.out.trans hc3.out
        have hV3 : Hid (headV s i b.toNat lim = 0) := by show _ = _; unfold headV; rw [if_neg (by rw [hM2.out]; exact h3)]
        go_enter Tryd.func43, Tryd.ntmps43
        go_wp2_with fail
        refine (HE.out).mono ?_
        rintro e w1 ⟨rfl, j1, hj1, hp1, hq1⟩
        obtain ⟨rfl, -⟩ := hq1 (by trivial)
        have HN := hide (number_any w0 w1 g s (i + 1) lim v L hz hj1 hl hp1)
        rw [hV.out, h2] at HN
        clear hp1 hq1
        go_wp2_with fail
        refine (HN.out).mono ?_
        rintro e w2 ⟨rfl, j2, hj2, hp2, hq2⟩
        obtain rfl := hq2 (by trivial)
        have HX := hide (expect_crlf w0 w2 g s (figE s (i + 1)) v L hz hj2 hp2)
        rw [hc3.out] at HX
        clear hp2 hq2
        go_wp2_with fail
        refine (HX.out).mono ?_
        rintro e w3 ⟨rfl, j3, hj3, hp3, hq3⟩
        have HP3 := hide hp3
        clear hp3
        go_wp2
        go_ret2
        rw [hV3.out, hM3.out]
        exact ⟨rfl, j3, hj3, HP3.out, fun hx => absurd (hc3.out.trans hx) h3⟩
    · obtain ⟨c3, hc3, hc3n⟩ : ∃ c3 : Nat, Hid (numSt s (i + 1) lim = c3) ∧ ((c3 : Int) != 1) = true := ⟨_, rfl, by simp; omega⟩
      have hM3 : Hid (headM s i b.toNat lim = c3) := by show _ = _; rw [hM.out, head_num, if_pos h2]; exact hc3.out
      have hV3 : Hid (headV s i b.toNat lim = 0) := by show _ = _; unfold headV; rw [if_neg (by rw [hM3.out, ← hc3.out]; exact h2)]
      go_enter Tryd.func43, Tryd.ntmps43
      go_wp2_with fail
      refine (HE.out).mono ?_
      rintro e w1 ⟨rfl, j1, hj1, hp1, hq1⟩
      obtain ⟨rfl, -⟩ := hq1 (by trivial)
      have HN := hide (number_any w0 w1 g s (i + 1) lim v L hz hj1 hl hp1)
      rw [hc3.out] at HN
      clear hp1 hq1
      go_wp2_with fail
      refine (HN.out).mono ?_
      rintro e w2 ⟨rfl, j2, hj2, hp2, hq2⟩
      have HP3 := hide hp2
      clear hp2
      go_wp2
      go_ret2
      rw [hV3.out, hM3.out]
      exact ⟨rfl, j2, hj2, HP3.out, fun hx => absurd (hc3.out.trans hx) h2⟩
  · obtain ⟨c3, hc3, hc3n⟩ : ∃ c3 : Nat, Hid (oneSt s i b.toNat = c3) ∧ ((c3 : Int) != 1) = true := ⟨_, rfl, by simp; omega⟩
    have hM3 : Hid (headM s i b.toNat lim = c3) := by show _ = _; unfold headM; rw [if_pos h1]; exact hc3.out
    have hV3 : Hid (headV s i b.toNat lim = 0) := by show _ = _; unfold headV; rw [if_neg (by rw [hM3.out, ← hc3.out]; exact h1)]
    rw [hc3.out] at HE
    go_enter Tryd.func43, Tryd.ntmps43
    go_wp2_with fail
    refine (HE.out).mono ?_
    rintro e w1 ⟨rfl, j1, hj1, hp1, hq1⟩
    have HP3 := hide hp1
    clear hp1
    go_wp2
    go_ret2
    rw [hV3.out, hM3.out]
    exact ⟨rfl, j1, hj1, HP3.out, fun hx => absurd (hc3.out.trans hx) h1⟩
end Go.Proofs.YtdefipahgpljeaaDoor
