/- The specification's reader of a number with CR and LF behind it. -/
import Derived.Test.YtdefipahgpljeaaDoorReqP
import Derived.Test.YtdefipahgpljeaaDoorCutAt
namespace Go.Proofs.YtdefipahgpljeaaDoor
open Go.RowKit

/-- What is told of a number: itself and the place behind; -1: more bytes are wanted; -2: it is none. -/
def numRes (s : ByteArray) (i lim : Nat) : Int × Int := if headSt s i lim = 1 then ((numV s i : Int), ((figE s i + 2 : Nat) : Int)) else if headSt s i lim = 2 then (0, -2) else (0, -1)
theorem numRes_no {s : ByteArray} {i lim : Nat} (h : headSt s i lim = 2) : numRes s i lim = (0, -2) := by unfold numRes; rw [if_neg (by omega), if_pos h]
theorem numRes_more {s : ByteArray} {i lim : Nat} (h : headSt s i lim = 0) : numRes s i lim = (0, -1) := by unfold numRes; rw [if_neg (by omega), if_neg (by omega)]
theorem numRes_yes {s : ByteArray} {i lim : Nat} (h : headSt s i lim = 1) : numRes s i lim = ((numV s i : Int), ((figE s i + 2 : Nat) : Int)) := by unfold numRes; rw [if_pos h]
theorem head_bad {s : ByteArray} {i lim : Nat} (h : i < s.size) (hk : ¬ numOk s i lim) : headSt s i lim = 2 := by unfold headSt; rw [if_neg (by omega), if_neg hk]
theorem head_none {s : ByteArray} {i lim : Nat} (h : s.size ≤ i) : headSt s i lim = 0 := by unfold headSt; rw [if_pos h]
theorem head_crlf {s : ByteArray} {i lim : Nat} (h : i < s.size) (hk : numOk s i lim) : headSt s i lim = crlf s (figE s i) := by unfold headSt; rw [if_neg (by omega), if_pos hk]
theorem crlf_end {s : ByteArray} {j : Nat} (h : s.size ≤ j) : crlf s j = 0 := by unfold crlf; rw [if_pos h]
theorem crlf_cr {s : ByteArray} {j : Nat} (h : j < s.size) (hc : Wd.bt s j ≠ 13) : crlf s j = 2 := by unfold crlf; rw [if_neg (by omega), if_pos hc]
theorem crlf_end2 {s : ByteArray} {j : Nat} (h : j < s.size) (hc : Wd.bt s j = 13) (h2 : s.size ≤ j + 1) : crlf s j = 0 := by unfold crlf; rw [if_neg (by omega), if_neg (by omega), if_pos h2]
theorem crlf_lf {s : ByteArray} {j : Nat} (hc : Wd.bt s j = 13) (h2 : j + 1 < s.size) (hl : Wd.bt s (j + 1) ≠ 10) : crlf s j = 2 := by unfold crlf; rw [if_neg (by omega), if_neg (by omega), if_neg (by omega), if_pos hl]
theorem crlf_is {s : ByteArray} {j : Nat} (hc : Wd.bt s j = 13) (h2 : j + 1 < s.size) (hl : Wd.bt s (j + 1) = 10) : crlf s j = 1 := by unfold crlf; rw [if_neg (by omega), if_neg (by omega), if_neg (by omega), if_neg (by omega)]

set_option maxRecDepth 100000 in
set_option maxHeartbeats 4000000 in
theorem specNum_any (s : ByteArray) (i lim : Nat) (w : World) (hi : i ≤ s.size) (hz : s.size ≤ 1048576) :
    Calls Tryd.prog 24 #[.string s, .int .i64 i, .int .i64 lim] w fun e w' => e = .returned (.tuple #[.int .i64 (numRes s i lim).1, .int .i64 (numRes s i lim).2]) ∧ Below w.heap.size w w' := by
  go_enter Tryd.func24, Tryd.ntmps24
  go_wp2
  go_loop [8] (fun ii => ∃ k : Nat, i ≤ k ∧ k ≤ s.size ∧ ii = .int .i64 k ∧ Hid (figE s k = figE s i)) (fun ii => s.size - (intOf ii).toNat)
  case atStart => exact ⟨i, Nat.le_refl _, hi, rfl, rfl⟩
  case round =>
    obtain ⟨k, hik, hks, rfl, HE⟩ := hrel
    by_cases hfig : k < s.size ∧ 48 ≤ Wd.bt s k ∧ Wd.bt s k ≤ 57
    · obtain ⟨hlt, h1, h2⟩ := hfig
      have HE2 := hide ((figE_more hlt h1 h2).symm.trans HE.out)
      obtain ⟨c, hC, hct, hc256⟩ : ∃ c : Nat, Hid (Wd.bt s k = c) ∧ (s[k]'hlt).toNat = c ∧ c < 256 := ⟨_, rfl, Wd.bt_eq s k hlt, Wd.bt_lt s k⟩
      rw [hC.out] at h1 h2
      have h1' : decide (48 ≤ (c : Int)) = true := by simp; omega
      have h2' : decide ((c : Int) ≤ 57) = true := by simp; omega
      go_wp2
      go_round
      case rel => exact ⟨k + 1, by omega, by omega, by go_num, HE2⟩
      case measure => simp [intOf]; omega
    · have hE : Hid (k = figE s i) := (figE_stop hfig).symm.trans HE.out
      have hcut := cut_at s i k i k (numTx s i) rfl rfl hik hks (by rw [hE.out]; rfl)
      have hTs : Hid ((numTx s i).size = k - i) := by have := numTx_size s i hi; rw [← hE.out] at this; exact this
      have HF := hide hfig
      obtain ⟨n, hn, HN⟩ : ∃ n : Nat, (numTx s i).size = n ∧ Hid (n = k - i) := ⟨_, rfl, hTs⟩
      clear HE hTs
      by_cases hlt : k < s.size
      · have hlt' : decide ((k : Int) < (s.size : Int)) = true := by simp; omega
        have hks' : ((k : Int) == (s.size : Int)) = false := by rw [beq_eq_false_iff_ne]; omega
        obtain ⟨c, hC, hct, hc256⟩ : ∃ c : Nat, Hid (Wd.bt s k = c) ∧ (s[k]'hlt).toNat = c ∧ c < 256 := ⟨_, rfl, Wd.bt_eq s k hlt, Wd.bt_lt s k⟩
        have hway : (decide (48 ≤ (c : Int)) = false) ∨ (decide (48 ≤ (c : Int)) = true ∧ decide ((c : Int) ≤ 57) = false) := by
          have := HF.out; rw [hC.out] at this
          by_cases h : 48 ≤ c
          · exact .inr ⟨by simp; omega, by simp; omega⟩
          · exact .inl (by simp; omega)
        clear HF hfig
        rcases hway with hw1 | ⟨hw1, hw2⟩
        all_goals
          by_cases hA : 3 < n
          · have hA' : decide ((3 : Int) < (n : Int)) = true := by simp; omega
            have hr := hide (numRes_no (head_bad (lim := lim) (show i < s.size by have := HN.out; omega) (fun hk => by have := hk.2.1; omega)))
            go_wp2
            go_ret2
            rw [hr.out]
            exact ⟨rfl, Below.refl _ _⟩
          have hA' : decide ((3 : Int) < (n : Int)) = false := by simp; omega
          by_cases hn0 : n = 0
          · have hB' : decide ((1 : Int) < (n : Int)) = false := by simp; omega
            have hg := hide (show ¬ Wd.good (numTx s i) from fun hg => hg.1 (by omega))
            have hL' : decide ((lim : Int) < 0) = false := by simp
            have hN' : ((n : Int) == 0) = true := by rw [beq_iff_eq]; omega
            have hTz : (numTx s i).size ≤ 1048576 := by omega
            have hr := hide (numRes_no (head_bad (lim := lim) (show i < s.size by have := HN.out; omega) (fun hk => hk.1 (by omega))))
            go_wp2_with (go_at_call 39; refine (specDec_no (numTx s i) _ hTz hg.out).mono ?_; rintro e w1 ⟨rfl, hb1⟩)
            go_ret2
            rw [hr.out]
            exact ⟨rfl, hb1⟩
          have hN' : ((n : Int) == 0) = false := by rw [beq_eq_false_iff_ne]; omega
          have hTl : 0 < (numTx s i).size := by omega
          obtain ⟨d, hD, hdt, hd256⟩ : ∃ d : Nat, Hid (Wd.bt (numTx s i) 0 = d) ∧ ((numTx s i)[0]'hTl).toNat = d ∧ d < 256 := ⟨_, rfl, Wd.bt_eq _ 0 hTl, Wd.bt_lt _ 0⟩
          have hB' : (decide ((1 : Int) < (n : Int)) = true ∧ ((d : Int) == 48) = true ∧ Hid (¬ numOk s i lim)) ∨ (((decide ((1 : Int) < (n : Int)) = true ∧ ((d : Int) == 48) = false) ∨ decide ((1 : Int) < (n : Int)) = false) ∧ Hid ((numTx s i).size = 1 ∨ Wd.bt (numTx s i) 0 ≠ 48)) := by
            by_cases h1 : 1 < n
            · by_cases h2 : d = 48
              · exact .inl ⟨by simp; omega, by rw [beq_iff_eq]; omega, fun hk => hk.2.2.1.elim (fun h => by omega) (fun h => h (by rw [hD.out]; exact h2))⟩
              · exact .inr ⟨.inl ⟨by simp; omega, by rw [beq_eq_false_iff_ne]; omega⟩, .inr (by rw [hD.out]; exact h2)⟩
            · exact .inr ⟨.inr (by simp; omega), .inl (by omega)⟩
          rcases hB' with ⟨hB1, hB2, hno⟩ | ⟨hB', hlead⟩
          · skip
            have hr := hide (numRes_no (head_bad (lim := lim) (show i < s.size by have := HN.out; omega) hno.out))
            go_wp2
            go_ret2
            rw [hr.out]
            exact ⟨rfl, Below.refl _ _⟩
          have hgood := hide (num_good hi (by omega) (by omega) hlead.out)
          have hnd := hide (show n ≠ 0 from hn0)
          obtain ⟨m, hm⟩ : ∃ m : Nat, Hid (Wd.numF (numTx s i) (numTx s i).size = m) := ⟨_, rfl⟩
          have hmV : Hid (numV s i = m) := hm.out
          have hdec : ∀ W : World, Calls Tryd.prog 39 #[.string (numTx s i)] W fun e w' => e = .returned (.tuple #[.int .i64 (m : Int), .bool true]) ∧ Below W.heap.size W w' := by
            intro W; have h := specDec_yes (numTx s i) W hgood.out.1; rw [hm.out] at h; exact h
          have HDEC := hide hdec
          clear hdec
          have hm9 : m ≤ 999 := by have := hgood.out.2; rw [hmV.out] at this; exact this
          by_cases hM : lim < m
          · have hM' : decide ((lim : Int) < (m : Int)) = true := by simp; omega
            rcases hB' with ⟨hB1, hB2⟩ | hB1
            all_goals
              have hr := hide (numRes_no (head_bad (lim := lim) (show i < s.size by have := HN.out; omega) (fun hk => by have := hk.2.2.2; rw [hmV.out] at this; omega)))
              go_wp2_with (go_at_call 39; refine (HDEC.out _).mono ?_; rintro e w1 ⟨rfl, hb1⟩)
              go_ret2
              rw [hr.out]
              exact ⟨rfl, hb1⟩
          have hM' : decide ((lim : Int) < (m : Int)) = false := by simp; omega
          have hok := hide (show numOk s i lim from ⟨by omega, by omega, hlead.out, by rw [hmV.out]; omega⟩)
          have hcr := hide (head_crlf (show i < s.size by have := HN.out; omega) hok.out)
          rw [← hE.out] at hcr
          by_cases h13 : c = 13
          · have h13' : ((c : Int) != 13) = false := by simp; omega
            have hc13 := hide (show Wd.bt s k = 13 by rw [hC.out]; exact h13)
            clear h13
            by_cases hlt2 : k + 1 < s.size
            · have hk2 : (((k : Int) + 1) == (s.size : Int)) = false := by rw [beq_eq_false_iff_ne]; omega
              obtain ⟨b, hBB, hbt, hb256⟩ : ∃ b : Nat, Hid (Wd.bt s (k + 1) = b) ∧ (s[k + 1]'hlt2).toNat = b ∧ b < 256 := ⟨_, rfl, Wd.bt_eq s (k + 1) hlt2, Wd.bt_lt s (k + 1)⟩
              have hix : ∀ W : World, (Instr.index 9 (.string s) (.int .i64 ((k : Int) + 1))).run Tryd.prog W = .ok (.int .u8 (b : Int)) W := by
                exact idx_run s (k + 1) b hlt2 hbt
              by_cases h10 : b = 10
              · have h10' : ((b : Int) != 10) = false := by simp; omega
                rcases hB' with ⟨hB1, hB2⟩ | hB1
                all_goals
                  have hr := hide (numRes_yes (hcr.out.trans (crlf_is hc13.out hlt2 (by rw [hBB.out]; exact h10))))
                  rw [hmV.out, ← hE.out] at hr
                  go_wp2_with (go_at_call 39; refine (HDEC.out _).mono ?_; rintro e w1 ⟨rfl, hb1⟩)
                  go_ret2
                  rw [hr.out]
                  exact ⟨by go_num, hb1⟩
              · have h10' : ((b : Int) != 10) = true := by simp; omega
                rcases hB' with ⟨hB1, hB2⟩ | hB1
                all_goals
                  have hr := hide (numRes_no (hcr.out.trans (crlf_lf hc13.out hlt2 (by rw [hBB.out]; exact h10))))
                  go_wp2_with (go_at_call 39; refine (HDEC.out _).mono ?_; rintro e w1 ⟨rfl, hb1⟩)
                  go_ret2
                  rw [hr.out]
                  exact ⟨rfl, hb1⟩
            · have hk2 : (((k : Int) + 1) == (s.size : Int)) = true := by rw [beq_iff_eq]; omega
              rcases hB' with ⟨hB1, hB2⟩ | hB1
              all_goals
                have hr := hide (numRes_more (hcr.out.trans (crlf_end2 hlt hc13.out (by omega))))
                go_wp2_with (go_at_call 39; refine (HDEC.out _).mono ?_; rintro e w1 ⟨rfl, hb1⟩)
                go_ret2
                rw [hr.out]
                exact ⟨rfl, hb1⟩
          · have h13' : ((c : Int) != 13) = true := by simp; omega
            rcases hB' with ⟨hB1, hB2⟩ | hB1
            all_goals
              have hr := hide (numRes_no (hcr.out.trans (crlf_cr hlt (by rw [hC.out]; exact h13))))
              go_wp2_with (go_at_call 39; refine (HDEC.out _).mono ?_; rintro e w1 ⟨rfl, hb1⟩)
              go_ret2
              rw [hr.out]
              exact ⟨rfl, hb1⟩
      · have hlt' : decide ((k : Int) < (s.size : Int)) = false := by simp; omega
        have hks' : ((k : Int) == (s.size : Int)) = true := by rw [beq_iff_eq]; omega
        clear HF hfig
        by_cases hA : 3 < n
        · have hA' : decide ((3 : Int) < (n : Int)) = true := by simp; omega
          have hr := hide (numRes_no (head_bad (lim := lim) (show i < s.size by have := HN.out; omega) (fun hk => by have := hk.2.1; omega)))
          go_wp2
          go_ret2
          rw [hr.out]
          exact ⟨rfl, Below.refl _ _⟩
        have hA' : decide ((3 : Int) < (n : Int)) = false := by simp; omega
        by_cases hn0 : n = 0
        · have hB' : decide ((1 : Int) < (n : Int)) = false := by simp; omega
          have hg := hide (show ¬ Wd.good (numTx s i) from fun hg => hg.1 (by omega))
          have hL' : decide ((lim : Int) < 0) = false := by simp
          have hN' : ((n : Int) == 0) = true := by rw [beq_iff_eq]; omega
          have hTz : (numTx s i).size ≤ 1048576 := by omega
          have hr := hide (numRes_more (head_none (lim := lim) (show s.size ≤ i by have := HN.out; omega)))
          go_wp2_with (go_at_call 39; refine (specDec_no (numTx s i) _ hTz hg.out).mono ?_; rintro e w1 ⟨rfl, hb1⟩)
          go_ret2
          rw [hr.out]
          exact ⟨rfl, hb1⟩
        have hN' : ((n : Int) == 0) = false := by rw [beq_eq_false_iff_ne]; omega
        have hTl : 0 < (numTx s i).size := by omega
        obtain ⟨d, hD, hdt, hd256⟩ : ∃ d : Nat, Hid (Wd.bt (numTx s i) 0 = d) ∧ ((numTx s i)[0]'hTl).toNat = d ∧ d < 256 := ⟨_, rfl, Wd.bt_eq _ 0 hTl, Wd.bt_lt _ 0⟩
        have hB' : (decide ((1 : Int) < (n : Int)) = true ∧ ((d : Int) == 48) = true ∧ Hid (¬ numOk s i lim)) ∨ (((decide ((1 : Int) < (n : Int)) = true ∧ ((d : Int) == 48) = false) ∨ decide ((1 : Int) < (n : Int)) = false) ∧ Hid ((numTx s i).size = 1 ∨ Wd.bt (numTx s i) 0 ≠ 48)) := by
          by_cases h1 : 1 < n
          · by_cases h2 : d = 48
            · exact .inl ⟨by simp; omega, by rw [beq_iff_eq]; omega, fun hk => hk.2.2.1.elim (fun h => by omega) (fun h => h (by rw [hD.out]; exact h2))⟩
            · exact .inr ⟨.inl ⟨by simp; omega, by rw [beq_eq_false_iff_ne]; omega⟩, .inr (by rw [hD.out]; exact h2)⟩
          · exact .inr ⟨.inr (by simp; omega), .inl (by omega)⟩
        rcases hB' with ⟨hB1, hB2, hno⟩ | ⟨hB', hlead⟩
        · skip
          have hr := hide (numRes_no (head_bad (lim := lim) (show i < s.size by have := HN.out; omega) hno.out))
          go_wp2
          go_ret2
          rw [hr.out]
          exact ⟨rfl, Below.refl _ _⟩
        have hgood := hide (num_good hi (by omega) (by omega) hlead.out)
        have hnd := hide (show n ≠ 0 from hn0)
        obtain ⟨m, hm⟩ : ∃ m : Nat, Hid (Wd.numF (numTx s i) (numTx s i).size = m) := ⟨_, rfl⟩
        have hmV : Hid (numV s i = m) := hm.out
        have hdec : ∀ W : World, Calls Tryd.prog 39 #[.string (numTx s i)] W fun e w' => e = .returned (.tuple #[.int .i64 (m : Int), .bool true]) ∧ Below W.heap.size W w' := by
          intro W; have h := specDec_yes (numTx s i) W hgood.out.1; rw [hm.out] at h; exact h
        have HDEC := hide hdec
        clear hdec
        have hm9 : m ≤ 999 := by have := hgood.out.2; rw [hmV.out] at this; exact this
        by_cases hM : lim < m
        · have hM' : decide ((lim : Int) < (m : Int)) = true := by simp; omega
          rcases hB' with ⟨hB1, hB2⟩ | hB1
          all_goals
            have hr := hide (numRes_no (head_bad (lim := lim) (show i < s.size by have := HN.out; omega) (fun hk => by have := hk.2.2.2; rw [hmV.out] at this; omega)))
            go_wp2_with (go_at_call 39; refine (HDEC.out _).mono ?_; rintro e w1 ⟨rfl, hb1⟩)
            go_ret2
            rw [hr.out]
            exact ⟨rfl, hb1⟩
        have hM' : decide ((lim : Int) < (m : Int)) = false := by simp; omega
        have hok := hide (show numOk s i lim from ⟨by omega, by omega, hlead.out, by rw [hmV.out]; omega⟩)
        have hcr := hide (head_crlf (show i < s.size by have := HN.out; omega) hok.out)
        rw [← hE.out] at hcr
        rcases hB' with ⟨hB1, hB2⟩ | hB1
        all_goals
          have hr := hide (numRes_more (hcr.out.trans (crlf_end (by omega))))
          go_wp2_with (go_at_call 39; refine (HDEC.out _).mono ?_; rintro e w1 ⟨rfl, hb1⟩)
          go_ret2
          rw [hr.out]
          exact ⟨rfl, hb1⟩
end Go.Proofs.YtdefipahgpljeaaDoor
