import Derived.Test.YtnhfngpegmpcnamGreatDoorEn4
import Derived.Test.YtnhfngpegmpcnamGreatDoorEn10
import Derived.Test.YtnhfngpegmpcnamGreatDoorEn5
import Derived.Test.YtnhfngpegmpcnamGreatDoorEn9
set_option maxRecDepth 100000
set_option maxHeartbeats 1600000
namespace Go.Proofs.YtnhfngpegmpcnamGreatDoor
open Go.RowKit
theorem implRead_out (s : ByteArray) (i : Int) (w : World) (hs : s.size ≤ maxLen) (h : i < 0 ∨ (s.size : Int) < i) :
    Calls Tryz.prog 182 #[.string s, .int .i64 i] w fun e w' => e = .returned (rvAns none) ∧ w' = w := by
  unfold maxLen at hs
  rcases h with h | h
  · go_enter Tryz.func182, Tryz.ntmps182
    go_wp2
    go_ret3
    exact ⟨rfl, rfl⟩
  · have h' : ¬ i < 0 := by omega
    go_enter Tryz.func182, Tryz.ntmps182
    go_wp2
    go_ret3
    exact ⟨rfl, rfl⟩
theorem implRead_in (s : ByteArray) (i : Nat) (w : World) (hs : s.size ≤ maxLen) (h : i ≤ s.size) :
    Calls Tryz.prog 182 #[.string s, .int .i64 i] w fun e w' => e = .returned (rvAns (Wd.rv s i)) ∧ w' = w := by
  unfold maxLen at hs
  have h0 : decide ((i : Int) < 0) = false := by simp
  have h1 : decide ((s.size : Int) < (i : Int)) = false := by simp; omega
  go_enter Tryz.func182, Tryz.ntmps182
  go_wp2
  go_loop [7, 8, 9] (fun n q p => ∃ k f Q m P : Nat, n = .int .i64 m ∧ q = .int .i64 Q ∧ p = .int .i64 P ∧ P ≤ s.size ∧ Hid (Wd.rv s i = Wd.rvF s f P k Q m) ∧ Hid (P = i + k) ∧ ((k = 0 ∧ f = 5 ∧ Q = 1 ∧ m = 0) ∨ (k = 1 ∧ f = 4 ∧ Q = 128 ∧ m < 128) ∨ (k = 2 ∧ f = 3 ∧ Q = 16384 ∧ m < 16384) ∨ (k = 3 ∧ f = 2 ∧ Q = 2097152 ∧ m < 2097152) ∨ (k = 4 ∧ f = 1 ∧ Q = 268435456 ∧ m < 268435456) ∨ (k = 5 ∧ f = 0 ∧ Q = 34359738368 ∧ m < 34359738368))) (fun _ _ p => s.size - (intOf p).toNat)
  case atStart => exact ⟨0, 5, 1, 0, i, rfl, rfl, rfl, h, rfl, rfl, .inl ⟨rfl, rfl, rfl, rfl⟩⟩
  case round =>
    obtain ⟨k, f, Q, m, P, rfl, rfl, rfl, hP, hrv, hPk, hcase⟩ := hrel
    by_cases hlt : P < s.size
    · obtain ⟨b, hB, hbt, hb256⟩ : ∃ b : Nat, Hid (Wd.bt s P = b) ∧ (s[P]'hlt).toNat = b ∧ b < 256 := ⟨_, rfl, Wd.bt_eq s P hlt, Wd.bt_lt s P⟩
      by_cases hb : b < 128
      · by_cases hz : 0 < b
        · have hz' : decide (0 < (b : Int)) = true := by simp; omega
          rcases hcase with ⟨rfl, rfl, rfl, rfl⟩ | ⟨rfl, rfl, rfl, hm⟩ | ⟨rfl, rfl, rfl, hm⟩ | ⟨rfl, rfl, rfl, hm⟩ | ⟨rfl, rfl, rfl, hm⟩ | ⟨rfl, rfl, rfl, hm⟩
          case inr.inr.inr.inr.inr =>
            have hfin : Hid (Wd.rv s i = none) := hrv.out.trans rfl
            go_wp2
            go_ret3
            rw [hfin.out]
            exact ⟨rfl, rfl⟩
          case inr.inr.inr.inr.inl =>
            by_cases hn : m + b % 128 * 268435456 ≤ 1000000000
            · have hfin := hide (hrv.out.trans (Wd.rvF_lastB hB.out hlt hb hn (.inl hz)))
              go_wp2
              go_ret3
              rw [hfin.out]
              exact ⟨ret3 (by omega) (by omega), rfl⟩
            · have hfin := hide (hrv.out.trans (Wd.rvF_notB hB.out hb (fun h => hn h.1)))
              go_wp2
              go_ret3
              rw [hfin.out]
              exact ⟨rfl, rfl⟩
          all_goals
            have hfin := hide (hrv.out.trans (Wd.rvF_lastB hB.out hlt hb (by omega) (.inl hz)))
            go_wp2
            go_ret3
            rw [hfin.out]
            exact ⟨ret3 (by omega) (by omega), rfl⟩
        · have hz' : decide (0 < (b : Int)) = false := by simp; omega
          rcases hcase with ⟨rfl, rfl, rfl, rfl⟩ | ⟨rfl, rfl, rfl, hm⟩ | ⟨rfl, rfl, rfl, hm⟩ | ⟨rfl, rfl, rfl, hm⟩ | ⟨rfl, rfl, rfl, hm⟩ | ⟨rfl, rfl, rfl, hm⟩
          case inr.inr.inr.inr.inr =>
            have hfin : Hid (Wd.rv s i = none) := hrv.out.trans rfl
            go_wp2
            go_ret3
            rw [hfin.out]
            exact ⟨rfl, rfl⟩
          case inl =>
            have hfin := hide (hrv.out.trans (Wd.rvF_lastB hB.out hlt hb (by omega) (.inr rfl)))
            have hpi : ((P : Int) == (i : Int)) = true := by have := hPk.out; simp; omega
            go_wp2
            go_ret3
            rw [hfin.out]
            exact ⟨ret3 (by omega) (by omega), rfl⟩
          all_goals
            have hfin := hide (hrv.out.trans (Wd.rvF_notB hB.out hb (fun h => by have := h.2; omega)))
            have hpi : ((P : Int) == (i : Int)) = false := by have := hPk.out; simp; omega
            go_wp2
            go_ret3
            rw [hfin.out]
            exact ⟨rfl, rfl⟩
      · rcases hcase with ⟨rfl, rfl, rfl, rfl⟩ | ⟨rfl, rfl, rfl, hm⟩ | ⟨rfl, rfl, rfl, hm⟩ | ⟨rfl, rfl, rfl, hm⟩ | ⟨rfl, rfl, rfl, hm⟩ | ⟨rfl, rfl, rfl, hm⟩
        case inr.inr.inr.inr.inr =>
          have hfin : Hid (Wd.rv s i = none) := hrv.out.trans rfl
          go_wp2
          go_ret3
          rw [hfin.out]
          exact ⟨rfl, rfl⟩
        all_goals
          have hmore := hide (hrv.out.trans (Wd.rvF_moreB hB.out hlt hb))
          go_wp2
          go_round
          case rel =>
            refine ⟨_, _, _, _, P + 1, ?_, ?_, by go_num, by omega, hmore, by have := hPk.out; show _ = _; omega, ?_⟩
            · go_num
            · go_num
            · simp; try omega
          case measure => simp [intOf]; omega
    · have hfin : Hid (Wd.rv s i = none) := hrv.out.trans (Wd.rvF_end _ _ _ _ _ _ hlt)
      go_wp2
      go_ret3
      rw [hfin.out]
      exact ⟨rfl, rfl⟩
theorem implRead_any (s : ByteArray) (i : Int) (w : World) (hs : s.size ≤ 1048576) :
    Calls Tryz.prog 182 #[.string s, .int .i64 i] w fun e w' => e = .returned (rvAns (Wd.rvI s i)) ∧ w' = w := by
  by_cases h : i < 0 ∨ (s.size : Int) < i
  · rw [show Wd.rvI s i = none from if_pos h]
    exact implRead_out s i w (by unfold maxLen; omega) h
  · rw [show Wd.rvI s i = Wd.rv s i.toNat from if_neg h]
    obtain ⟨k, rfl⟩ := Int.eq_ofNat_of_zero_le (show 0 ≤ i by omega)
    exact implRead_in s k w (by unfold maxLen; omega) (by omega)
theorem implRead_some (s : ByteArray) (i : Int) (w : World) (a b : Nat) (hs : s.size ≤ 1048576) (h : Wd.rvI s i = some (a, b)) :
    Calls Tryz.prog 182 #[.string s, .int .i64 i] w fun e w' => e = .returned (.tuple #[.int .i64 a, .int .i64 b, .bool true]) ∧ w' = w := by
  have := implRead_any s i w hs; rw [h] at this; exact this
theorem implRead_none (s : ByteArray) (i : Int) (w : World) (hs : s.size ≤ 1048576) (h : Wd.rvI s i = none) :
    Calls Tryz.prog 182 #[.string s, .int .i64 i] w fun e w' => e = .returned (.tuple #[.int .i64 0, .int .i64 0, .bool false]) ∧ w' = w := by
  have := implRead_any s i w hs; rw [h] at this; exact this
theorem lenOk_yes (n : Nat) (w : World) (h1 : 1 ≤ n) (h2 : n ≤ 9000) :
    Calls Tryz.prog 100 #[.int .i64 n] w fun e w' => e = .returned (.bool true) ∧ w' = w := by
  have h1' : decide ((1 : Int) ≤ (n : Int)) = true := by simp; omega
  have h2' : decide ((n : Int) ≤ 9000) = true := by simp; omega
  go_enter Tryz.func100, Tryz.ntmps100
  go_wp2
  go_ret
  exact ⟨rfl, rfl⟩
theorem lenOk_no (n : Nat) (w : World) (h : n < 1 ∨ 9000 < n) :
    Calls Tryz.prog 100 #[.int .i64 n] w fun e w' => e = .returned (.bool false) ∧ w' = w := by
  rcases h with h | h
  · have h1' : decide ((1 : Int) ≤ (n : Int)) = false := by simp; omega
    go_enter Tryz.func100, Tryz.ntmps100
    go_wp2
    go_ret
    exact ⟨rfl, rfl⟩
  · have h1' : decide ((1 : Int) ≤ (n : Int)) = true := by simp; omega
    have h2' : decide ((n : Int) ≤ 9000) = false := by simp; omega
    go_enter Tryz.func100, Tryz.ntmps100
    go_wp2
    go_ret
    exact ⟨rfl, rfl⟩
theorem frame_yes (t : ByteArray) (w : World) (h1 : 1 ≤ t.size) (h2 : t.size ≤ 9000) (hT : SumTab w) :
    Calls Tryz.prog 65 #[.string t] w fun e w' => e = .returned (.tuple #[.string (frameB t), .bool true]) ∧ Below w.heap.size w w' := by
  have HT := hide hT
  have HE : Hid (frameB t = ⟨(Wd.varF 5 t.size).toArray⟩ ++ ⟨(four (sumB 4294967295 t)).toArray⟩ ++ t) := rfl
  have hlt := sumB_lt t
  have h4 : (four (sumB 4294967295 t)).length = 4 := rfl
  have hv := Wd.varF_len 5 t.size
  clear hT
  go_enter Tryz.func65, Tryz.ntmps65
  go_wp2_with (first | (go_at_call 100; refine (lenOk_yes t.size _ h1 h2).mono ?_; rintro e w0 ⟨rfl, rfl⟩) | (go_at_call 64; refine (implVar_yes t.size _ (by omega)).mono ?_; rintro e w1 ⟨rfl, b1⟩) | (go_at_call 101; refine (sumOf_any t _ (by omega) (sumTab_later b1 HT.out)).mono ?_; rintro e w2 ⟨rfl, rfl⟩) | (go_at_call 102; refine (inBytes_any _ _ hlt).mono ?_; rintro e w3 ⟨rfl, b3⟩))
  go_ret2
  rw [HE.out]
  exact ⟨rfl, b1.trans (b3.mono b1.size)⟩
theorem rvI_nat (s : ByteArray) (i : Nat) (h : i ≤ s.size) : Wd.rvI s (i : Int) = Wd.rv s i := by
  unfold Wd.rvI
  rw [if_neg (by omega), Int.toNat_natCast]
theorem frameAt_some (s : ByteArray) (i : Nat) (x : Nat × Nat) (w : World) (hs : s.size ≤ 20000) (hi : i ≤ s.size) (h : frB s i = some x) (hT : SumTab w) :
    Calls Tryz.prog 164 #[.string s, .int .i64 i] w fun e w' => e = .returned (.tuple #[.string (s.extract x.1 x.2), .int .i64 (x.2 : Int), .bool true]) ∧ Below w.heap.size w w' := by
  have HT := hide hT
  cases hr : Wd.rv s i with
  | none => rw [frB_num s i hr] at h; simp at h
  | some q =>
    obtain ⟨n, p⟩ := q
    have hb := Wd.rv_bounds s i n p hr
    by_cases hc : 1 ≤ n ∧ n ≤ 9000 ∧ p + 4 + n ≤ s.size ∧ s.extract p (p + 4) = ⟨(four (sumB 4294967295 (s.extract (p + 4) (p + 4 + n)))).toArray⟩
    · rw [frB_yes s i n p hr hc] at h
      simp only [Option.some.injEq] at h
      subst h
      obtain ⟨c1, c2, c3, c4⟩ := hc
      obtain ⟨R, hR⟩ : ∃ R, s.extract (p + 4) (p + 4 + n) = R := ⟨_, rfl⟩
      obtain ⟨T, hTx⟩ : ∃ T, s.extract p (p + 4) = T := ⟨_, rfl⟩
      have hRz : R.size ≤ 20000 := by rw [← hR, ByteArray.size_extract]; omega
      rw [hTx, hR] at c4
      have hcut1 := cut_at s (p + 4) (p + 4 + n) ((p : Int) + 4) ((p : Int) + 4 + n) R (by omega) (by omega) (by omega) c3 hR
      have hcut2 := cut_at s p (p + 4) (p : Int) ((p : Int) + 4) T rfl (by omega) (by omega) (by omega) hTx
      have hlt := sumB_lt R
      have heq : (four (sumB 4294967295 R) == T.toList) = true := by rw [c4, ByteArray.toList_eq]; exact beq_self_eq_true _
      have hread := hide (fun W => implRead_some s (i : Int) W n p (by omega) (by rw [rvI_nat s i hi]; exact hr))
      have HR := hide hR
      clear hT hr c4 hTx hR
      have hle : decide ((s.size : Int) - (p : Int) - 4 < (n : Int)) = false := by simp; omega
      go_enter Tryz.func164, Tryz.ntmps164
      go_wp2_with (first | (go_at_call 182; refine (hread.out _).mono ?_; rintro e w0 ⟨rfl, rfl⟩) | (go_at_call 100; refine (lenOk_yes n _ c1 c2).mono ?_; rintro e w1 ⟨rfl, rfl⟩))
      go_region_held3 (fun _ => True) (trivial) ((first | (go_at_call 101; refine (sumOf_any R _ (by omega) (by first | exact HT.out | exact sumTab_later ((Below.refl _ _).drew) HT.out)).mono ?_; rintro e w' ⟨rfl, rfl⟩) | (go_at_call 102; refine (inBytes_any _ _ hlt).mono ?_; rintro e w' ⟨rfl, b3⟩)))
      go_wp2
      go_ret3
      rw [HR.out]
      exact ⟨by simp, (Below.refl _ _).drew.trans b3⟩
    · rw [frB_no s i n p hr hc] at h; simp at h
theorem frameAt_none (s : ByteArray) (i : Nat) (w : World) (hs : s.size ≤ 20000) (hi : i ≤ s.size) (h : frB s i = none) (hT : SumTab w) :
    Calls Tryz.prog 164 #[.string s, .int .i64 i] w fun e w' => e = .returned (.tuple #[.string ⟨#[]⟩, .int .i64 0, .bool false]) ∧ Below w.heap.size w w' := by
  have HT := hide hT
  clear hT
  cases hr : Wd.rv s i with
  | none =>
    have hread := hide (fun W => implRead_none s (i : Int) W (by omega) (by rw [rvI_nat s i hi]; exact hr))
    clear hr h
    go_enter Tryz.func164, Tryz.ntmps164
    go_wp2_with (first | (go_at_call 182; refine (hread.out _).mono ?_; rintro e w0 ⟨rfl, rfl⟩))
    go_ret3
    exact ⟨rfl, Below.refl _ _⟩
  | some q =>
    obtain ⟨n, p⟩ := q
    have hb := Wd.rv_bounds s i n p hr
    have hread := hide (fun W => implRead_some s (i : Int) W n p (by omega) (by rw [rvI_nat s i hi]; exact hr))
    by_cases c12 : 1 ≤ n ∧ n ≤ 9000
    · by_cases c3 : p + 4 + n ≤ s.size
      · have c4 : ¬ s.extract p (p + 4) = ⟨(four (sumB 4294967295 (s.extract (p + 4) (p + 4 + n)))).toArray⟩ := fun c4 => by
          rw [frB_yes s i n p hr ⟨c12.1, c12.2, c3, c4⟩] at h; simp at h
        obtain ⟨c1, c2⟩ := c12
        obtain ⟨R, hR⟩ : ∃ R, s.extract (p + 4) (p + 4 + n) = R := ⟨_, rfl⟩
        obtain ⟨T, hTx⟩ : ∃ T, s.extract p (p + 4) = T := ⟨_, rfl⟩
        have hRz : R.size ≤ 20000 := by rw [← hR, ByteArray.size_extract]; omega
        rw [hTx, hR] at c4
        have hcut1 := cut_at s (p + 4) (p + 4 + n) ((p : Int) + 4) ((p : Int) + 4 + n) R (by omega) (by omega) (by omega) c3 hR
        have hcut2 := cut_at s p (p + 4) (p : Int) ((p : Int) + 4) T rfl (by omega) (by omega) (by omega) hTx
        have hlt := sumB_lt R
        have heq : (four (sumB 4294967295 R) == T.toList) = false := by
          rw [beq_eq_false_iff_ne, ByteArray.toList_eq]
          intro e
          exact c4 (ByteArray.ext (Array.toList_inj.1 e.symm))
        clear hr c4 hTx hR h
        have hle : decide ((s.size : Int) - (p : Int) - 4 < (n : Int)) = false := by simp; omega
        go_enter Tryz.func164, Tryz.ntmps164
        go_wp2_with (first | (go_at_call 182; refine (hread.out _).mono ?_; rintro e w0 ⟨rfl, rfl⟩) | (go_at_call 100; refine (lenOk_yes n _ c1 c2).mono ?_; rintro e w1 ⟨rfl, rfl⟩))
        go_region_held3 (fun _ => True) (trivial) ((first | (go_at_call 101; refine (sumOf_any R _ (by omega) (by first | exact HT.out | exact sumTab_later ((Below.refl _ _).drew) HT.out)).mono ?_; rintro e w' ⟨rfl, rfl⟩) | (go_at_call 102; refine (inBytes_any _ _ hlt).mono ?_; rintro e w' ⟨rfl, b3⟩)))
        go_wp2
        go_ret3
        exact ⟨rfl, (Below.refl _ _).drew.trans b3⟩
      · obtain ⟨c1, c2⟩ := c12
        have hle : decide ((s.size : Int) - (p : Int) - 4 < (n : Int)) = true := by simp; omega
        clear hr h
        go_enter Tryz.func164, Tryz.ntmps164
        go_wp2_with (first | (go_at_call 182; refine (hread.out _).mono ?_; rintro e w0 ⟨rfl, rfl⟩) | (go_at_call 100; refine (lenOk_yes n _ c1 c2).mono ?_; rintro e w1 ⟨rfl, rfl⟩))
        go_ret3
        exact ⟨rfl, Below.refl _ _⟩
    · have hno : n < 1 ∨ 9000 < n := by omega
      clear hr h
      go_enter Tryz.func164, Tryz.ntmps164
      go_wp2_with (first | (go_at_call 182; refine (hread.out _).mono ?_; rintro e w0 ⟨rfl, rfl⟩) | (go_at_call 100; refine (lenOk_no n _ hno).mono ?_; rintro e w1 ⟨rfl, rfl⟩))
      go_ret3
      exact ⟨rfl, Below.refl _ _⟩
theorem headOk_any (n f : Int) (b : Bool) (w : World) (h : decide (0 ≤ n ∧ n ≤ 99 ∧ 0 ≤ f ∧ f ≤ n) = b) : Calls Tryz.prog 63 #[.int .i64 n, .int .i64 f] w fun e w' => e = .returned (.bool b) ∧ w' = w := by
  by_cases h0 : 0 ≤ n ∧ n ≤ 99
  · have hb : (decide (0 ≤ n) && decide (n ≤ 99)) = true := by simp; omega
    by_cases h1 : 0 ≤ f
    · have h1' : decide (0 ≤ f) = true := by simp; omega
      have hr : decide (f ≤ n) = b := by rw [← h]; apply decide_eq_decide.2; omega
      go_enter Tryz.func63, Tryz.ntmps63
      go_wp2_with (first | (go_at_call 99; refine (right_any _ _ _ hb).mono ?_; rintro e w' ⟨rfl, rfl⟩))
      go_ret
      exact ⟨rfl, rfl⟩
    · have h1' : decide (0 ≤ f) = false := by simp; omega
      have hr : b = false := by rw [← h]; simp; omega
      subst hr
      go_enter Tryz.func63, Tryz.ntmps63
      go_wp2_with (first | (go_at_call 99; refine (right_any _ _ _ hb).mono ?_; rintro e w' ⟨rfl, rfl⟩))
      go_ret
      exact ⟨rfl, rfl⟩
  · have hb : (decide (0 ≤ n) && decide (n ≤ 99)) = false := by simp; omega
    have hr : b = false := by rw [← h]; simp; omega
    subst hr
    go_enter Tryz.func63, Tryz.ntmps63
    go_wp2_with (first | (go_at_call 99; refine (right_any _ _ _ hb).mono ?_; rintro e w' ⟨rfl, rfl⟩))
    go_ret
    exact ⟨rfl, rfl⟩
def headT (n f : Int) : ByteArray := if 0 ≤ n ∧ n ≤ 99 ∧ 0 ≤ f ∧ f ≤ n then frameB ⟨(headL n.toNat f.toNat).toArray⟩ else ⟨#[]⟩
theorem headT_in (n f : Nat) (h : n ≤ 99) (h' : f ≤ n) : headT n f = frameB ⟨(headL n f).toArray⟩ := by
  unfold headT
  rw [if_pos (by omega), Int.toNat_natCast, Int.toNat_natCast]
theorem headT_out (n f : Int) (h : ¬ (0 ≤ n ∧ n ≤ 99 ∧ 0 ≤ f ∧ f ≤ n)) : headT n f = ⟨#[]⟩ := by unfold headT; rw [if_neg h]
theorem headL_size (n f : Nat) : (⟨(headL n f).toArray⟩ : ByteArray).size = 1 + (Wd.varF 5 n).length + (Wd.varF 5 f).length := by
  show (headL n f).length = _
  unfold headL
  rw [List.length_append, List.length_append]
  rfl
theorem headL_cat (n f : Nat) : (⟨#[72]⟩ : ByteArray) ++ ⟨(Wd.varF 5 n).toArray⟩ ++ ⟨(Wd.varF 5 f).toArray⟩ = ⟨(headL n f).toArray⟩ := by
  apply ByteArray.ext
  apply Array.toList_inj.1
  simp [headL]
theorem implHeadText_any (n f : Int) (w : World) (hT : SumTab w) : Calls Tryz.prog 33 #[.int .i64 n, .int .i64 f] w fun e w' => e = .returned (.tuple #[.string (headT n f), .bool (decide (0 ≤ n ∧ n ≤ 99 ∧ 0 ≤ f ∧ f ≤ n))]) ∧ Below w.heap.size w w' := by
  have HT := hide hT
  clear hT
  by_cases h : 0 ≤ n ∧ n ≤ 99 ∧ 0 ≤ f ∧ f ≤ n
  · have hd : decide (0 ≤ n ∧ n ≤ 99 ∧ 0 ≤ f ∧ f ≤ n) = true := decide_eq_true h
    rw [hd]
    obtain ⟨n, rfl⟩ := Int.eq_ofNat_of_zero_le h.1
    obtain ⟨f, rfl⟩ := Int.eq_ofNat_of_zero_le h.2.2.1
    have hE := hide (headT_in n f (by omega) (by omega))
    have hC := hide (headL_cat n f)
    have v1 := Wd.varF_len 5 n
    have v2 := Wd.varF_len 5 f
    have hz := headL_size n f
    have hF := hide (fun W hW => frame_yes ⟨(headL n f).toArray⟩ W (by omega) (by omega) hW)
    clear hz
    go_enter Tryz.func33, Tryz.ntmps33
    go_wp2_with fail
    refine (headOk_any _ _ _ _ hd).mono ?_
    rintro e w0 ⟨rfl, rfl⟩
    go_wp2_with fail
    refine (implVar_yes n _ (by omega)).mono ?_
    rintro e w1 ⟨rfl, b1⟩
    go_wp2_with fail
    refine (implVar_yes f _ (by omega)).mono ?_
    rintro e w2 ⟨rfl, b2⟩
    go_wp2_with fail
    rw [hC.out]
    refine (hF.out _ (sumTab_later b2 (sumTab_later b1 HT.out))).mono ?_
    rintro e w3 ⟨rfl, b3⟩
    go_wp2
    go_ret2
    rw [hE.out]
    have b12 := b1.trans (b2.mono b1.size)
    exact ⟨rfl, b12.trans (b3.mono b12.size)⟩
  · have hd : decide (0 ≤ n ∧ n ≤ 99 ∧ 0 ≤ f ∧ f ≤ n) = false := decide_eq_false h
    rw [hd]
    have hE := hide (headT_out n f h)
    go_enter Tryz.func33, Tryz.ntmps33
    go_wp2_with (first | (go_at_call 63; refine (headOk_any _ _ _ _ hd).mono ?_; rintro e w0 ⟨rfl, rfl⟩))
    go_ret2
    rw [hE.out]
    exact ⟨rfl, Below.refl _ _⟩
theorem hasPrefix_any (s : ByteArray) (b : Bool) (w : World) (h : decide (s.extract 0 1 = ⟨#[72]⟩) = b) : Calls Tryz.prog 219 #[.string s, .string ⟨#[72]⟩] w fun e w' => e = .returned (.bool b) ∧ w' = w := by
  have S : ∀ W : World, Calls Tryz.prog 229 #[.string s, .string ⟨#[72]⟩] W fun e w' => e = .returned (.bool b) ∧ w' = W := by
    intro W
    by_cases hs : 1 ≤ s.size
    · have hs' : decide ((1 : Int) ≤ (s.size : Int)) = true := by simp; omega
      obtain ⟨R, hR⟩ : ∃ R, s.extract 0 1 = R := ⟨_, rfl⟩
      rw [hR] at h
      have hcut : ∀ W : World, (Instr.slice 9 (.string s) none (some (.int .i64 1)) none).run Tryz.prog W = .ok (.string R) W := by
        intro W
        subst hR
        rw [run_slice_string_to_if W 9 s .i64 1 Tryz.underlying9, if_pos (by omega)]
        rfl
      have heq : (R.toList == (⟨#[72]⟩ : ByteArray).toList) = b := by
        rw [← h]
        by_cases e : R = ⟨#[72]⟩
        · rw [txt_eq e, decide_eq_true e]
        · rw [txt_ne e, decide_eq_false e]
      have heq' : (R.toList == [72]) = b := by rw [← heq, ByteArray.toList_eq (⟨#[72]⟩ : ByteArray)]
      clear hR heq
      go_enter Tryz.func229, Tryz.ntmps229
      go_wp2
      go_ret
      exact ⟨rfl, rfl⟩
    · have hs' : decide ((1 : Int) ≤ (s.size : Int)) = false := by simp; omega
      have hb : b = false := by
        rw [← h]
        apply decide_eq_false
        intro e
        have := congrArg ByteArray.size e
        rw [ByteArray.size_extract] at this
        have e2 : (⟨#[72]⟩ : ByteArray).size = 1 := rfl
        omega
      subst hb
      go_enter Tryz.func229, Tryz.ntmps229
      go_wp2
      go_ret
      exact ⟨rfl, rfl⟩
  go_enter Tryz.func219, Tryz.ntmps219
  go_wp2_with (go_at_call 229; refine (S _).mono ?_; rintro e w' ⟨rfl, rfl⟩)
  go_ret
  exact ⟨rfl, rfl⟩
def hdAns (o : Option Nat) : Value := .tuple #[.int .i64 ((o.getD 0 : Nat) : Int), .bool o.isSome]
theorem headFrom_any (n : Int) (t : ByteArray) (w : World) (ht : t.size ≤ 1048576) : Calls Tryz.prog 198 #[.int .i64 n, .string t] w fun e w' => e = .returned (hdAns (hdFrom n t)) ∧ w' = w := by
  by_cases h72 : t.extract 0 1 = ⟨#[72]⟩
  · have hp := decide_eq_true h72
    have hz1 : 1 ≤ t.size := by
      have := congrArg ByteArray.size h72
      rw [ByteArray.size_extract] at this
      have e2 : (⟨#[72]⟩ : ByteArray).size = 1 := rfl
      omega
    cases hr : Wd.rv t 1 with
    | none =>
      have hE := hide (hd_none_num (n := n) hr)
      have hread := hide (fun W => implRead_none t 1 W (by omega) (by unfold Wd.rvI; rw [if_neg (by omega)]; exact hr))
      clear hr
      rw [hE.out]
      go_enter Tryz.func198, Tryz.ntmps198
      go_wp2_with (first | (go_at_call 219; refine (hasPrefix_any t _ _ hp).mono ?_; rintro e w' ⟨rfl, rfl⟩) | (go_at_call 182; refine (hread.out _).mono ?_; rintro e w' ⟨rfl, rfl⟩))
      go_ret2
      exact ⟨rfl, rfl⟩
    | some q =>
      obtain ⟨a, p⟩ := q
      have hb := Wd.rv_bounds t 1 a p hr
      have hread := hide (fun W => implRead_some t 1 W a p (by omega) (by unfold Wd.rvI; rw [if_neg (by omega)]; exact hr))
      by_cases hne : (a : Int) = n
      · have hne' : ((a : Int) != n) = false := by rw [bne_eq_false_iff_eq]; exact hne
        cases hr2 : Wd.rv t p with
        | none =>
          have hE := hide (hd_none_next (n := n) hr (fun f hf => by rw [hr2] at hf; simp at hf))
          have hread2 := hide (fun W => implRead_none t (p : Int) W (by omega) (by unfold Wd.rvI; rw [if_neg (by omega), Int.toNat_natCast]; exact hr2))
          clear hr hr2
          rw [hE.out]
          go_enter Tryz.func198, Tryz.ntmps198
          go_wp2_with fail
          refine (hasPrefix_any t _ _ hp).mono ?_
          rintro e w' ⟨rfl, rfl⟩
          go_wp2_with fail
          refine (hread.out _).mono ?_
          rintro e w' ⟨rfl, rfl⟩
          go_wp2_with fail
          refine (hread2.out _).mono ?_
          rintro e w' ⟨rfl, rfl⟩
          go_wp2
          go_ret2
          exact ⟨rfl, rfl⟩
        | some q =>
          obtain ⟨f, q⟩ := q
          have hb2 := Wd.rv_bounds t p f q hr2
          have hread2 := hide (fun W => implRead_some t (p : Int) W f q (by omega) (by unfold Wd.rvI; rw [if_neg (by omega), Int.toNat_natCast]; exact hr2))
          by_cases hq : q = t.size
          · have hq' : ((q : Int) != (t.size : Int)) = false := by rw [bne_eq_false_iff_eq]; omega
            by_cases hh : 0 ≤ n ∧ n ≤ 99 ∧ 0 ≤ (f : Int) ∧ (f : Int) ≤ n
            · have hd := decide_eq_true hh
              have hE := hide (hd_some h72 hr hne hr2 hq hh.1 hh.2.1 hh.2.2.2)
              clear hr hr2 hne hq
              rw [hE.out]
              go_enter Tryz.func198, Tryz.ntmps198
              go_wp2_with fail
              refine (hasPrefix_any t _ _ hp).mono ?_
              rintro e w' ⟨rfl, rfl⟩
              go_wp2_with fail
              refine (hread.out _).mono ?_
              rintro e w' ⟨rfl, rfl⟩
              go_wp2_with fail
              refine (hread2.out _).mono ?_
              rintro e w' ⟨rfl, rfl⟩
              go_wp2_with fail
              refine (headOk_any _ _ _ _ hd).mono ?_
              rintro e w0 ⟨rfl, rfl⟩
              go_wp2
              go_ret2
              exact ⟨rfl, rfl⟩
            · have hd := decide_eq_false hh
              have hE := hide (hd_none_next (n := n) hr (fun g hg => by rw [hr2] at hg; simp only [Option.some.injEq, Prod.mk.injEq] at hg; omega))
              clear hr hr2 hne hq
              rw [hE.out]
              go_enter Tryz.func198, Tryz.ntmps198
              go_wp2_with fail
              refine (hasPrefix_any t _ _ hp).mono ?_
              rintro e w' ⟨rfl, rfl⟩
              go_wp2_with fail
              refine (hread.out _).mono ?_
              rintro e w' ⟨rfl, rfl⟩
              go_wp2_with fail
              refine (hread2.out _).mono ?_
              rintro e w' ⟨rfl, rfl⟩
              go_wp2_with fail
              refine (headOk_any _ _ _ _ hd).mono ?_
              rintro e w0 ⟨rfl, rfl⟩
              go_wp2
              go_ret2
              exact ⟨rfl, rfl⟩
          · have hq' : ((q : Int) != (t.size : Int)) = true := by rw [bne_iff_ne]; omega
            have hE := hide (hd_none_next (n := n) hr (fun g hg => by rw [hr2] at hg; simp only [Option.some.injEq, Prod.mk.injEq] at hg; omega))
            clear hr hr2 hne hq
            rw [hE.out]
            go_enter Tryz.func198, Tryz.ntmps198
            go_wp2_with fail
            refine (hasPrefix_any t _ _ hp).mono ?_
            rintro e w' ⟨rfl, rfl⟩
            go_wp2_with fail
            refine (hread.out _).mono ?_
            rintro e w' ⟨rfl, rfl⟩
            go_wp2_with fail
            refine (hread2.out _).mono ?_
            rintro e w' ⟨rfl, rfl⟩
            go_wp2
            go_ret2
            exact ⟨rfl, rfl⟩
      · have hne' : ((a : Int) != n) = true := by rw [bne_iff_ne]; exact hne
        have hE := hide (hd_none_other hr hne)
        clear hr hne
        rw [hE.out]
        go_enter Tryz.func198, Tryz.ntmps198
        go_wp2_with (first | (go_at_call 219; refine (hasPrefix_any t _ _ hp).mono ?_; rintro e w' ⟨rfl, rfl⟩) | (go_at_call 182; refine (hread.out _).mono ?_; rintro e w' ⟨rfl, rfl⟩))
        go_ret2
        exact ⟨rfl, rfl⟩
  · have hp := decide_eq_false h72
    have hE := hide (hd_none_72 (n := n) h72)
    rw [hE.out]
    go_enter Tryz.func198, Tryz.ntmps198
    go_wp2_with (first | (go_at_call 219; refine (hasPrefix_any t _ _ hp).mono ?_; rintro e w' ⟨rfl, rfl⟩))
    go_ret2
    exact ⟨rfl, rfl⟩
theorem headFrom_none {n : Int} {t : ByteArray} (h : hdFrom n t = none) (w : World) (ht : t.size ≤ 1048576) : Calls Tryz.prog 198 #[.int .i64 n, .string t] w fun e w' => e = .returned (.tuple #[.int .i64 0, .bool false]) ∧ w' = w := by
  have := headFrom_any n t w ht
  rw [h] at this
  exact this
theorem headFrom_some {n : Int} {t : ByteArray} {f : Nat} (h : hdFrom n t = some f) (w : World) (ht : t.size ≤ 1048576) : Calls Tryz.prog 198 #[.int .i64 n, .string t] w fun e w' => e = .returned (.tuple #[.int .i64 (f : Int), .bool true]) ∧ w' = w := by
  have := headFrom_any n t w ht
  rw [h] at this
  exact this
def hdOf (n : Int) (s : ByteArray) : Option (Nat × Nat) :=
  match unf s with
  | [] => none
  | x :: _ => (hdFrom n (s.extract x.1 x.2)).map (fun f => (f, x.2))
def hdOfAns : Option (Nat × Nat) → Value
  | none => .tuple #[.int .i64 0, .int .i64 0, .bool false]
  | some (f, p) => .tuple #[.int .i64 (f : Int), .int .i64 (p : Int), .bool true]
theorem readHead_any (n : Int) (s : ByteArray) (w : World) (hs : s.size ≤ 1048576) (hT : SumTab w) : Calls Tryz.prog 185 #[.int .i64 n, .string s] w fun e w' => e = .returned (hdOfAns (hdOf n s)) ∧ Below w.heap.size w w' := by
  have HT := hide hT
  clear hT
  by_cases hl : s.size ≤ 20000
  · have hl' : decide ((20000 : Int) < (s.size : Int)) = false := by simp; omega
    cases hf : frB s 0 with
    | none =>
      have hE : Hid (hdOf n s = none) := by
        show _ = _
        unfold hdOf unf
        rw [if_pos hl, frs_none s _ 0 hf]
      have hcall := hide (fun W hW => frameAt_none s 0 W hl (Nat.zero_le _) hf hW)
      clear hf
      rw [hE.out]
      go_enter Tryz.func185, Tryz.ntmps185
      go_wp2_with (first | (go_at_call 164; refine (hcall.out _ HT.out).mono ?_; rintro e w1 ⟨rfl, b1⟩))
      go_ret3
      exact ⟨rfl, b1⟩
    | some x =>
      have hb := frB_bounds s 0 x hf
      have hcall := hide (fun W hW => frameAt_some s 0 x W hl (Nat.zero_le _) hf hW)
      obtain ⟨R, hR⟩ : ∃ R, s.extract x.1 x.2 = R := ⟨_, rfl⟩
      have hRz : R.size ≤ 1048576 := by rw [← hR, ByteArray.size_extract]; omega
      have hE : Hid (hdOf n s = (hdFrom n R).map (fun f => (f, x.2))) := by
        show _ = _
        unfold hdOf unf
        rw [if_pos hl, frs_some s _ 0 x hf, ← hR]
      rw [hR] at hcall
      clear hf hR
      cases hd : hdFrom n R with
      | none =>
        have hH := hide (fun W => headFrom_none hd W hRz)
        rw [hd] at hE
        rw [hE.out]
        clear hd
        go_enter Tryz.func185, Tryz.ntmps185
        go_wp2_with (first | (go_at_call 164; refine (hcall.out _ HT.out).mono ?_; rintro e w1 ⟨rfl, b1⟩) | (go_at_call 198; refine (hH.out _).mono ?_; rintro e w2 ⟨rfl, rfl⟩))
        go_ret3
        exact ⟨rfl, b1⟩
      | some f =>
        have hH := hide (fun W => headFrom_some hd W hRz)
        rw [hd] at hE
        rw [hE.out]
        clear hd
        go_enter Tryz.func185, Tryz.ntmps185
        go_wp2_with (first | (go_at_call 164; refine (hcall.out _ HT.out).mono ?_; rintro e w1 ⟨rfl, b1⟩) | (go_at_call 198; refine (hH.out _).mono ?_; rintro e w2 ⟨rfl, rfl⟩))
        go_ret3
        exact ⟨rfl, b1⟩
  · have hl' : decide ((20000 : Int) < (s.size : Int)) = true := by simp; omega
    have hE : Hid (hdOf n s = none) := by
      show _ = _
      unfold hdOf unf
      rw [if_neg hl]
    rw [hE.out]
    go_enter Tryz.func185, Tryz.ntmps185
    go_wp2
    go_ret3
    exact ⟨rfl, Below.refl _ _⟩
end Go.Proofs.YtnhfngpegmpcnamGreatDoor
