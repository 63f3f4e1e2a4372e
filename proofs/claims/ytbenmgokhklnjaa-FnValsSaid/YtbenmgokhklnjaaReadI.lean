/- The program's reader of a number answers as 'Wd.rv' says. -/
import Derived.Test.YtbenmgokhklnjaaRv
namespace Go.Proofs.Ytbenmgokhklnjaa
open Go.RowKit

theorem implRead_out (s : ByteArray) (i : Int) (w : World) (hs : s.size ≤ maxLen) (h : i < 0 ∨ (s.size : Int) < i) :
    Calls Try.prog 66 #[.string s, .int .i64 i] w fun e w' => e = .returned (rvAns none) ∧ w' = w := by
  unfold maxLen at hs
  rcases h with h | h
  · go_enter Try.func66, Try.ntmps66
    go_wp2
    go_ret3
    exact ⟨rfl, rfl⟩
  · have h' : ¬ i < 0 := by omega
    go_enter Try.func66, Try.ntmps66
    go_wp2
    go_ret3
    exact ⟨rfl, rfl⟩

set_option maxRecDepth 100000 in
set_option maxHeartbeats 1000000 in
theorem implRead_in (s : ByteArray) (i : Nat) (w : World) (hs : s.size ≤ maxLen) (h : i ≤ s.size) :
    Calls Try.prog 66 #[.string s, .int .i64 i] w fun e w' => e = .returned (rvAns (Wd.rv s i)) ∧ w' = w := by
  unfold maxLen at hs
  have h0 : decide ((i : Int) < 0) = false := by simp
  have h1 : decide ((s.size : Int) < (i : Int)) = false := by simp; omega
  go_enter Try.func66, Try.ntmps66
  go_wp2
  go_loop [7, 8, 9] (fun n q p => ∃ k f Q m P : Nat, n = .int .i64 m ∧ q = .int .i64 Q ∧ p = .int .i64 P ∧ P ≤ s.size ∧ Hid (Wd.rv s i = Wd.rvF s f P k Q m) ∧ Hid (P = i + k) ∧ ((k = 0 ∧ f = 5 ∧ Q = 1 ∧ m = 0) ∨ (k = 1 ∧ f = 4 ∧ Q = 128 ∧ m < 128) ∨ (k = 2 ∧ f = 3 ∧ Q = 16384 ∧ m < 16384) ∨ (k = 3 ∧ f = 2 ∧ Q = 2097152 ∧ m < 2097152) ∨ (k = 4 ∧ f = 1 ∧ Q = 268435456 ∧ m < 268435456) ∨ (k = 5 ∧ f = 0 ∧ Q = 34359738368 ∧ m < 34359738368))) (fun _ _ p => s.size - (intOf p).toNat)
  case atStart => exact ⟨0, 5, 1, 0, i, rfl, rfl, rfl, h, rfl, rfl, .inl ⟨rfl, rfl, rfl, rfl⟩⟩
  case round =>
    obtain ⟨k, f, Q, m, P, rfl, rfl, rfl, hP, hrv, hPk, hcase⟩ := hrel
    by_cases hlt : P < s.size
    · obtain ⟨b, hB, hbt, hb256⟩ : ∃ b : Nat, Hid (Wd.bt s P = b) ∧ (s[P]'hlt).toNat = b ∧ b < 256 := ⟨_, rfl, Wd.bt_eq s P hlt, Wd.bt_lt s P⟩
      by_cases hb : b < 128
      · by_cases hz : 0 < b
        · have hz' : decide (0 < (b : Int)) = true := by simp; omega
          rcases hcase with ⟨rfl, rfl, rfl, rfl⟩ | ⟨rfl, rfl, rfl, hm⟩ | ⟨rfl, rfl, rfl, hm⟩ | ⟨rfl, rfl, rfl, hm⟩ | ⟨rfl, rfl, rfl, hm⟩ | ⟨rfl, rfl, rfl, hm⟩
          case inr.inr.inr.inr.inr =>
            have hfin : Hid (Wd.rv s i = none) := hrv.out.trans rfl
            go_wp2
            go_ret3
            rw [hfin.out]
            exact ⟨rfl, rfl⟩
          case inr.inr.inr.inr.inl =>
            by_cases hn : m + b % 128 * 268435456 ≤ 1000000000
            · have hfin := hide (hrv.out.trans (Wd.rvF_lastB hB.out hlt hb hn (.inl hz)))
              go_wp2
              go_ret3
              rw [hfin.out]
              exact ⟨ret3 (by omega) (by omega), rfl⟩
            · have hfin := hide (hrv.out.trans (Wd.rvF_notB hB.out hb (fun h => hn h.1)))
              go_wp2
              go_ret3
              rw [hfin.out]
              exact ⟨rfl, rfl⟩
          all_goals
            have hfin := hide (hrv.out.trans (Wd.rvF_lastB hB.out hlt hb (by omega) (.inl hz)))
            go_wp2
            go_ret3
            rw [hfin.out]
            exact ⟨ret3 (by omega) (by omega), rfl⟩
        · have hz' : decide (0 < (b : Int)) = false := by simp; omega
          rcases hcase with ⟨rfl, rfl, rfl, rfl⟩ | ⟨rfl, rfl, rfl, hm⟩ | ⟨rfl, rfl, rfl, hm⟩ | ⟨rfl, rfl, rfl, hm⟩ | ⟨rfl, rfl, rfl, hm⟩ | ⟨rfl, rfl, rfl, hm⟩
          case inr.inr.inr.inr.inr =>
            have hfin : Hid (Wd.rv s i = none) := hrv.out.trans rfl
            go_wp2
            go_ret3
            rw [hfin.out]
            exact ⟨rfl, rfl⟩
          case inl =>
            have hfin := hide (hrv.out.trans (Wd.rvF_lastB hB.out hlt hb (by omega) (.inr rfl)))
            have hpi : ((P : Int) == (i : Int)) = true := by have := hPk.out; simp; omega
            go_wp2
            go_ret3
            rw [hfin.out]
            exact ⟨ret3 (by omega) (by omega), rfl⟩
          all_goals
            have hfin := hide (hrv.out.trans (Wd.rvF_notB hB.out hb (fun h => by have := h.2; omega)))
            have hpi : ((P : Int) == (i : Int)) = false := by have := hPk.out; simp; omega
            go_wp2
            go_ret3
            rw [hfin.out]
            exact ⟨rfl, rfl⟩
      · rcases hcase with ⟨rfl, rfl, rfl, rfl⟩ | ⟨rfl, rfl, rfl, hm⟩ | ⟨rfl, rfl, rfl, hm⟩ | ⟨rfl, rfl, rfl, hm⟩ | ⟨rfl, rfl, rfl, hm⟩ | ⟨rfl, rfl, rfl, hm⟩
        case inr.inr.inr.inr.inr =>
          have hfin : Hid (Wd.rv s i = none) := hrv.out.trans rfl
          go_wp2
          go_ret3
          rw [hfin.out]
          exact ⟨rfl, rfl⟩
        all_goals
          have hmore := hide (hrv.out.trans (Wd.rvF_moreB hB.out hlt hb))
          go_wp2
          go_round
          case rel =>
            refine ⟨_, _, _, _, P + 1, ?_, ?_, by go_num, by omega, hmore, by have := hPk.out; show _ = _; omega, ?_⟩
            · go_num
            · go_num
            · simp; try omega
          case measure => simp [intOf]; omega
    · have hfin : Hid (Wd.rv s i = none) := hrv.out.trans (Wd.rvF_end _ _ _ _ _ _ hlt)
      go_wp2
      go_ret3
      rw [hfin.out]
      exact ⟨rfl, rfl⟩

theorem implRead_any (s : ByteArray) (i : Int) (w : World) (hs : s.size ≤ 1048576) :
    Calls Try.prog 66 #[.string s, .int .i64 i] w fun e w' => e = .returned (rvAns (Wd.rvI s i)) ∧ w' = w := by
  by_cases h : i < 0 ∨ (s.size : Int) < i
  · rw [show Wd.rvI s i = none from if_pos h]
    exact implRead_out s i w (by unfold maxLen; omega) h
  · rw [show Wd.rvI s i = Wd.rv s i.toNat from if_neg h]
    obtain ⟨k, rfl⟩ := Int.eq_ofNat_of_zero_le (show 0 ≤ i by omega)
    exact implRead_in s k w (by unfold maxLen; omega) (by omega)

theorem implRead_some (s : ByteArray) (i : Int) (w : World) (a b : Nat) (hs : s.size ≤ 1048576) (h : Wd.rvI s i = some (a, b)) :
    Calls Try.prog 66 #[.string s, .int .i64 i] w fun e w' => e = .returned (.tuple #[.int .i64 a, .int .i64 b, .bool true]) ∧ w' = w := by
  have := implRead_any s i w hs; rw [h] at this; exact this
theorem implRead_none (s : ByteArray) (i : Int) (w : World) (hs : s.size ≤ 1048576) (h : Wd.rvI s i = none) :
    Calls Try.prog 66 #[.string s, .int .i64 i] w fun e w' => e = .returned (.tuple #[.int .i64 0, .int .i64 0, .bool false]) ∧ w' = w := by
  have := implRead_any s i w hs; rw [h] at this; exact this

end Go.Proofs.Ytbenmgokhklnjaa
