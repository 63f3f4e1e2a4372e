/- The number that a decimal text tells: the specification's reader. -/
import Derived.Test.YtpibnhodlojajaaDoorDec
import Derived.Test.YtpibnhodlojajaaDoorUnhexI
namespace Go.Proofs.YtpibnhodlojajaaDoor
open Go.RowKit

/-- The text tells a number. -/
def Wd.good (s : ByteArray) : Prop := s.size ≠ 0 ∧ s.size ≤ 10 ∧ Wd.digs s s.size ∧ (s.size = 1 ∨ Wd.bt s 0 ≠ 48) ∧ Wd.numF s s.size ≤ 1000000000

theorem Wd.numF_bound (s : ByteArray) (k : Nat) (hk : k ≤ 10) (hd : Wd.digs s k) : Wd.numF s k ≤ 9999999999 := by
  have h1 := Wd.numF_lt s k hd
  have h2 : 10 ^ k ≤ 10 ^ 10 := Nat.pow_le_pow_right (by omega) hk
  omega

theorem digs_more {s : ByteArray} {k b : Nat} (HI : Wd.digs s k) (hB : Wd.bt s k = b) (h1 : 48 ≤ b) (h2 : b ≤ 57) : Wd.digs s (k + 1) := by
  intro p hp
  by_cases h : p < k
  · exact HI p h
  · have : p = k := by omega
    subst this
    omega

theorem specDec_long (s : ByteArray) (w : World) (ws : s.size ≤ 1048576) (h : 10 < s.size) :
    Calls Tryd.prog 17 #[.string s] w fun e w' => e = .returned (.tuple #[.int .i64 0, .bool false]) ∧ w' = w := by
  go_enter Tryd.func17, Tryd.ntmps17
  go_wp2
  go_ret2
  exact ⟨rfl, rfl⟩

theorem dec_test (s : ByteArray) (k M : Nat) (hk : k = s.size) (hd : Wd.digs s k) (h10 : s.size ≤ 10) (hM : Wd.numF s k = M) :
    (Wd.decS (M : Int) == s.toList) = decide (s.size ≠ 0 ∧ (s.size = 1 ∨ Wd.bt s 0 ≠ 48)) := by
  subst hk hM
  rw [Bool.eq_iff_iff, beq_iff_eq, decide_eq_true_iff, ByteArray.toList_eq]
  exact Wd.dec_canon s hd h10

set_option maxRecDepth 100000 in
set_option maxHeartbeats 1000000 in
theorem specDec_in (s : ByteArray) (w : World) (h : s.size ≤ 10) :
    Calls Tryd.prog 17 #[.string s] w fun e w' => Below w.heap.size w w' ∧ ((Wd.good s ∧ e = .returned (.tuple #[.int .i64 (Wd.numF s s.size), .bool true])) ∨ (¬ Wd.good s ∧ e = .returned (.tuple #[.int .i64 0, .bool false]))) := by
  have h1' : decide (10 < (s.size : Int)) = false := by simp; omega
  go_enter Tryd.func17, Tryd.ntmps17
  go_wp2
  go_loop [4, 5] (fun n i => ∃ k M : Nat, k ≤ s.size ∧ i = .int .i64 k ∧ n = .int .i64 M ∧ Hid (Wd.numF s k = M) ∧ Hid (Wd.digs s k) ∧ M ≤ 9999999999) (fun _ i => s.size - (intOf i).toNat)
  case atStart => exact ⟨0, 0, Nat.zero_le _, rfl, rfl, rfl, fun p hp => absurd hp (by omega), by omega⟩
  case round =>
    obtain ⟨k, M, hk, rfl, rfl, HM, HI, hM⟩ := hrel
    by_cases hlt : k < s.size
    · obtain ⟨b, hB, hbt, hb256⟩ : ∃ b : Nat, Hid (Wd.bt s k = b) ∧ (s[k]'hlt).toNat = b ∧ b < 256 := ⟨_, rfl, Wd.bt_eq s k hlt, Wd.bt_lt s k⟩
      by_cases h3 : b < 48
      · have h3' : decide ((b : Int) < 48) = true := by simp; omega
        have hno : Hid (¬ Wd.good s) := fun hg => by have := (hg.2.2.1 k hlt).1; rw [hB.out] at this; omega
        go_wp2
        go_ret2
        exact ⟨Below.refl _ _, .inr ⟨hno.out, rfl⟩⟩
      · have h3' : decide ((b : Int) < 48) = false := by simp; omega
        by_cases h4 : 57 < b
        · have h4' : decide (57 < (b : Int)) = true := by simp; omega
          have hno : Hid (¬ Wd.good s) := fun hg => by have := (hg.2.2.1 k hlt).2; rw [hB.out] at this; omega
          go_wp2
          go_ret2
          exact ⟨Below.refl _ _, .inr ⟨hno.out, rfl⟩⟩
        · have h4' : decide (57 < (b : Int)) = false := by simp; omega
          have hd' := hide (digs_more HI.out hB.out (by omega) (by omega))
          have hbd := Wd.numF_bound s (k + 1) (by omega) hd'.out
          have hnum : Wd.numF s (k + 1) = 10 * M + (b - 48) := by rw [Wd.numF, HM.out, hB.out]
          rw [hnum] at hbd
          have HN := hide hnum
          clear hnum
          go_wp2
          go_round
          case rel => exact ⟨k + 1, 10 * M + (b - 48), by omega, by go_num, by go_num, HN, hd', hbd⟩
          case measure => simp [intOf]; omega
    · have hks : Hid (k = s.size) := by show _ = _; omega
      by_cases h5 : M ≤ 1000000000
      · have h5' : decide (1000000000 < (M : Int)) = false := by simp; omega
        have ht := dec_test s k M hks.out HI.out h HM.out
        by_cases h6 : s.size ≠ 0 ∧ (s.size = 1 ∨ Wd.bt s 0 ≠ 48)
        · rw [decide_eq_true h6] at ht
          have hg : Hid (Wd.good s ∧ Wd.numF s s.size = M) := ⟨⟨h6.1, h, by rw [← hks.out]; exact HI.out, h6.2, by rw [← hks.out, HM.out]; exact h5⟩, by rw [← hks.out]; exact HM.out⟩
          clear h6
          go_wp2_with (go_at_call 16; refine (decimal_any _ _ (by omega) (by omega)).mono ?_; rintro e w1 ⟨rfl, hb1⟩)
          go_ret2
          refine ⟨hb1, .inl ⟨hg.out.1, ?_⟩⟩
          rw [hg.out.2]
          rfl
        · rw [decide_eq_false h6] at ht
          have hno : Hid (¬ Wd.good s) := fun hg => h6 ⟨hg.1, hg.2.2.2.1⟩
          clear h6
          go_wp2_with (go_at_call 16; refine (decimal_any _ _ (by omega) (by omega)).mono ?_; rintro e w1 ⟨rfl, hb1⟩)
          go_ret2
          exact ⟨hb1, .inr ⟨hno.out, rfl⟩⟩
      · have h5' : decide (1000000000 < (M : Int)) = true := by simp; omega
        have hno : Hid (¬ Wd.good s) := fun hg => by have := hg.2.2.2.2; rw [← hks.out, HM.out] at this; omega
        go_wp2
        go_ret2
        exact ⟨Below.refl _ _, .inr ⟨hno.out, rfl⟩⟩
end Go.Proofs.YtpibnhodlojajaaDoor
