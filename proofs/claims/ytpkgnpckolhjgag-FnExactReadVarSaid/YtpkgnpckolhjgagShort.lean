/- The laws on ReadVar, ShortText and ReadShort, out of the contracts of what they call. -/
import Derived.Test.YtpkgnpckolhjgagReadS
namespace Go.Proofs.Ytpkgnpckolhjgag
open Go.RowKit

theorem Wd.rvF_bounds (s : ByteArray) : ∀ f p k q n a b, Wd.rvF s f p k q n = some (a, b) → a ≤ 1000000000 ∧ p < b ∧ b ≤ s.size := by
  intro f
  induction f with
  | zero => intro p k q n a b h; simp [Wd.rvF] at h
  | succ f ih =>
    intro p k q n a b h
    by_cases h1 : p < s.size
    · by_cases h2 : Wd.bt s p < 128
      · by_cases h3 : n + Wd.bt s p % 128 * q ≤ 1000000000 ∧ (0 < Wd.bt s p ∨ k = 0)
        · rw [Wd.rvF_last s f p k q n h1 h2 h3.1 h3.2] at h
          simp at h
          omega
        · rw [Wd.rvF_not s f p k q n h2 h3] at h; simp at h
      · rw [Wd.rvF_more s f p k q n h1 h2] at h
        have := ih _ _ _ _ _ _ h
        omega
    · rw [Wd.rvF_end s _ p k q n h1] at h; simp at h

theorem Wd.rv_bounds (s : ByteArray) (i a b : Nat) (h : Wd.rv s i = some (a, b)) : a ≤ 1000000000 ∧ i < b ∧ b ≤ s.size := Wd.rvF_bounds s _ _ _ _ _ _ _ h

/-- What is read at a place that may lie outside. -/
def Wd.rvI (s : ByteArray) (i : Int) : Option (Nat × Nat) := if i < 0 ∨ (s.size : Int) < i then none else Wd.rv s i.toNat

theorem Wd.rvI_bounds (s : ByteArray) (i : Int) (a b : Nat) (h : Wd.rvI s i = some (a, b)) : a ≤ 1000000000 ∧ b ≤ s.size := by
  unfold Wd.rvI at h
  split at h
  · simp at h
  · have := Wd.rv_bounds s _ _ _ h; omega

theorem specRead_any (s : ByteArray) (i : Int) (w : World) (hs : s.size ≤ 1048576) :
    Calls Try.prog 9 #[.string s, .int .i64 i] w fun e w' => e = .returned (rvAns (Wd.rvI s i)) ∧ Below w.heap.size w w' := by
  by_cases h : i < 0 ∨ (s.size : Int) < i
  · rw [show Wd.rvI s i = none from if_pos h]
    exact (specRead_out s i w hs h).mono fun e w' ⟨he, hw⟩ => ⟨he, hw ▸ Below.refl _ _⟩
  · rw [show Wd.rvI s i = Wd.rv s i.toNat from if_neg h]
    obtain ⟨k, rfl⟩ := Int.eq_ofNat_of_zero_le (show 0 ≤ i by omega)
    exact specRead_in s k w hs (by omega)

theorem implRead_any (s : ByteArray) (i : Int) (w : World) (hs : s.size ≤ 1048576) :
    Calls Try.prog 10 #[.string s, .int .i64 i] w fun e w' => e = .returned (rvAns (Wd.rvI s i)) ∧ w' = w := by
  by_cases h : i < 0 ∨ (s.size : Int) < i
  · rw [show Wd.rvI s i = none from if_pos h]
    exact implRead_out s i w (by unfold maxLen; omega) h
  · rw [show Wd.rvI s i = Wd.rv s i.toNat from if_neg h]
    obtain ⟨k, rfl⟩ := Int.eq_ofNat_of_zero_le (show 0 ≤ i by omega)
    exact implRead_in s k w (by unfold maxLen; omega) (by omega)

theorem specRead_some (s : ByteArray) (i : Int) (w : World) (a b : Nat) (hs : s.size ≤ 1048576) (h : Wd.rvI s i = some (a, b)) :
    Calls Try.prog 9 #[.string s, .int .i64 i] w fun e w' => e = .returned (.tuple #[.int .i64 a, .int .i64 b, .bool true]) ∧ Below w.heap.size w w' := by
  have := specRead_any s i w hs; rw [h] at this; exact this
theorem specRead_none (s : ByteArray) (i : Int) (w : World) (hs : s.size ≤ 1048576) (h : Wd.rvI s i = none) :
    Calls Try.prog 9 #[.string s, .int .i64 i] w fun e w' => e = .returned (.tuple #[.int .i64 0, .int .i64 0, .bool false]) ∧ Below w.heap.size w w' := by
  have := specRead_any s i w hs; rw [h] at this; exact this
theorem implRead_some (s : ByteArray) (i : Int) (w : World) (a b : Nat) (hs : s.size ≤ 1048576) (h : Wd.rvI s i = some (a, b)) :
    Calls Try.prog 10 #[.string s, .int .i64 i] w fun e w' => e = .returned (.tuple #[.int .i64 a, .int .i64 b, .bool true]) ∧ w' = w := by
  have := implRead_any s i w hs; rw [h] at this; exact this
theorem implRead_none (s : ByteArray) (i : Int) (w : World) (hs : s.size ≤ 1048576) (h : Wd.rvI s i = none) :
    Calls Try.prog 10 #[.string s, .int .i64 i] w fun e w' => e = .returned (.tuple #[.int .i64 0, .int .i64 0, .bool false]) ∧ w' = w := by
  have := implRead_any s i w hs; rw [h] at this; exact this

theorem readVar_walk (s : ByteArray) (i : Int) (w : World) (ws : s.size ≤ maxLen) (_wi : (Lit.int .i64 i).wf = true) :
    Calls Try.prog 4 #[.string s, .int .i64 i] w fun e w' => e = .returned (.bool true) ∧ Below w.heap.size w w' := by
  unfold maxLen at ws
  by_cases hs : s.size ≤ 1048576
  · have hs' : decide (1048576 < (s.size : Int)) = false := by simp; omega
    cases hr : Wd.rvI s i with
    | none =>
      have H := hide hr
      clear hr
      go_enter Try.func4, Try.ntmps4
      go_wp2_with (first | (go_at_call 9; refine (specRead_none s i _ hs H.out).mono ?_; rintro e w1 ⟨rfl, hb1⟩) | (go_at_call 10; refine (implRead_none s i _ hs H.out).mono ?_; rintro e w2 ⟨rfl, rfl⟩))
      go_ret
      exact ⟨rfl, hb1⟩
    | some x =>
      obtain ⟨a, b⟩ := x
      have H := hide hr
      clear hr
      go_enter Try.func4, Try.ntmps4
      go_wp2_with (first | (go_at_call 9; refine (specRead_some s i _ a b hs H.out).mono ?_; rintro e w1 ⟨rfl, hb1⟩) | (go_at_call 10; refine (implRead_some s i _ a b hs H.out).mono ?_; rintro e w2 ⟨rfl, rfl⟩))
      go_ret
      exact ⟨rfl, hb1⟩
  · have hs' : decide (1048576 < (s.size : Int)) = true := by simp; omega
    go_enter Try.func4, Try.ntmps4
    go_wp2
    go_ret
    exact ⟨rfl, Below.refl _ _⟩

/-! ### ShortText -/
theorem specShort_no (s : ByteArray) (w : World) (ws : s.size ≤ maxLen) (h : 20000 < s.size) :
    Calls Try.prog 11 #[.string s] w fun e w' => e = .returned (.tuple #[.string ⟨#[]⟩, .bool false]) ∧ w' = w := by
  unfold maxLen at ws
  go_enter Try.func11, Try.ntmps11
  go_wp2
  go_ret2
  exact ⟨rfl, rfl⟩
theorem implShort_no (s : ByteArray) (w : World) (ws : s.size ≤ maxLen) (h : 20000 < s.size) :
    Calls Try.prog 12 #[.string s] w fun e w' => e = .returned (.tuple #[.string ⟨#[]⟩, .bool false]) ∧ w' = w := by
  unfold maxLen at ws
  go_enter Try.func12, Try.ntmps12
  go_wp2
  go_ret2
  exact ⟨rfl, rfl⟩

theorem Wd.varF_length : ∀ f n, (Wd.varF f n).length ≤ f
  | 0, _ => by simp [Wd.varF]
  | f + 1, n => by
    have := Wd.varF_length f (n / 128)
    by_cases h : n < 128
    · rw [Wd.varF_low f n h]; simp
    · rw [Wd.varF_high f n h]; simp; omega

theorem specShort_yes (s : ByteArray) (w : World) (h : s.size ≤ 20000) :
    Calls Try.prog 11 #[.string s] w fun e w' => e = .returned (.tuple #[.string (⟨(Wd.varF 5 s.size).toArray⟩ ++ s), .bool true]) ∧ Below w.heap.size w w' := by
  have hl := Wd.varF_length 5 s.size
  go_enter Try.func11, Try.ntmps11
  go_wp2_with (first | (go_at_call 16; refine (l01Var_any s.size _ (by omega)).mono ?_; rintro e w1 ⟨rfl, hb1⟩))
  go_ret2
  exact ⟨rfl, hb1⟩
theorem implShort_yes (s : ByteArray) (w : World) (h : s.size ≤ 20000) :
    Calls Try.prog 12 #[.string s] w fun e w' => e = .returned (.tuple #[.string (⟨(Wd.varF 5 s.size).toArray⟩ ++ s), .bool true]) ∧ Below w.heap.size w w' := by
  have hl := Wd.varF_length 5 s.size
  go_enter Try.func12, Try.ntmps12
  go_wp2_with (first | (go_at_call 8; refine (implVar_yes s.size _ (by omega)).mono ?_; rintro e w1 ⟨rfl, hb1⟩))
  go_ret2
  exact ⟨rfl, hb1⟩

theorem shortText_walk (s : ByteArray) (w : World) (ws : s.size ≤ maxLen) :
    Calls Try.prog 5 #[.string s] w fun e w' => e = .returned (.bool true) ∧ Below w.heap.size w w' := by
  by_cases hs : s.size ≤ 1048576
  · have hs' : decide (1048576 < (s.size : Int)) = false := by simp; omega
    by_cases h : s.size ≤ 20000
    · go_enter Try.func5, Try.ntmps5
      go_wp2_with (first | (go_at_call 11; refine (specShort_yes s _ h).mono ?_; rintro e w1 ⟨rfl, hb1⟩) | (go_at_call 12; refine (implShort_yes s _ h).mono ?_; rintro e w2 ⟨rfl, hb2⟩))
      go_ret
      exact ⟨rfl, hb1.trans (hb2.mono hb1.size)⟩
    · go_enter Try.func5, Try.ntmps5
      go_wp2_with (first | (go_at_call 11; refine (specShort_no s _ ws (by omega)).mono ?_; rintro e w1 ⟨rfl, rfl⟩) | (go_at_call 12; refine (implShort_no s _ ws (by omega)).mono ?_; rintro e w2 ⟨rfl, rfl⟩))
      go_ret
      exact ⟨rfl, Below.refl _ _⟩
  · unfold maxLen at ws
    have hs' : decide (1048576 < (s.size : Int)) = true := by simp; omega
    go_enter Try.func5, Try.ntmps5
    go_wp2
    go_ret
    exact ⟨rfl, Below.refl _ _⟩
end Go.Proofs.Ytpkgnpckolhjgag
