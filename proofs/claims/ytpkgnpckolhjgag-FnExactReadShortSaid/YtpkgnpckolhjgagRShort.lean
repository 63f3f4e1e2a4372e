/- The law on ReadShort, out of the contracts of what it calls. -/
import Derived.Test.YtpkgnpckolhjgagShort
namespace Go.Proofs.Ytpkgnpckolhjgag
open Go.RowKit

theorem cut_len (s : ByteArray) (p n : Nat) (h : p + n ≤ s.size) : ∀ W : World, (Instr.slice 9 (.string s) (some (.int .i64 (p : Int))) (some (.int .i64 ((p : Int) + (n : Int)))) none).run Try.prog W = .ok (.string (s.extract p (p + n))) W := by
  intro W
  have := run_slice_string (P := Try.prog) W 9 s .i64 .i64 (p : Int) ((p : Int) + (n : Int)) Try.underlying9 (by omega) (by omega) (by omega)
  rw [this, Int.toNat_natCast, show ((p : Int) + (n : Int)).toNat = p + n from by omega]

theorem specRShort_none (s : ByteArray) (i : Int) (w : World) (hs : s.size ≤ 1048576) (h : Wd.rvI s i = none) :
    Calls Try.prog 13 #[.string s, .int .i64 i] w fun e w' => e = .returned (.tuple #[.string ⟨#[]⟩, .int .i64 0, .bool false]) ∧ Below w.heap.size w w' := by
  have H := hide h
  clear h
  go_enter Try.func13, Try.ntmps13
  go_wp2_with (go_at_call 9; refine (specRead_none s i _ hs H.out).mono ?_; rintro e w1 ⟨rfl, hb1⟩)
  go_ret3
  exact ⟨rfl, hb1⟩
theorem implRShort_none (s : ByteArray) (i : Int) (w : World) (hs : s.size ≤ 1048576) (h : Wd.rvI s i = none) :
    Calls Try.prog 14 #[.string s, .int .i64 i] w fun e w' => e = .returned (.tuple #[.string ⟨#[]⟩, .int .i64 0, .bool false]) ∧ Below w.heap.size w w' := by
  have H := hide h
  clear h
  go_enter Try.func14, Try.ntmps14
  go_wp2_with (go_at_call 10; refine (implRead_none s i _ hs H.out).mono ?_; rintro e w1 ⟨rfl, rfl⟩)
  go_ret3
  exact ⟨rfl, Below.refl _ _⟩

theorem specRShort_no (s : ByteArray) (i : Int) (w : World) (n p : Nat) (hs : s.size ≤ 1048576) (h : Wd.rvI s i = some (n, p)) (hno : 20000 < n ∨ s.size < p + n) :
    Calls Try.prog 13 #[.string s, .int .i64 i] w fun e w' => e = .returned (.tuple #[.string ⟨#[]⟩, .int .i64 0, .bool false]) ∧ Below w.heap.size w w' := by
  have hbd := Wd.rvI_bounds s i n p h
  have H := hide h
  clear h
  by_cases hn : 20000 < n
  · have hn' : decide (20000 < (n : Int)) = true := by simp; omega
    go_enter Try.func13, Try.ntmps13
    go_wp2_with (go_at_call 9; refine (specRead_some s i _ n p hs H.out).mono ?_; rintro e w1 ⟨rfl, hb1⟩)
    go_ret3
    exact ⟨rfl, hb1⟩
  · have hn' : decide (20000 < (n : Int)) = false := by simp; omega
    have hn2 : decide ((s.size : Int) - (p : Int) < (n : Int)) = true := by simp; omega
    go_enter Try.func13, Try.ntmps13
    go_wp2_with (go_at_call 9; refine (specRead_some s i _ n p hs H.out).mono ?_; rintro e w1 ⟨rfl, hb1⟩)
    go_ret3
    exact ⟨rfl, hb1⟩
theorem implRShort_no (s : ByteArray) (i : Int) (w : World) (n p : Nat) (hs : s.size ≤ 1048576) (h : Wd.rvI s i = some (n, p)) (hno : 20000 < n ∨ s.size < p + n) :
    Calls Try.prog 14 #[.string s, .int .i64 i] w fun e w' => e = .returned (.tuple #[.string ⟨#[]⟩, .int .i64 0, .bool false]) ∧ Below w.heap.size w w' := by
  have hbd := Wd.rvI_bounds s i n p h
  have H := hide h
  clear h
  by_cases hn : 20000 < n
  · have hn' : decide (20000 < (n : Int)) = true := by simp; omega
    go_enter Try.func14, Try.ntmps14
    go_wp2_with (go_at_call 10; refine (implRead_some s i _ n p hs H.out).mono ?_; rintro e w1 ⟨rfl, rfl⟩)
    go_ret3
    exact ⟨rfl, Below.refl _ _⟩
  · have hn' : decide (20000 < (n : Int)) = false := by simp; omega
    have hn2 : decide ((s.size : Int) - (p : Int) < (n : Int)) = true := by simp; omega
    go_enter Try.func14, Try.ntmps14
    go_wp2_with (go_at_call 10; refine (implRead_some s i _ n p hs H.out).mono ?_; rintro e w1 ⟨rfl, rfl⟩)
    go_ret3
    exact ⟨rfl, Below.refl _ _⟩

theorem specRShort_yes (s : ByteArray) (i : Int) (w : World) (n p : Nat) (hs : s.size ≤ 1048576) (h : Wd.rvI s i = some (n, p)) (hn : n ≤ 20000) (hp : p + n ≤ s.size) :
    Calls Try.prog 13 #[.string s, .int .i64 i] w fun e w' => e = .returned (.tuple #[.string (s.extract p (p + n)), .int .i64 ((p : Int) + (n : Int)), .bool true]) ∧ Below w.heap.size w w' := by
  have hsl := cut_len s p n hp
  have H := hide h
  clear h
  have hn' : decide (20000 < (n : Int)) = false := by simp; omega
  have hn2 : decide ((s.size : Int) - (p : Int) < (n : Int)) = false := by simp; omega
  go_enter Try.func13, Try.ntmps13
  go_wp2_with (go_at_call 9; refine (specRead_some s i _ n p hs H.out).mono ?_; rintro e w1 ⟨rfl, hb1⟩)
  go_ret3
  exact ⟨rfl, hb1⟩
theorem implRShort_yes (s : ByteArray) (i : Int) (w : World) (n p : Nat) (hs : s.size ≤ 1048576) (h : Wd.rvI s i = some (n, p)) (hn : n ≤ 20000) (hp : p + n ≤ s.size) :
    Calls Try.prog 14 #[.string s, .int .i64 i] w fun e w' => e = .returned (.tuple #[.string (s.extract p (p + n)), .int .i64 ((p : Int) + (n : Int)), .bool true]) ∧ Below w.heap.size w w' := by
  have hsl := cut_len s p n hp
  have H := hide h
  clear h
  have hn' : decide (20000 < (n : Int)) = false := by simp; omega
  have hn2 : decide ((s.size : Int) - (p : Int) < (n : Int)) = false := by simp; omega
  go_enter Try.func14, Try.ntmps14
  go_wp2_with (first | (go_at_call 10; refine (implRead_some s i _ n p hs H.out).mono ?_; rintro e w1 ⟨rfl, rfl⟩) | (go_at_call 17; refine (ownText_any _ _ (by simp only [ByteArray.size_extract]; omega)).mono ?_; rintro e w2 ⟨rfl, hb2⟩))
  go_ret3
  exact ⟨rfl, hb2⟩

theorem readShort_walk (s : ByteArray) (i : Int) (w : World) (ws : s.size ≤ maxLen) (_wi : (Lit.int .i64 i).wf = true) :
    Calls Try.prog 6 #[.string s, .int .i64 i] w fun e w' => e = .returned (.bool true) ∧ Below w.heap.size w w' := by
  unfold maxLen at ws
  by_cases hs : s.size ≤ 1048576
  · have hs' : decide (1048576 < (s.size : Int)) = false := by simp; omega
    cases hr : Wd.rvI s i with
    | none =>
      have H := hide hr
      clear hr
      go_enter Try.func6, Try.ntmps6
      go_wp2_with (first | (go_at_call 13; refine (specRShort_none s i _ hs H.out).mono ?_; rintro e w1 ⟨rfl, hb1⟩) | (go_at_call 14; refine (implRShort_none s i _ hs H.out).mono ?_; rintro e w2 ⟨rfl, hb2⟩))
      go_ret
      exact ⟨rfl, hb1.trans (hb2.mono hb1.size)⟩
    | some x =>
      obtain ⟨n, p⟩ := x
      have hbd := Wd.rvI_bounds s i n p hr
      have H := hide hr
      clear hr
      by_cases hno : 20000 < n ∨ s.size < p + n
      · go_enter Try.func6, Try.ntmps6
        go_wp2_with (first | (go_at_call 13; refine (specRShort_no s i _ n p hs H.out hno).mono ?_; rintro e w1 ⟨rfl, hb1⟩) | (go_at_call 14; refine (implRShort_no s i _ n p hs H.out hno).mono ?_; rintro e w2 ⟨rfl, hb2⟩))
        go_ret
        exact ⟨rfl, hb1.trans (hb2.mono hb1.size)⟩
      · go_enter Try.func6, Try.ntmps6
        go_wp2_with (first | (go_at_call 13; refine (specRShort_yes s i _ n p hs H.out (by omega) (by omega)).mono ?_; rintro e w1 ⟨rfl, hb1⟩) | (go_at_call 14; refine (implRShort_yes s i _ n p hs H.out (by omega) (by omega)).mono ?_; rintro e w2 ⟨rfl, hb2⟩))
        go_ret
        exact ⟨rfl, hb1.trans (hb2.mono hb1.size)⟩
  · have hs' : decide (1048576 < (s.size : Int)) = true := by simp; omega
    go_enter Try.func6, Try.ntmps6
    go_wp2
    go_ret
    exact ⟨rfl, Below.refl _ _⟩
end Go.Proofs.Ytpkgnpckolhjgag
