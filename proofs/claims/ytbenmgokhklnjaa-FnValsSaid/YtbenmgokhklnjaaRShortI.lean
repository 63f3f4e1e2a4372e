/- A text that stands behind its length: the program's reader. -/
import Derived.Test.YtbenmgokhklnjaaReadI
import Derived.Test.YtbenmgokhklnjaaCut
import Derived.Test.YtbenmgokhklnjaaClone
namespace Go.Proofs.Ytbenmgokhklnjaa
open Go.RowKit

theorem implRShort_none (s : ByteArray) (i : Int) (w : World) (hs : s.size ≤ 1048576) (h : Wd.rvI s i = none) :
    Calls Try.prog 67 #[.string s, .int .i64 i] w fun e w' => e = .returned (.tuple #[.string ⟨#[]⟩, .int .i64 0, .bool false]) ∧ Below w.heap.size w w' := by
  have H := hide h
  clear h
  go_enter Try.func67, Try.ntmps67
  go_wp2_with (go_at_call 66; refine (implRead_none s i _ hs H.out).mono ?_; rintro e w1 ⟨rfl, rfl⟩)
  go_ret3
  exact ⟨rfl, Below.refl _ _⟩

theorem implRShort_no (s : ByteArray) (i : Int) (w : World) (n p : Nat) (hs : s.size ≤ 1048576) (h : Wd.rvI s i = some (n, p)) (hno : 20000 < n ∨ s.size < p + n) :
    Calls Try.prog 67 #[.string s, .int .i64 i] w fun e w' => e = .returned (.tuple #[.string ⟨#[]⟩, .int .i64 0, .bool false]) ∧ Below w.heap.size w w' := by
  have hbd := Wd.rvI_bounds s i n p h
  have H := hide h
  clear h
  by_cases hn : 20000 < n
  · have hn' : decide (20000 < (n : Int)) = true := by simp; omega
    go_enter Try.func67, Try.ntmps67
    go_wp2_with (go_at_call 66; refine (implRead_some s i _ n p hs H.out).mono ?_; rintro e w1 ⟨rfl, rfl⟩)
    go_ret3
    exact ⟨rfl, Below.refl _ _⟩
  · have hn' : decide (20000 < (n : Int)) = false := by simp; omega
    have hn2 : decide ((s.size : Int) - (p : Int) < (n : Int)) = true := by simp; omega
    go_enter Try.func67, Try.ntmps67
    go_wp2_with (go_at_call 66; refine (implRead_some s i _ n p hs H.out).mono ?_; rintro e w1 ⟨rfl, rfl⟩)
    go_ret3
    exact ⟨rfl, Below.refl _ _⟩

theorem implRShort_yes (s : ByteArray) (i : Int) (w : World) (n p : Nat) (hs : s.size ≤ 1048576) (h : Wd.rvI s i = some (n, p)) (hn : n ≤ 20000) (hp : p + n ≤ s.size) :
    Calls Try.prog 67 #[.string s, .int .i64 i] w fun e w' => e = .returned (.tuple #[.string (s.extract p (p + n)), .int .i64 ((p : Int) + (n : Int)), .bool true]) ∧ Below w.heap.size w w' := by
  have hsl := cut_len s p n hp
  have H := hide h
  clear h
  have hn' : decide (20000 < (n : Int)) = false := by simp; omega
  have hn2 : decide ((s.size : Int) - (p : Int) < (n : Int)) = false := by simp; omega
  go_enter Try.func67, Try.ntmps67
  go_wp2_with (first | (go_at_call 66; refine (implRead_some s i _ n p hs H.out).mono ?_; rintro e w1 ⟨rfl, rfl⟩) | (go_at_call 47; refine (ownText_any _ _ (by simp only [ByteArray.size_extract]; omega)).mono ?_; rintro e w2 ⟨rfl, hb2⟩))
  go_ret3
  exact ⟨rfl, hb2⟩

end Go.Proofs.Ytbenmgokhklnjaa
