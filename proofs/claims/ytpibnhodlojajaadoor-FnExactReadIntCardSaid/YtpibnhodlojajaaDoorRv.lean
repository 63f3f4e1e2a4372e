/- What is read of a number at any place: the answer, and its bounds. -/
import Derived.Test.YtpibnhodlojajaaDoorBase
namespace Go.Proofs.YtpibnhodlojajaaDoor
open Go.RowKit

/-- The answer of a reader of a number. -/
def rvAns : Option (Nat × Nat) → Value
  | some (n, p) => .tuple #[.int .i64 n, .int .i64 p, .bool true]
  | none => .tuple #[.int .i64 0, .int .i64 0, .bool false]

theorem ret3 {a a' b b' : Int} {c : Bool} (h1 : a = a') (h2 : b = b') : Ending.returned (.tuple #[.int .i64 a, .int .i64 b, .bool c]) = .returned (.tuple #[.int .i64 a', .int .i64 b', .bool c]) := by rw [h1, h2]

theorem Wd.rvF_bounds (s : ByteArray) : ∀ f p k q n a b, Wd.rvF s f p k q n = some (a, b) → a ≤ 1000000000 ∧ p < b ∧ b ≤ s.size := by
  intro f
  induction f with
  | zero => intro p k q n a b h; simp [Wd.rvF] at h
  | succ f ih =>
    intro p k q n a b h
    by_cases h1 : p < s.size
    · by_cases h2 : Wd.bt s p < 128
      · by_cases h3 : n + Wd.bt s p % 128 * q ≤ 1000000000 ∧ (0 < Wd.bt s p ∨ k = 0)
        · rw [Wd.rvF_last s f p k q n h1 h2 h3.1 h3.2] at h
          simp at h
          omega
        · rw [Wd.rvF_not s f p k q n h2 h3] at h; simp at h
      · rw [Wd.rvF_more s f p k q n h1 h2] at h
        have := ih _ _ _ _ _ _ h
        omega
    · rw [Wd.rvF_end s _ p k q n h1] at h; simp at h

theorem Wd.rv_bounds (s : ByteArray) (i a b : Nat) (h : Wd.rv s i = some (a, b)) : a ≤ 1000000000 ∧ i < b ∧ b ≤ s.size := Wd.rvF_bounds s _ _ _ _ _ _ _ h

/-- What is read at a place that may lie outside. -/
def Wd.rvI (s : ByteArray) (i : Int) : Option (Nat × Nat) := if i < 0 ∨ (s.size : Int) < i then none else Wd.rv s i.toNat

theorem Wd.rvI_bounds (s : ByteArray) (i : Int) (a b : Nat) (h : Wd.rvI s i = some (a, b)) : a ≤ 1000000000 ∧ b ≤ s.size := by
  unfold Wd.rvI at h
  split at h
  · simp at h
  · have := Wd.rv_bounds s _ _ _ h; omega

end Go.Proofs.YtpibnhodlojajaaDoor
