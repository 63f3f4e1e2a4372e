/- How many bytes a number has. -/
import Derived.Test.YtbenmgokhklnjaaBase
namespace Go.Proofs.Ytbenmgokhklnjaa
open Go.RowKit

theorem Wd.varF_length : ∀ f n, (Wd.varF f n).length ≤ f
  | 0, _ => by simp [Wd.varF]
  | f + 1, n => by
    have := Wd.varF_length f (n / 128)
    by_cases h : n < 128
    · rw [Wd.varF_low f n h]; simp
    · rw [Wd.varF_high f n h]; simp; omega

end Go.Proofs.Ytbenmgokhklnjaa
