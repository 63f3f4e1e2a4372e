/- A number within bounds: the specification's. -/
import Derived.Test.YtmmchemgegmhhaaGreatDoorBase
namespace Go.Proofs.YtmmchemgegmhhaaGreatDoor
open Go.RowKit

theorem l01In_yes (x a b : Int) (w : World) (h1 : a ≤ x) (h2 : x ≤ b) :
    Calls Tryz.prog 43 #[.int .i64 x, .int .i64 a, .int .i64 b] w fun e w' => e = .returned (.bool true) ∧ w' = w := by
  have h1' : decide (a ≤ x) = true := by simp; omega
  have h2' : decide (x ≤ b) = true := by simp; omega
  go_enter Tryz.func43, Tryz.ntmps43
  go_wp2
  go_ret
  exact ⟨rfl, rfl⟩

theorem l01In_no (x a b : Int) (w : World) (h : x < a ∨ b < x) :
    Calls Tryz.prog 43 #[.int .i64 x, .int .i64 a, .int .i64 b] w fun e w' => e = .returned (.bool false) ∧ w' = w := by
  by_cases h1 : a ≤ x
  · have h1' : decide (a ≤ x) = true := by simp; omega
    have h2' : decide (x ≤ b) = false := by simp; omega
    go_enter Tryz.func43, Tryz.ntmps43
    go_wp2
    go_ret
    exact ⟨rfl, rfl⟩
  · have h1' : decide (a ≤ x) = false := by simp; omega
    go_enter Tryz.func43, Tryz.ntmps43
    go_wp2
    go_ret
    exact ⟨rfl, rfl⟩
end Go.Proofs.YtmmchemgegmhhaaGreatDoor
