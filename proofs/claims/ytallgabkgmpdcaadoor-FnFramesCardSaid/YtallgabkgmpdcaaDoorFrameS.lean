/- A record in its frame: the specification's. -/
import Derived.Test.YtallgabkgmpdcaaDoorFrameP
import Derived.Test.YtallgabkgmpdcaaDoorVarS
import Derived.Test.YtallgabkgmpdcaaDoorSumS1
namespace Go.Proofs.YtallgabkgmpdcaaDoor
open Go.RowKit

theorem l01In_yes (x a b : Int) (w : World) (h1 : a ≤ x) (h2 : x ≤ b) :
    Calls Tryd.prog 29 #[.int .i64 x, .int .i64 a, .int .i64 b] w fun e w' => e = .returned (.bool true) ∧ w' = w := by
  have h1' : decide (a ≤ x) = true := by simp; omega
  have h2' : decide (x ≤ b) = true := by simp; omega
  go_enter Tryd.func29, Tryd.ntmps29
  go_wp2
  go_ret
  exact ⟨rfl, rfl⟩

theorem l01In_no (x a b : Int) (w : World) (h : x < a ∨ b < x) :
    Calls Tryd.prog 29 #[.int .i64 x, .int .i64 a, .int .i64 b] w fun e w' => e = .returned (.bool false) ∧ w' = w := by
  by_cases h1 : a ≤ x
  · have h1' : decide (a ≤ x) = true := by simp; omega
    have h2' : decide (x ≤ b) = false := by simp; omega
    go_enter Tryd.func29, Tryd.ntmps29
    go_wp2
    go_ret
    exact ⟨rfl, rfl⟩
  · have h1' : decide (a ≤ x) = false := by simp; omega
    go_enter Tryd.func29, Tryd.ntmps29
    go_wp2
    go_ret
    exact ⟨rfl, rfl⟩

set_option maxRecDepth 100000 in
set_option maxHeartbeats 400000 in
theorem specFrame_yes (t : ByteArray) (w : World) (h1 : 1 ≤ t.size) (h2 : t.size ≤ 9000) :
    Calls Tryd.prog 12 #[.string t] w fun e w' => e = .returned (.tuple #[.string (frameB t), .bool true]) ∧ Below w.heap.size w w' := by
  have HE : Hid (frameB t = ⟨(Wd.varF 5 t.size).toArray⟩ ++ ⟨(four (sumB 4294967295 t)).toArray⟩ ++ t) := rfl
  have hlt := sumB_lt t
  have h4 : (four (sumB 4294967295 t)).length = 4 := rfl
  have hv := Wd.varF_len 5 t.size
  go_enter Tryd.func12, Tryd.ntmps12
  go_wp2_with (first | (go_at_call 29; refine (l01In_yes _ _ _ _ (by omega) (by omega)).mono ?_; rintro e w0 ⟨rfl, rfl⟩) | (go_at_call 30; refine (l01Var_any t.size _ (by omega)).mono ?_; rintro e w1 ⟨rfl, b1⟩) | (go_at_call 32; refine (specOf_any t _ (by omega)).mono ?_; rintro e w2 ⟨rfl, rfl⟩) | (go_at_call 31; refine (specFour_any _ _ hlt).mono ?_; rintro e w3 ⟨rfl, b3⟩))
  go_ret2
  rw [HE.out]
  exact ⟨rfl, b1.trans (b3.mono b1.size)⟩

theorem specFrame_no (t : ByteArray) (w : World) (h : t.size < 1 ∨ 9000 < t.size) :
    Calls Tryd.prog 12 #[.string t] w fun e w' => e = .returned (.tuple #[.string ⟨#[]⟩, .bool false]) ∧ w' = w := by
  go_enter Tryd.func12, Tryd.ntmps12
  go_wp2_with (first | (go_at_call 29; refine (l01In_no _ _ _ _ (by omega)).mono ?_; rintro e w0 ⟨rfl, rfl⟩))
  go_ret2
  exact ⟨rfl, rfl⟩
end Go.Proofs.YtallgabkgmpdcaaDoor
