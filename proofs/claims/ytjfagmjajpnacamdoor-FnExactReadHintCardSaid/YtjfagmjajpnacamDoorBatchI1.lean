/- The program's BatchOk. -/
import Derived.Test.YtjfagmjajpnacamDoorBatchS0
import Derived.BigQuiet
namespace Go.Proofs.YtjfagmjajpnacamDoor
open Go.RowKit

/-- A key of 1 to 20 bytes. -/
def keyOkD (s : ByteArray) : Bool := decide (1 ≤ s.size) && decide (s.size ≤ 20)
theorem changeOkD_parts (A : ChangeD) : changeOkD A = (keyOkD A.key && (decide (A.value.size ≤ 2000) && !(A.gone && !decide (A.value.size = 0)))) := rfl

set_option maxRecDepth 100000 in
theorem keyOk_any (s : ByteArray) (w : World) (hs : s.size ≤ maxLen) : Calls Tryd.prog 37 #[.string s] w fun e w' => e = .returned (.bool (keyOkD s)) ∧ w' = w := by
  unfold maxLen at hs
  unfold keyOkD
  by_cases h : 1 ≤ s.size
  · have h' : decide ((1 : Int) ≤ (s.size : Int)) = true := by simp; omega
    have h2 : decide (1 ≤ s.size) = true := by simp; omega
    have h3 : decide ((s.size : Int) ≤ 20) = decide (s.size ≤ 20) := by rw [decide_eq_decide]; omega
    rw [h2, ← h3, Bool.true_and]
    clear h2 h3
    go_enter Tryd.func37, Tryd.ntmps37
    go_wp2
    go_ret
    exact ⟨rfl, rfl⟩
  · have h' : decide ((1 : Int) ≤ (s.size : Int)) = false := by simp; omega
    have h2 : decide (1 ≤ s.size) = false := by rw [decide_eq_false_iff_not]; omega
    rw [h2, Bool.false_and]
    clear h2
    go_enter Tryd.func37, Tryd.ntmps37
    go_wp2
    go_ret
    exact ⟨rfl, rfl⟩

/-- Right changes are small. -/
theorem okChg_small0 : ∀ (fs : List ChangeD) (p : Option ByteArray), okChg p fs = true → ∀ A ∈ fs, A.key.size ≤ 20 ∧ A.value.size ≤ 2000
  | [], _, _, _, h => absurd h List.not_mem_nil
  | B :: r, p, h, A, hA => by
    have h1 : changeOkD B = true ∧ okChg (some B.key) r = true := by
      cases p <;> simp only [okChg, Bool.and_eq_true] at h
      · exact h
      · exact ⟨h.1, h.2.2⟩
    rcases List.mem_cons.1 hA with rfl | hA
    · have := h1.1
      simp only [changeOkD, Bool.and_eq_true, decide_eq_true_eq] at this
      exact ⟨this.1.2, this.2.1⟩
    · exact okChg_small0 r _ h1.2 A hA
end Go.Proofs.YtjfagmjajpnacamDoor
