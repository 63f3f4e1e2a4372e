/- The law on SumMore: the program's sum is the specification's. -/
import Derived.Test.YtaalegphjemknahDoorSumS
import Derived.OpenShut
namespace Go.Proofs.YtaalegphjemknahDoor
open Go.RowKit Go.ChangeShapes

theorem sumMore_walk_nat (q : Nat) (s : ByteArray) (w : World) (hq : q < 4294967296) (hT : SumTab w) :
    Calls Tryd.prog 5 #[.int .u32 q, .string s] w fun e w' => e = .returned (.bool true) ∧ Below w.heap.size w w' := by
  have HT := hide hT
  clear hT
  by_cases hs : s.size ≤ 1048576
  · have hs' : decide (1048576 < (s.size : Int)) = false := by simp; omega
    go_enter Tryd.func5, Tryd.ntmps5
    go_wp2_with (first | (go_at_call 13; refine (specMore_any q s _ hq (by omega)).mono ?_; rintro e w' ⟨rfl, rfl⟩) | (go_at_call 14; refine (sumMore_any q s _ hq (by omega) HT.out).mono ?_; rintro e w' ⟨rfl, rfl⟩))
    go_ret
    exact ⟨rfl, Below.refl _ _⟩
  · have hs' : decide (1048576 < (s.size : Int)) = true := by simp; omega
    go_enter Tryd.func5, Tryd.ntmps5
    go_wp2
    go_ret
    exact ⟨rfl, Below.refl _ _⟩

theorem sumMore_walk (q : Int) (s : ByteArray) (w : World) (hq : (Lit.int .u32 q).wf = true) (hT : SumTab w) :
    Calls Tryd.prog 5 #[.int .u32 q, .string s] w fun e w' => e = .returned (.bool true) ∧ Below w.heap.size w w' := by
  have hb := bounds_u32 hq
  obtain ⟨n, rfl⟩ := Int.eq_ofNat_of_zero_le hb.1
  exact sumMore_walk_nat n s w (by omega) hT

end Go.Proofs.YtaalegphjemknahDoor
