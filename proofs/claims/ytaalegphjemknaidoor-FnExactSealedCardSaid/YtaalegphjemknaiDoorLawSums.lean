/- The laws on SumOf, Sealed and Unsealed: the program answers as the specification. -/
import Derived.Test.YtaalegphjemknaiDoorSumS2
import Derived.WalkSmall
namespace Go.Proofs.YtaalegphjemknaiDoor
open Go.RowKit

theorem txt_self (a : ByteArray) : (a.toList == a.toList) = true := beq_self_eq_true _

theorem sumOf_walk (s : ByteArray) (w : World) (hT : SumTab w) :
    Calls Tryd.prog 3 #[.string s] w fun e w' => e = .returned (.bool true) ∧ Below w.heap.size w w' := by
  have HT := hide hT
  clear hT
  by_cases hs : s.size ≤ 1048576
  · have hs' : decide (1048576 < (s.size : Int)) = false := by simp; omega
    go_enter Tryd.func3, Tryd.ntmps3
    go_wp2_with (first | (go_at_call 6; refine (specOf_any s _ (by omega)).mono ?_; rintro e w' ⟨rfl, rfl⟩) | (go_at_call 7; refine (sumOf_any s _ (by omega) HT.out).mono ?_; rintro e w' ⟨rfl, rfl⟩))
    go_ret
    exact ⟨rfl, Below.refl _ _⟩
  · have hs' : decide (1048576 < (s.size : Int)) = true := by simp; omega
    go_enter Tryd.func3, Tryd.ntmps3
    go_wp2
    go_ret
    exact ⟨rfl, Below.refl _ _⟩

set_option maxRecDepth 100000 in
set_option maxHeartbeats 800000 in
theorem sealed_walk (s : ByteArray) (w : World) (hT : SumTab w) :
    Calls Tryd.prog 4 #[.string s] w fun e w' => e = .returned (.bool true) ∧ Below w.heap.size w w' := by
  have HT := hide hT
  clear hT
  by_cases hs : s.size ≤ 1048576
  · have hs' : decide (1048576 < (s.size : Int)) = false := by simp; omega
    by_cases hb : s.size ≤ 20000
    · have hself := txt_self (sealB s)
      go_enter Tryd.func4, Tryd.ntmps4
      go_wp2_with (first | (go_at_call 8; refine (specSealed_any s _ hb).mono ?_; rintro e w1 ⟨rfl, b1⟩) | (go_at_call 9; refine (sealed_any s _ hb (sumTab_later b1 HT.out)).mono ?_; rintro e w2 ⟨rfl, b2⟩))
      go_ret
      exact ⟨rfl, b1.trans (b2.mono b1.size)⟩
    · go_enter Tryd.func4, Tryd.ntmps4
      go_wp2_with (first | (go_at_call 8; refine (specSealed_no s _ (by omega)).mono ?_; rintro e w1 ⟨rfl, rfl⟩) | (go_at_call 9; refine (sealed_no s _ (by omega)).mono ?_; rintro e w2 ⟨rfl, rfl⟩))
      go_ret
      exact ⟨rfl, Below.refl _ _⟩
  · have hs' : decide (1048576 < (s.size : Int)) = true := by simp; omega
    go_enter Tryd.func4, Tryd.ntmps4
    go_wp2
    go_ret
    exact ⟨rfl, Below.refl _ _⟩

set_option maxRecDepth 100000 in
set_option maxHeartbeats 800000 in
theorem unsealed_walk (s : ByteArray) (w : World) (hT : SumTab w) :
    Calls Tryd.prog 5 #[.string s] w fun e w' => e = .returned (.bool true) ∧ Below w.heap.size w w' := by
  have HT := hide hT
  clear hT
  by_cases hs : s.size ≤ 1048576
  · have hs' : decide (1048576 < (s.size : Int)) = false := by simp; omega
    by_cases h4 : 4 ≤ s.size
    · by_cases hb : s.size ≤ 20004
      · by_cases he : sealB (headB s) = s
        · have HE := hide he
          have hself := txt_self (headB s)
          clear he
          go_enter Tryd.func5, Tryd.ntmps5
          go_wp2_with (first | (go_at_call 10; refine (specUnsealed_yes s _ h4 hb HE.out).mono ?_; rintro e w1 ⟨rfl, b1⟩) | (go_at_call 11; refine (unsealed_yes s _ h4 hb HE.out (sumTab_later b1 HT.out)).mono ?_; rintro e w2 ⟨rfl, b2⟩))
          go_ret
          exact ⟨rfl, b1.trans (b2.mono b1.size)⟩
        · have HE := hide he
          clear he
          go_enter Tryd.func5, Tryd.ntmps5
          go_wp2_with (first | (go_at_call 10; refine (specUnsealed_no s _ h4 hb HE.out).mono ?_; rintro e w1 ⟨rfl, b1⟩) | (go_at_call 11; refine (unsealed_no s _ h4 hs (fun _ => HE.out) (sumTab_later b1 HT.out)).mono ?_; rintro e w2 ⟨rfl, b2⟩))
          go_ret
          exact ⟨rfl, b1.trans (b2.mono b1.size)⟩
      · go_enter Tryd.func5, Tryd.ntmps5
        go_wp2_with (first | (go_at_call 10; refine (specUnsealed_long s _ (by omega) hs).mono ?_; rintro e w1 ⟨rfl, b1⟩) | (go_at_call 11; refine (unsealed_no s _ h4 hs (fun h => absurd h hb) (sumTab_later b1 HT.out)).mono ?_; rintro e w2 ⟨rfl, b2⟩))
        go_ret
        exact ⟨rfl, b1.trans (b2.mono b1.size)⟩
    · go_enter Tryd.func5, Tryd.ntmps5
      go_wp2_with (first | (go_at_call 10; refine (specUnsealed_short s _ (by omega)).mono ?_; rintro e w1 ⟨rfl, b1⟩) | (go_at_call 11; refine (unsealed_short s _ (by omega)).mono ?_; rintro e w2 ⟨rfl, rfl⟩))
      go_ret
      exact ⟨rfl, b1⟩
  · have hs' : decide (1048576 < (s.size : Int)) = true := by simp; omega
    go_enter Tryd.func5, Tryd.ntmps5
    go_wp2
    go_ret
    exact ⟨rfl, Below.refl _ _⟩

end Go.Proofs.YtaalegphjemknaiDoor
