/- The law of ReadHint, but for the contracts of both functions. -/
import Derived.Test.YtmmchemgegmhhaaGreatDoorSpotL
import Derived.Test.YtmmchemgegmhhaaGreatDoorSumI
namespace Go.Proofs.YtmmchemgegmhhaaGreatDoor
open Go.RowKit

set_option maxRecDepth 100000 in
theorem markSpotS_nil (k : Int) (w : World) :
    Calls Tryz.prog 71 #[.slice none 0 0, .int .i64 k] w fun e w' => e = .returned (.int .i64 k) ∧ w' = w := by
  go_enter Tryz.func71, Tryz.ntmps71
  go_wp2
  go_loop [1, 5] (fun kk ii => kk = .int .i64 k ∧ ii = .int .i64 0) (fun _ _ => 0)
  case atStart => exact ⟨rfl, rfl⟩
  case round =>
    obtain ⟨rfl, rfl⟩ := hrel
    go_wp2
    go_ret
    exact ⟨rfl, rfl⟩
theorem markSpotS_own (v : Value) (fs : List SpotD) (B k : Nat) (w : World) (hn : fs.length ≤ 1048576) (hk0 : 0 < k) (hk : k ≤ 10000000) (h : RowSpot w B v fs) :
    Calls Tryz.prog 71 #[v, .int .i64 (k : Int)] w fun e w' => e = .returned (.int .i64 ((k + 4 * fs.length : Nat) : Int)) ∧ RowSpot w' B v (markSpotDs k fs.length) ∧ w.grownBy w' v.ownBlock := by
  rcases h with ⟨rfl, rfl⟩ | ⟨g, cap, C, rfl, hB, hC, hs, hI⟩
  · refine (markSpotS_nil _ _).mono ?_
    rintro e w1 ⟨rfl, rfl⟩
    exact ⟨rfl, .inl ⟨rfl, rfl⟩, World.grownBy.refl _ _⟩
  · refine (markSpotS_row g cap fs.length C k w hn hk0 hk hC hs).mono ?_
    rintro e w1 ⟨rfl, ⟨C1, hC1, hs1, hI1⟩, hg⟩
    refine ⟨rfl, .inr ⟨g, cap, C1, by rw [markSpotDs_length], hB, hC1, by rw [markSpotDs_length]; omega, by rw [markSpotDs_length]; exact hI1⟩, hg⟩

end Go.Proofs.YtmmchemgegmhhaaGreatDoor
