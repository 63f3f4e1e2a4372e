/- Two rows of texts that are the same, told so. -/
import Derived.Test.YtnoalenfeakcpaaDoorTxtA
import Derived.BigQuiet
namespace Go.Proofs.YtnoalenfeakcpaaDoor
open Go.RowKit

set_option maxRecDepth 100000 in
set_option maxHeartbeats 800000 in
theorem sameTexts_same (ts : List ByteArray) (ao ao2 : Option Addr) (cap cap2 : Nat) (w : World) (hl : ts.length ≤ maxLen) (h1 : TextsAt w ao ts) (h2 : TextsAt w ao2 ts) :
    Calls Tryd.prog 16 #[.slice ao ts.length cap, .slice ao2 ts.length cap2] w fun e w' => e = .returned (.bool true) ∧ Below w.heap.size w w' := by
  have H1 := hide h1
  have H2 := hide h2
  clear h1 h2
  unfold maxLen at hl
  have hne : (!((ts.length : Int) == (ts.length : Int))) = false := by simp
  go_enter Tryd.func16, Tryd.ntmps16
  go_wp2
  go_loopw [5] (fun ii wr => ∃ (k q : Nat), ii = .int .i64 k ∧ k ≤ ts.length ∧ wr = w.drewN q) (fun ii _ => ts.length - (intOf ii).toNat)
  case atStart => exact ⟨0, 0, rfl, Nat.zero_le _, rfl⟩
  case round =>
    obtain ⟨k, q, rfl, hk, rfl⟩ := hrel
    by_cases hlt : k < ts.length
    · have hlt' : decide ((k : Int) < (ts.length : Int)) = true := by simp; omega
      obtain ⟨b, off, rfl, hbw, hc0⟩ := H1.out k hlt
      obtain ⟨b', off', rfl, hbw', hd0⟩ := H2.out k hlt
      generalize ts[k] = F at hc0 hd0
      have hi0 : (0 : Int) ≤ (k : Int) := by omega
      have hi1 : (k : Int) < (ts.length : Int) := by omega
      have hee : (F.toList == F.toList) = true := beq_self_eq_true _
      go_wp2
      go_quiet (fail)
      go_wp2
      go_roundw
      case rel => exact ⟨k + 1, q + nq, by go_num, by omega, rfl⟩
      case measure => simp [intOf]; omega
    · have hlt' : decide ((k : Int) < (ts.length : Int)) = false := by simp; omega
      go_wp2
      go_ret
      exact ⟨rfl, drewN_below w q⟩
end Go.Proofs.YtnoalenfeakcpaaDoor
