/- Two rows of the same changes are the same (the laws' sameChanges). -/
import Derived.Test.YtijmlgdeeodehabDoorChangeL
import Derived.WalkSmall
import Derived.Laws.StructEq
import Derived.BigQuiet
namespace Go.Proofs.YtijmlgdeeodehabDoor
open Go.RowKit

theorem neq_change (F : ChangeD) : ∀ W : World, (binOp .neq 61 (.agg #[.string F.key, .string F.value, .bool F.gone]) (.agg #[.string F.key, .string F.value, .bool F.gone])).run Tryd.prog W = .ok (.bool false) W := by
  intro W
  have hst : Tryd.prog.stoodInHeld 61 = false := by kernel_rfl
  have hfl : Tryd.prog.underlying 61 = some (.struct (Tryd.prog.fieldsOf 61)) := by kernel_rfl
  rw [run_neq_struct, run_equalIn_struct W 9999 61 _ _ hfl hst]
  clear hfl hst
  simp [go_sem]

set_option maxRecDepth 100000 in
set_option maxHeartbeats 1000000 in
theorem sameChanges_same (fs : List ChangeD) (ao ao2 : Option Addr) (cap cap2 : Nat) (w : World) (hl : fs.length ≤ 1048576) (h1 : ChangesAt w ao fs) (h2 : ChangesAt w ao2 fs) :
    Calls Tryd.prog 11 #[.slice ao fs.length cap, .slice ao2 fs.length cap2] w fun e w' => e = .returned (.bool true) ∧ Below w.heap.size w w' := by
  have H1 := hide h1
  have H2 := hide h2
  clear h1 h2
  have hne : (!((fs.length : Int) == (fs.length : Int))) = false := by simp
  go_enter Tryd.func11, Tryd.ntmps11
  go_wp2
  go_loopw [5] (fun ii wr => ∃ (k q : Nat), ii = .int .i64 k ∧ k ≤ fs.length ∧ wr = w.drewN q) (fun ii _ => fs.length - (intOf ii).toNat)
  case atStart => exact ⟨0, 0, rfl, Nat.zero_le _, rfl⟩
  case round =>
    obtain ⟨k, q, rfl, hk, rfl⟩ := hrel
    by_cases hlt : k < fs.length
    · have hlt' : decide ((k : Int) < (fs.length : Int)) = true := by simp; omega
      obtain ⟨b, off, rfl, hbw, hc0, hc1, hc2⟩ := H1.out k hlt
      obtain ⟨b', off', rfl, hbw', hd0, hd1, hd2⟩ := H2.out k hlt
      generalize fs[k] = F at hc0 hc1 hc2 hd0 hd1 hd2
      have hgd : Tryd.prog.eqGuardType Tryd.prog.depth 61 = false := by kernel_rfl
      have hneq := neq_change F
      have hi0 : (0 : Int) ≤ (k : Int) := by omega
      have hi1 : (k : Int) < (fs.length : Int) := by omega
      go_wp2
      go_quiet (fail)
      go_wp2
      go_roundw
      case rel => exact ⟨k + 1, q + nq, by go_num, by omega, by simp⟩
      case measure => simp [intOf]; omega
    · have hlt' : decide ((k : Int) < (fs.length : Int)) = false := by simp; omega
      go_wp2
      go_ret
      exact ⟨rfl, drewN_below w q⟩
end Go.Proofs.YtijmlgdeeodehabDoor
