/- Twelve drawn places. -/
import Derived.Test.YtijmlgdeeodehabDoorDraw3
import Derived.Test.YtijmlgdeeodehabDoorSegs
namespace Go.Proofs.YtijmlgdeeodehabDoor
open Go.RowKit

set_option maxRecDepth 100000 in
set_option maxHeartbeats 1000000 in
theorem drawPlaces_any (w : World) (ao : Option Addr) (len cap : Nat) (hlen : len ≤ 1048576) (hcode : Code w ao len) :
    Calls Tryd.prog 9 #[.slice ao len cap] w fun e w' => ∃ (v : Value) (zs : List Nat), e = .returned v ∧ zs.length = 12 ∧ (∀ z ∈ zs, z < 10000) ∧ w'.ownsRow w.heap.size 3 1 v 12 (zs.map iv) ∧ Below w.heap.size w w' := by
  have HC := hide hcode
  clear hcode
  go_enter Tryd.func9, Tryd.ntmps9
  go_wp2_with fail
  refine (new_any _ ao len cap hlen HC.out).mono ?_
  rintro e w1 ⟨g, rfl, hc1⟩
  have hgl := cur_lt hc1
  have hs1 := hc1.1.size
  have HU1 := hide hc1
  clear hc1
  go_wp2_with fail
  refine (byte_any w _ g ao len cap hlen HC.out HU1.out).mono ?_
  rintro e w2 ⟨x0, rfl, _, hc2, g2⟩
  have hs2 := g2.size
  have hgl2 := cur_lt hc2
  have HU2 := hide hc2
  clear hc2 g2
  go_wp2
  go_loopw [4, 5] (fun v ii wr => ∃ (k : Nat) (zs : List Nat), ii = .int .i64 k ∧ k ≤ 12 ∧ zs.length = k ∧ Hid (∀ z ∈ zs, z < 10000) ∧ wr.ownsRow w2.heap.size 3 1 v zs.length (zs.map iv) ∧ Hid (CurAt w wr g ao len cap) ∧ w2.heap.size ≤ wr.heap.size) (fun _ ii _ => 12 - (intOf ii).toNat)
  case atStart =>
    refine ⟨0, [], rfl, Nat.zero_le _, rfl, (fun z hz => by cases hz), World.ownsRow_lit w2 #[] 0 (Nat.le_refl _) (by unfold maxLen; omega) (by simp), cur_keep HU2.out ((Below.refl w2.heap.size w2).alloc (Nat.le_refl _) _) hgl2, by simp⟩
  case round =>
    obtain ⟨k, zs, rfl, hk, hl, HA, hown, HU3, hbs⟩ := hrel
    by_cases hlt : k < 12
    · have hlt' : decide ((k : Int) < 12) = true := by simp; omega
      have HO := hide hown
      have HLL := hide hl
      clear hown hl
      go_wp2_with fail
      refine (below_any w _ g ao len cap _ hlen (by omega) HC.out HU3.out).mono ?_
      rintro e w3 ⟨x, rfl, hx, _, hc3, g3⟩
      have hx' := hx (by omega)
      have hown3 := row_keep HO.out g3 hgl2
      have hs3 := g3.size
      have HU4 := hide hc3
      clear hc3 g3 hx
      have hll : zs.length ≤ 1000000 := by have := HLL.out; omega
      go_wp2_with (at_builtin; refine app_int w3 w3 w2.heap.size rfl _ _ rfl _ zs rfl hown3 rfl hll (Below.refl _ _) (by omega) ?_; intro v' w4 hown4 hb4 hs4)
      go_roundw
      case rel =>
        refine ⟨k + 1, zs ++ [x], by go_num, by omega, by have := HLL.out; simp; omega, ?_, hown4, cur_keep HU4.out hb4 hgl2, by omega⟩
        intro z hz
        rcases List.mem_append.1 hz with h | h
        · exact HA.out z h
        · simp only [List.mem_singleton] at h; omega
      case measure => simp [intOf]; omega
    · have hlt' : decide ((k : Int) < 12) = false := by simp; omega
      have hk12 : zs.length = 12 := by omega
      have HO := hide hown
      have HLL := hide hk12
      clear hown hl hk12
      go_wp2
      go_ret
      refine ⟨_, zs, rfl, HLL.out, HA.out, ?_, HU3.out.1⟩
      have := HO.out
      rw [HLL.out] at this
      exact ownsRow_mono this (by omega)
end Go.Proofs.YtijmlgdeeodehabDoor
