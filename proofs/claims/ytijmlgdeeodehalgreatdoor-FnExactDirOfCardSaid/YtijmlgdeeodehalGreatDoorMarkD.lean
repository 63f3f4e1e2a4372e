/- Disks of a call's own are marked, and held against their marks. -/
import Derived.Test.YtijmlgdeeodehalGreatDoorMarkF
namespace Go.Proofs.YtijmlgdeeodehalGreatDoor
open Go.RowKit

set_option maxRecDepth 100000 in
theorem markFileS_nil (k : Int) (w : World) :
    Calls Tryz.prog 26 #[.slice none 0 0, .int .i64 k] w fun e w' => e = .returned (.int .i64 k) ∧ w' = w := by
  go_enter Tryz.func26, Tryz.ntmps26
  go_wp2
  go_loop [1, 5] (fun kk ii => kk = .int .i64 k ∧ ii = .int .i64 0) (fun _ _ => 0)
  case atStart => exact ⟨rfl, rfl⟩
  case round =>
    obtain ⟨rfl, rfl⟩ := hrel
    go_wp2
    go_ret
    exact ⟨rfl, rfl⟩

set_option maxRecDepth 100000 in
theorem markDisk_row (v : Value) (fs : List FileD) (B k : Nat) (w : World) (hn : fs.length ≤ 1048576) (hk0 : 0 < k) (hk : k ≤ 10000000) (h : RowF w B v fs) :
    Calls Tryz.prog 10 #[.agg #[v], .int .i64 (k : Int)] w fun e w' => e = .returned (.int .i64 ((k + 3 * fs.length : Nat) : Int)) ∧ RowF w' B v (marksF k fs.length) ∧ w.grownBy w' v.ownBlock := by
  rcases h with ⟨rfl, rfl⟩ | ⟨g, cap, C, rfl, hB, hC, hs, hI⟩
  · go_enter Tryz.func10, Tryz.ntmps10
    go_wp2_with fail
    refine (markFileS_nil _ _).mono ?_
    rintro e w1 ⟨rfl, rfl⟩
    go_wp2
    go_ret
    exact ⟨rfl, .inl ⟨rfl, rfl⟩, grownBy_below _ ((Below.refl _ w).alloc (Nat.le_refl _) _)⟩
  · have hgw : g < w.heap.size := (Array.getElem?_eq_some_iff.1 hC).1
    have HC := hide hC
    clear hC hI
    obtain ⟨n, hN⟩ : ∃ n, n = fs.length := ⟨_, rfl⟩
    rw [← hN] at hn hs ⊢
    clear hN
    have b0 : Below w.heap.size w (w.alloc (.cells #[.slice (some ⟨g, 0, none⟩) n cap] 31)) := (Below.refl _ w).alloc (Nat.le_refl _) _
    have HB0 := hide b0
    clear b0
    go_enter Tryz.func10, Tryz.ntmps10
    go_wp2_with fail
    refine (markFileS_row g cap n C k _ hn hk0 hk ((HB0.out.block g hgw).trans HC.out) hs).mono ?_
    rintro e w1 ⟨rfl, ⟨C1, hC1, hCs, hI1⟩, hg1⟩
    have H1 := hide hC1
    have H2 := hide hI1
    have H3 := hide hg1
    clear hC1 hI1 hg1
    go_wp2
    go_ret
    have hl := marksF_length k n
    refine ⟨rfl, .inr ⟨g, cap, C1, by rw [hl], hB, H1.out, by omega, by rw [hl]; exact H2.out⟩, grownBy_trans (grownBy_below _ HB0.out) H3.out⟩

end Go.Proofs.YtijmlgdeeodehalGreatDoor
