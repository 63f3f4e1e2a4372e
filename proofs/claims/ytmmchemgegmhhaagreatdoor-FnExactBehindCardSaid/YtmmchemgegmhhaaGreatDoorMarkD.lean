/- Disks of a call's own are marked, and held against their marks. -/
import Derived.Test.YtmmchemgegmhhaaGreatDoorMarkF
namespace Go.Proofs.YtmmchemgegmhhaaGreatDoor
open Go.RowKit

set_option maxRecDepth 100000 in
theorem markFileS_nil (k : Int) (w : World) :
    Calls Tryz.prog 114 #[.slice none 0 0, .int .i64 k] w fun e w' => e = .returned (.int .i64 k) ∧ w' = w := by
  go_enter Tryz.func114, Tryz.ntmps114
  go_wp2
  go_loop [1, 5] (fun kk ii => kk = .int .i64 k ∧ ii = .int .i64 0) (fun _ _ => 0)
  case atStart => exact ⟨rfl, rfl⟩
  case round =>
    obtain ⟨rfl, rfl⟩ := hrel
    go_wp2
    go_ret
    exact ⟨rfl, rfl⟩

set_option maxRecDepth 100000 in
theorem markDisk_row (v : Value) (fs : List FileD) (B k : Nat) (w : World) (hn : fs.length ≤ 1048576) (hk0 : 0 < k) (hk : k ≤ 10000000) (h : RowF w B v fs) :
    Calls Tryz.prog 70 #[.agg #[v], .int .i64 (k : Int)] w fun e w' => e = .returned (.int .i64 ((k + 3 * fs.length : Nat) : Int)) ∧ RowF w' B v (marksF k fs.length) ∧ w.grownBy w' v.ownBlock := by
  rcases h with ⟨rfl, rfl⟩ | ⟨g, cap, C, rfl, hB, hC, hs, hI⟩
  · go_enter Tryz.func70, Tryz.ntmps70
    go_wp2_with fail
    refine (markFileS_nil _ _).mono ?_
    rintro e w1 ⟨rfl, rfl⟩
    go_wp2
    go_ret
    exact ⟨rfl, .inl ⟨rfl, rfl⟩, grownBy_below _ ((Below.refl _ w).alloc (Nat.le_refl _) _)⟩
  · have hgw : g < w.heap.size := (Array.getElem?_eq_some_iff.1 hC).1
    have HC := hide hC
    clear hC hI
    obtain ⟨n, hN⟩ : ∃ n, n = fs.length := ⟨_, rfl⟩
    rw [← hN] at hn hs ⊢
    clear hN
    have b0 : Below w.heap.size w (w.alloc (.cells #[.slice (some ⟨g, 0, none⟩) n cap] 27)) := (Below.refl _ w).alloc (Nat.le_refl _) _
    have HB0 := hide b0
    clear b0
    go_enter Tryz.func70, Tryz.ntmps70
    go_wp2_with fail
    refine (markFileS_row g cap n C k _ hn hk0 hk ((HB0.out.block g hgw).trans HC.out) hs).mono ?_
    rintro e w1 ⟨rfl, ⟨C1, hC1, hCs, hI1⟩, hg1⟩
    have H1 := hide hC1
    have H2 := hide hI1
    have H3 := hide hg1
    clear hC1 hI1 hg1
    go_wp2
    go_ret
    have hl := marksF_length k n
    refine ⟨rfl, .inr ⟨g, cap, C1, by rw [hl], hB, H1.out, by omega, by rw [hl]; exact H2.out⟩, grownBy_trans (grownBy_below _ HB0.out) H3.out⟩

set_option maxRecDepth 100000 in
set_option maxHeartbeats 1600000 in
theorem heldFileS_any (ao : Option Addr) (cap n k : Nat) (w : World) (hn : n ≤ 1048576) (hk0 : 0 < k) (hk : k ≤ 10000000) (h : FilesAt w ao (marksF k n)) :
    Calls Tryz.prog 124 #[.slice ao n cap, .int .i64 (k : Int)] w fun e w' => e = .returned (.int .i64 ((k + 3 * n : Nat) : Int)) ∧ Below w.heap.size w w' := by
  have HF := hide h
  clear h
  go_enter Tryz.func124, Tryz.ntmps124
  go_wp2
  go_loopw [1, 5] (fun kk ii wr => ∃ (j : Nat), kk = .int .i64 ((k + 3 * j : Nat) : Int) ∧ ii = .int .i64 j ∧ j ≤ n ∧ Hid (Below w.heap.size w wr)) (fun _ ii _ => n - (intOf ii).toNat)
  case atStart => exact ⟨0, rfl, rfl, Nat.zero_le _, Below.refl _ _⟩
  case round =>
    obtain ⟨j, rfl, rfl, hj, HB⟩ := hrel
    by_cases hlt : j < n
    · have hlt' : decide ((j : Int) < (n : Int)) = true := by simp; omega
      have hi0 : (0 : Int) ≤ (j : Int) := by omega
      have hi1 : (j : Int) < (n : Int) := by omega
      obtain ⟨b, off, rfl, hbw, hc0, hc1, hc2⟩ := filesAt_keep HF.out HB.out j (by rw [marksF_length]; exact hlt)
      rw [marksF_get] at hc0 hc1 hc2
      obtain ⟨K, HK⟩ : ∃ K : Nat, Hid (K = k + 3 * j) := ⟨_, hide rfl⟩
      have hKb : 0 < K ∧ K ≤ 14000000 := by have := HK.out; omega
      rw [← HK.out] at hc0 hc1 hc2 ⊢
      have hd0 : wr.cell? ⟨b, off + j * 3, none⟩ = some (.string ⟨(mk K).toArray⟩) := hc0
      have hd1 : wr.cell? ⟨b, off + j * 3 + 1, none⟩ = some (.string ⟨(mk (K + 1)).toArray⟩) := hc1
      have hd2 : wr.cell? ⟨b, off + j * 3 + 2, none⟩ = some (.int .i64 ((K : Int) + 1 + 1)) := hc2.trans (by simp only [markF]; congr 2)
      clear hc0 hc1 hc2
      have he0 : ((⟨(mk K).toArray⟩ : ByteArray).toList == (⟨(mk K).toArray⟩ : ByteArray).toList) = true := beq_self_eq_true _
      have he1 : ((⟨(mk (K + 1)).toArray⟩ : ByteArray).toList == (⟨(mk (K + 1)).toArray⟩ : ByteArray).toList) = true := beq_self_eq_true _
      obtain ⟨s0, hs0⟩ : ∃ s0 : ByteArray, s0 = ⟨(mk K).toArray⟩ := ⟨_, rfl⟩
      obtain ⟨s1, hs1⟩ : ∃ s1 : ByteArray, s1 = ⟨(mk (K + 1)).toArray⟩ := ⟨_, rfl⟩
      have hm0 : ∀ W, Calls Tryz.prog 72 #[.int .i64 (K : Int)] W fun e w' => e = .returned (.string s0) ∧ Below W.heap.size W w' := fun W => by rw [hs0]; exact mark_any K W (by omega) (by omega)
      have hm1 : ∀ W, Calls Tryz.prog 72 #[.int .i64 ((K : Int) + 1)] W fun e w' => e = .returned (.string s1) ∧ Below W.heap.size W w' := fun W => by rw [hs1]; exact mark_next K W (by omega)
      rw [← hs0] at hd0 he0
      rw [← hs1] at hd1 he1
      have HM0 := hide hm0
      have HM1 := hide hm1
      clear hs0 hs1 hm0 hm1
      have HBW := hide hbw
      clear hbw
      go_wp2_with fail
      go_region_held3 (fun w' => w'.cell? ⟨b, off + j * 3, none⟩ = some (.string s0)) (first | go_keep | (exact (b1.cell (p := ⟨b, off + j * 3, none⟩) HBW.out).trans hd0)) ((go_at_call 72; refine (HM0.out _).mono ?_; rintro e w1 ⟨rfl, b1⟩))
      have B1 : Hid (Below wr.heap.size wr w1) := (Below.refl _ _).drew.trans b1
      have hg1 : w1.cell? ⟨b, off + j * 3 + 1, none⟩ = some (.string s1) := (B1.out.cell (p := ⟨b, off + j * 3 + 1, none⟩) HBW.out).trans hd1
      have hbw1 : b < w1.heap.size := Nat.lt_of_lt_of_le HBW.out B1.out.size
      clear b1
      go_wp2_with fail
      go_region_held3 (fun w' => w'.cell? ⟨b, off + j * 3 + 1, none⟩ = some (.string s1)) (first | go_keep | (exact (b2.cell (p := ⟨b, off + j * 3 + 1, none⟩) hbw1).trans hg1)) ((go_at_call 72; refine (HM1.out _).mono ?_; rintro e w2 ⟨rfl, b2⟩))
      have B2 : Hid (Below wr.heap.size wr w2) := B1.out.trans (((Below.refl _ _).drew.trans b2).mono B1.out.size)
      have hg2 : w2.cell? ⟨b, off + j * 3 + 2, none⟩ = some (.int .i64 ((K : Int) + 1 + 1)) := (B2.out.cell (p := ⟨b, off + j * 3 + 2, none⟩) HBW.out).trans hd2
      clear b2
      have he2 : (((K : Int) + 1 + 1) == ((K : Int) + 1 + 1)) = true := beq_self_eq_true _
      go_wp2
      go_roundw
      case rel =>
        refine ⟨j + 1, ?_, by go_num, by omega, HB.out.trans (B2.out.mono HB.out.size)⟩
        have := HK.out
        congr 1
        omega
      case measure => simp [intOf]; omega
    · have hlt' : decide ((j : Int) < (n : Int)) = false := by simp; omega
      have hje : j = n := by omega
      subst hje
      go_wp2
      go_ret
      exact ⟨rfl, HB.out⟩

set_option maxRecDepth 100000 in
theorem heldDisk_row (v : Value) (n B k : Nat) (w : World) (hn : n ≤ 1048576) (hk0 : 0 < k) (hk : k ≤ 10000000) (h : RowF w B v (marksF k n)) :
    Calls Tryz.prog 79 #[.agg #[v], .int .i64 (k : Int)] w fun e w' => e = .returned (.int .i64 ((k + 3 * n : Nat) : Int)) ∧ Below w.heap.size w w' := by
  obtain ⟨ao, cap, rfl, h1⟩ := rowF_at h
  clear h
  rw [marksF_length]
  have H1 := hide h1
  clear h1
  have HB0 : Hid (Below w.heap.size w (w.alloc (.cells #[.slice ao n cap] 27))) := (Below.refl _ w).alloc (Nat.le_refl _) _
  obtain ⟨R, HR⟩ : ∃ R : Int, Hid (((k + 3 * n : Nat) : Int) = R) := ⟨_, hide rfl⟩
  have hneg : decide (R < 0) = false := by have := HR.out; simp; omega
  rw [HR.out]
  go_enter Tryz.func79, Tryz.ntmps79
  go_wp2_with fail
  refine (heldFileS_any ao cap n k _ hn hk0 hk (filesAt_keep H1.out HB0.out)).mono ?_
  rintro e w1 ⟨rfl, b1⟩
  rw [HR.out]
  have HB1 := hide (HB0.out.trans (b1.mono HB0.out.size))
  clear b1
  go_wp2
  go_ret
  exact ⟨rfl, HB1.out⟩
end Go.Proofs.YtmmchemgegmhhaaGreatDoor
