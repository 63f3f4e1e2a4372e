/- A record in its frame, and the frame at a place: the program's. -/
import Derived.Test.YtmmchemgegmhhaaGreatDoorFrameP
import Derived.Test.YtmmchemgegmhhaaGreatDoorVarI
import Derived.Test.YtmmchemgegmhhaaGreatDoorReadI
import Derived.Test.YtmmchemgegmhhaaGreatDoorCutAt
namespace Go.Proofs.YtmmchemgegmhhaaGreatDoor
open Go.RowKit

theorem lenOk_yes (n : Nat) (w : World) (h1 : 1 ≤ n) (h2 : n ≤ 9000) :
    Calls Tryz.prog 126 #[.int .i64 n] w fun e w' => e = .returned (.bool true) ∧ w' = w := by
  have h1' : decide ((1 : Int) ≤ (n : Int)) = true := by simp; omega
  have h2' : decide ((n : Int) ≤ 9000) = true := by simp; omega
  go_enter Tryz.func126, Tryz.ntmps126
  go_wp2
  go_ret
  exact ⟨rfl, rfl⟩

theorem lenOk_no (n : Nat) (w : World) (h : n < 1 ∨ 9000 < n) :
    Calls Tryz.prog 126 #[.int .i64 n] w fun e w' => e = .returned (.bool false) ∧ w' = w := by
  rcases h with h | h
  · have h1' : decide ((1 : Int) ≤ (n : Int)) = false := by simp; omega
    go_enter Tryz.func126, Tryz.ntmps126
    go_wp2
    go_ret
    exact ⟨rfl, rfl⟩
  · have h1' : decide ((1 : Int) ≤ (n : Int)) = true := by simp; omega
    have h2' : decide ((n : Int) ≤ 9000) = false := by simp; omega
    go_enter Tryz.func126, Tryz.ntmps126
    go_wp2
    go_ret
    exact ⟨rfl, rfl⟩

set_option maxRecDepth 100000 in
set_option maxHeartbeats 400000 in
theorem frame_yes (t : ByteArray) (w : World) (h1 : 1 ≤ t.size) (h2 : t.size ≤ 9000) (hT : SumTab w) :
    Calls Tryz.prog 84 #[.string t] w fun e w' => e = .returned (.tuple #[.string (frameB t), .bool true]) ∧ Below w.heap.size w w' := by
  have HT := hide hT
  have HE : Hid (frameB t = ⟨(Wd.varF 5 t.size).toArray⟩ ++ ⟨(four (sumB 4294967295 t)).toArray⟩ ++ t) := rfl
  have hlt := sumB_lt t
  have h4 : (four (sumB 4294967295 t)).length = 4 := rfl
  have hv := Wd.varF_len 5 t.size
  clear hT
  go_enter Tryz.func84, Tryz.ntmps84
  go_wp2_with (first | (go_at_call 126; refine (lenOk_yes t.size _ h1 h2).mono ?_; rintro e w0 ⟨rfl, rfl⟩) | (go_at_call 83; refine (implVar_yes t.size _ (by omega)).mono ?_; rintro e w1 ⟨rfl, b1⟩) | (go_at_call 127; refine (sumOf_any t _ (by omega) (sumTab_later b1 HT.out)).mono ?_; rintro e w2 ⟨rfl, rfl⟩) | (go_at_call 128; refine (inBytes_any _ _ hlt).mono ?_; rintro e w3 ⟨rfl, b3⟩))
  go_ret2
  rw [HE.out]
  exact ⟨rfl, b1.trans (b3.mono b1.size)⟩

theorem frame_no (t : ByteArray) (w : World) (h : t.size < 1 ∨ 9000 < t.size) :
    Calls Tryz.prog 84 #[.string t] w fun e w' => e = .returned (.tuple #[.string ⟨#[]⟩, .bool false]) ∧ w' = w := by
  go_enter Tryz.func84, Tryz.ntmps84
  go_wp2_with (first | (go_at_call 126; refine (lenOk_no t.size _ h).mono ?_; rintro e w0 ⟨rfl, rfl⟩))
  go_ret2
  exact ⟨rfl, rfl⟩

theorem rvI_nat (s : ByteArray) (i : Nat) (h : i ≤ s.size) : Wd.rvI s (i : Int) = Wd.rv s i := by
  unfold Wd.rvI
  rw [if_neg (by omega), Int.toNat_natCast]

set_option maxRecDepth 100000 in
set_option maxHeartbeats 800000 in
theorem frameAt_some (s : ByteArray) (i : Nat) (x : Nat × Nat) (w : World) (hs : s.size ≤ 20000) (hi : i ≤ s.size) (h : frB s i = some x) (hT : SumTab w) :
    Calls Tryz.prog 183 #[.string s, .int .i64 i] w fun e w' => e = .returned (.tuple #[.string (s.extract x.1 x.2), .int .i64 (x.2 : Int), .bool true]) ∧ Below w.heap.size w w' := by
  have HT := hide hT
  cases hr : Wd.rv s i with
  | none => rw [frB_num s i hr] at h; simp at h
  | some q =>
    obtain ⟨n, p⟩ := q
    have hb := Wd.rv_bounds s i n p hr
    by_cases hc : 1 ≤ n ∧ n ≤ 9000 ∧ p + 4 + n ≤ s.size ∧ s.extract p (p + 4) = ⟨(four (sumB 4294967295 (s.extract (p + 4) (p + 4 + n)))).toArray⟩
    · rw [frB_yes s i n p hr hc] at h
      simp only [Option.some.injEq] at h
      subst h
      obtain ⟨c1, c2, c3, c4⟩ := hc
      obtain ⟨R, hR⟩ : ∃ R, s.extract (p + 4) (p + 4 + n) = R := ⟨_, rfl⟩
      obtain ⟨T, hTx⟩ : ∃ T, s.extract p (p + 4) = T := ⟨_, rfl⟩
      have hRz : R.size ≤ 20000 := by rw [← hR, ByteArray.size_extract]; omega
      rw [hTx, hR] at c4
      have hcut1 := cut_at s (p + 4) (p + 4 + n) ((p : Int) + 4) ((p : Int) + 4 + n) R (by omega) (by omega) (by omega) c3 hR
      have hcut2 := cut_at s p (p + 4) (p : Int) ((p : Int) + 4) T rfl (by omega) (by omega) (by omega) hTx
      have hlt := sumB_lt R
      have heq : (four (sumB 4294967295 R) == T.toList) = true := by rw [c4, ByteArray.toList_eq]; exact beq_self_eq_true _
      have hread := hide (fun W => implRead_some s (i : Int) W n p (by omega) (by rw [rvI_nat s i hi]; exact hr))
      have HR := hide hR
      clear hT hr c4 hTx hR
      have hle : decide ((s.size : Int) - (p : Int) - 4 < (n : Int)) = false := by simp; omega
      go_enter Tryz.func183, Tryz.ntmps183
      go_wp2_with (first | (go_at_call 209; refine (hread.out _).mono ?_; rintro e w0 ⟨rfl, rfl⟩) | (go_at_call 126; refine (lenOk_yes n _ c1 c2).mono ?_; rintro e w1 ⟨rfl, rfl⟩))
      go_region_held3 (fun _ => True) (trivial) ((first | (go_at_call 127; refine (sumOf_any R _ (by omega) (by first | exact HT.out | exact sumTab_later ((Below.refl _ _).drew) HT.out)).mono ?_; rintro e w' ⟨rfl, rfl⟩) | (go_at_call 128; refine (inBytes_any _ _ hlt).mono ?_; rintro e w' ⟨rfl, b3⟩)))
      go_wp2
      go_ret3
      rw [HR.out]
      exact ⟨by simp, (Below.refl _ _).drew.trans b3⟩
    · rw [frB_no s i n p hr hc] at h; simp at h

set_option maxRecDepth 100000 in
set_option maxHeartbeats 1600000 in
theorem frameAt_none (s : ByteArray) (i : Nat) (w : World) (hs : s.size ≤ 20000) (hi : i ≤ s.size) (h : frB s i = none) (hT : SumTab w) :
    Calls Tryz.prog 183 #[.string s, .int .i64 i] w fun e w' => e = .returned (.tuple #[.string ⟨#[]⟩, .int .i64 0, .bool false]) ∧ Below w.heap.size w w' := by
  have HT := hide hT
  clear hT
  cases hr : Wd.rv s i with
  | none =>
    have hread := hide (fun W => implRead_none s (i : Int) W (by omega) (by rw [rvI_nat s i hi]; exact hr))
    clear hr h
    go_enter Tryz.func183, Tryz.ntmps183
    go_wp2_with (first | (go_at_call 209; refine (hread.out _).mono ?_; rintro e w0 ⟨rfl, rfl⟩))
    go_ret3
    exact ⟨rfl, Below.refl _ _⟩
  | some q =>
    obtain ⟨n, p⟩ := q
    have hb := Wd.rv_bounds s i n p hr
    have hread := hide (fun W => implRead_some s (i : Int) W n p (by omega) (by rw [rvI_nat s i hi]; exact hr))
    by_cases c12 : 1 ≤ n ∧ n ≤ 9000
    · by_cases c3 : p + 4 + n ≤ s.size
      · have c4 : ¬ s.extract p (p + 4) = ⟨(four (sumB 4294967295 (s.extract (p + 4) (p + 4 + n)))).toArray⟩ := fun c4 => by
          rw [frB_yes s i n p hr ⟨c12.1, c12.2, c3, c4⟩] at h; simp at h
        obtain ⟨c1, c2⟩ := c12
        obtain ⟨R, hR⟩ : ∃ R, s.extract (p + 4) (p + 4 + n) = R := ⟨_, rfl⟩
        obtain ⟨T, hTx⟩ : ∃ T, s.extract p (p + 4) = T := ⟨_, rfl⟩
        have hRz : R.size ≤ 20000 := by rw [← hR, ByteArray.size_extract]; omega
        rw [hTx, hR] at c4
        have hcut1 := cut_at s (p + 4) (p + 4 + n) ((p : Int) + 4) ((p : Int) + 4 + n) R (by omega) (by omega) (by omega) c3 hR
        have hcut2 := cut_at s p (p + 4) (p : Int) ((p : Int) + 4) T rfl (by omega) (by omega) (by omega) hTx
        have hlt := sumB_lt R
        have heq : (four (sumB 4294967295 R) == T.toList) = false := by
          rw [beq_eq_false_iff_ne, ByteArray.toList_eq]
          intro e
          exact c4 (ByteArray.ext (Array.toList_inj.1 e.symm))
        clear hr c4 hTx hR h
        have hle : decide ((s.size : Int) - (p : Int) - 4 < (n : Int)) = false := by simp; omega
        go_enter Tryz.func183, Tryz.ntmps183
        go_wp2_with (first | (go_at_call 209; refine (hread.out _).mono ?_; rintro e w0 ⟨rfl, rfl⟩) | (go_at_call 126; refine (lenOk_yes n _ c1 c2).mono ?_; rintro e w1 ⟨rfl, rfl⟩))
        go_region_held3 (fun _ => True) (trivial) ((first | (go_at_call 127; refine (sumOf_any R _ (by omega) (by first | exact HT.out | exact sumTab_later ((Below.refl _ _).drew) HT.out)).mono ?_; rintro e w' ⟨rfl, rfl⟩) | (go_at_call 128; refine (inBytes_any _ _ hlt).mono ?_; rintro e w' ⟨rfl, b3⟩)))
        go_wp2
        go_ret3
        exact ⟨rfl, (Below.refl _ _).drew.trans b3⟩
      · obtain ⟨c1, c2⟩ := c12
        have hle : decide ((s.size : Int) - (p : Int) - 4 < (n : Int)) = true := by simp; omega
        clear hr h
        go_enter Tryz.func183, Tryz.ntmps183
        go_wp2_with (first | (go_at_call 209; refine (hread.out _).mono ?_; rintro e w0 ⟨rfl, rfl⟩) | (go_at_call 126; refine (lenOk_yes n _ c1 c2).mono ?_; rintro e w1 ⟨rfl, rfl⟩))
        go_ret3
        exact ⟨rfl, Below.refl _ _⟩
    · have hno : n < 1 ∨ 9000 < n := by omega
      clear hr h
      go_enter Tryz.func183, Tryz.ntmps183
      go_wp2_with (first | (go_at_call 209; refine (hread.out _).mono ?_; rintro e w0 ⟨rfl, rfl⟩) | (go_at_call 126; refine (lenOk_no n _ hno).mono ?_; rintro e w1 ⟨rfl, rfl⟩))
      go_ret3
      exact ⟨rfl, Below.refl _ _⟩
end Go.Proofs.YtmmchemgegmhhaaGreatDoor
