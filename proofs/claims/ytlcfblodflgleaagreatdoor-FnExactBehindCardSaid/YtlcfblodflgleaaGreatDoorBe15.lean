import Derived.Test.YtlcfblodflgleaaGreatDoorBe8
import Derived.Test.YtlcfblodflgleaaGreatDoorBe0
import Derived.Test.YtlcfblodflgleaaGreatDoorBe14
import Derived.Test.YtlcfblodflgleaaGreatDoorBe9
import Derived.Test.YtlcfblodflgleaaGreatDoorBe13
set_option maxRecDepth 100000
set_option maxHeartbeats 1600000
namespace Go.Proofs.YtlcfblodflgleaaGreatDoor
open Go.RowKit
theorem lenOk_yes (n : Nat) (w : World) (h1 : 1 ≤ n) (h2 : n ≤ 9000) :
    Calls Tryz.prog 172 #[.int .i64 n] w fun e w' => e = .returned (.bool true) ∧ w' = w := by
  have h1' : decide ((1 : Int) ≤ (n : Int)) = true := by simp; omega
  have h2' : decide ((n : Int) ≤ 9000) = true := by simp; omega
  go_enter Tryz.func172, Tryz.ntmps172
  go_wp2
  go_ret
  exact ⟨rfl, rfl⟩
theorem lenOk_no (n : Nat) (w : World) (h : n < 1 ∨ 9000 < n) :
    Calls Tryz.prog 172 #[.int .i64 n] w fun e w' => e = .returned (.bool false) ∧ w' = w := by
  rcases h with h | h
  · have h1' : decide ((1 : Int) ≤ (n : Int)) = false := by simp; omega
    go_enter Tryz.func172, Tryz.ntmps172
    go_wp2
    go_ret
    exact ⟨rfl, rfl⟩
  · have h1' : decide ((1 : Int) ≤ (n : Int)) = true := by simp; omega
    have h2' : decide ((n : Int) ≤ 9000) = false := by simp; omega
    go_enter Tryz.func172, Tryz.ntmps172
    go_wp2
    go_ret
    exact ⟨rfl, rfl⟩
theorem rvI_nat (s : ByteArray) (i : Nat) (h : i ≤ s.size) : Wd.rvI s (i : Int) = Wd.rv s i := by
  unfold Wd.rvI
  rw [if_neg (by omega), Int.toNat_natCast]
theorem frameAt_some (s : ByteArray) (i : Nat) (x : Nat × Nat) (w : World) (hs : s.size ≤ 20000) (hi : i ≤ s.size) (h : frB s i = some x) (hT : SumTab w) :
    Calls Tryz.prog 215 #[.string s, .int .i64 i] w fun e w' => e = .returned (.tuple #[.string (s.extract x.1 x.2), .int .i64 (x.2 : Int), .bool true]) ∧ Below w.heap.size w w' := by
  have HT := hide hT
  cases hr : Wd.rv s i with
  | none => rw [frB_num s i hr] at h; simp at h
  | some q =>
    obtain ⟨n, p⟩ := q
    have hb := Wd.rv_bounds s i n p hr
    by_cases hc : 1 ≤ n ∧ n ≤ 9000 ∧ p + 4 + n ≤ s.size ∧ s.extract p (p + 4) = ⟨(four (sumB 4294967295 (s.extract (p + 4) (p + 4 + n)))).toArray⟩
    · rw [frB_yes s i n p hr hc] at h
      simp only [Option.some.injEq] at h
      subst h
      obtain ⟨c1, c2, c3, c4⟩ := hc
      obtain ⟨R, hR⟩ : ∃ R, s.extract (p + 4) (p + 4 + n) = R := ⟨_, rfl⟩
      obtain ⟨T, hTx⟩ : ∃ T, s.extract p (p + 4) = T := ⟨_, rfl⟩
      have hRz : R.size ≤ 20000 := by rw [← hR, ByteArray.size_extract]; omega
      rw [hTx, hR] at c4
      have hcut1 := cut_at s (p + 4) (p + 4 + n) ((p : Int) + 4) ((p : Int) + 4 + n) R (by omega) (by omega) (by omega) c3 hR
      have hcut2 := cut_at s p (p + 4) (p : Int) ((p : Int) + 4) T rfl (by omega) (by omega) (by omega) hTx
      have hlt := sumB_lt R
      have heq : (four (sumB 4294967295 R) == T.toList) = true := by rw [c4, ByteArray.toList_eq]; exact beq_self_eq_true _
      have hread := hide (fun W => implRead_some s (i : Int) W n p (by omega) (by rw [rvI_nat s i hi]; exact hr))
      have HR := hide hR
      clear hT hr c4 hTx hR
      have hle : decide ((s.size : Int) - (p : Int) - 4 < (n : Int)) = false := by simp; omega
      go_enter Tryz.func215, Tryz.ntmps215
      go_wp2_with (first | (go_at_call 221; refine (hread.out _).mono ?_; rintro e w0 ⟨rfl, rfl⟩) | (go_at_call 172; refine (lenOk_yes n _ c1 c2).mono ?_; rintro e w1 ⟨rfl, rfl⟩))
      go_region_held3 (fun _ => True) (trivial) ((first | (go_at_call 173; refine (sumOf_any R _ (by omega) (by first | exact HT.out | exact sumTab_later ((Below.refl _ _).drew) HT.out)).mono ?_; rintro e w' ⟨rfl, rfl⟩) | (go_at_call 174; refine (inBytes_any _ _ hlt).mono ?_; rintro e w' ⟨rfl, b3⟩)))
      go_wp2
      go_ret3
      rw [HR.out]
      exact ⟨by simp, (Below.refl _ _).drew.trans b3⟩
    · rw [frB_no s i n p hr hc] at h; simp at h
theorem frameAt_none (s : ByteArray) (i : Nat) (w : World) (hs : s.size ≤ 20000) (hi : i ≤ s.size) (h : frB s i = none) (hT : SumTab w) :
    Calls Tryz.prog 215 #[.string s, .int .i64 i] w fun e w' => e = .returned (.tuple #[.string ⟨#[]⟩, .int .i64 0, .bool false]) ∧ Below w.heap.size w w' := by
  have HT := hide hT
  clear hT
  cases hr : Wd.rv s i with
  | none =>
    have hread := hide (fun W => implRead_none s (i : Int) W (by omega) (by rw [rvI_nat s i hi]; exact hr))
    clear hr h
    go_enter Tryz.func215, Tryz.ntmps215
    go_wp2_with (first | (go_at_call 221; refine (hread.out _).mono ?_; rintro e w0 ⟨rfl, rfl⟩))
    go_ret3
    exact ⟨rfl, Below.refl _ _⟩
  | some q =>
    obtain ⟨n, p⟩ := q
    have hb := Wd.rv_bounds s i n p hr
    have hread := hide (fun W => implRead_some s (i : Int) W n p (by omega) (by rw [rvI_nat s i hi]; exact hr))
    by_cases c12 : 1 ≤ n ∧ n ≤ 9000
    · by_cases c3 : p + 4 + n ≤ s.size
      · have c4 : ¬ s.extract p (p + 4) = ⟨(four (sumB 4294967295 (s.extract (p + 4) (p + 4 + n)))).toArray⟩ := fun c4 => by
          rw [frB_yes s i n p hr ⟨c12.1, c12.2, c3, c4⟩] at h; simp at h
        obtain ⟨c1, c2⟩ := c12
        obtain ⟨R, hR⟩ : ∃ R, s.extract (p + 4) (p + 4 + n) = R := ⟨_, rfl⟩
        obtain ⟨T, hTx⟩ : ∃ T, s.extract p (p + 4) = T := ⟨_, rfl⟩
        have hRz : R.size ≤ 20000 := by rw [← hR, ByteArray.size_extract]; omega
        rw [hTx, hR] at c4
        have hcut1 := cut_at s (p + 4) (p + 4 + n) ((p : Int) + 4) ((p : Int) + 4 + n) R (by omega) (by omega) (by omega) c3 hR
        have hcut2 := cut_at s p (p + 4) (p : Int) ((p : Int) + 4) T rfl (by omega) (by omega) (by omega) hTx
        have hlt := sumB_lt R
        have heq : (four (sumB 4294967295 R) == T.toList) = false := by
          rw [beq_eq_false_iff_ne, ByteArray.toList_eq]
          intro e
          exact c4 (ByteArray.ext (Array.toList_inj.1 e.symm))
        clear hr c4 hTx hR h
        have hle : decide ((s.size : Int) - (p : Int) - 4 < (n : Int)) = false := by simp; omega
        go_enter Tryz.func215, Tryz.ntmps215
        go_wp2_with (first | (go_at_call 221; refine (hread.out _).mono ?_; rintro e w0 ⟨rfl, rfl⟩) | (go_at_call 172; refine (lenOk_yes n _ c1 c2).mono ?_; rintro e w1 ⟨rfl, rfl⟩))
        go_region_held3 (fun _ => True) (trivial) ((first | (go_at_call 173; refine (sumOf_any R _ (by omega) (by first | exact HT.out | exact sumTab_later ((Below.refl _ _).drew) HT.out)).mono ?_; rintro e w' ⟨rfl, rfl⟩) | (go_at_call 174; refine (inBytes_any _ _ hlt).mono ?_; rintro e w' ⟨rfl, b3⟩)))
        go_wp2
        go_ret3
        exact ⟨rfl, (Below.refl _ _).drew.trans b3⟩
      · obtain ⟨c1, c2⟩ := c12
        have hle : decide ((s.size : Int) - (p : Int) - 4 < (n : Int)) = true := by simp; omega
        clear hr h
        go_enter Tryz.func215, Tryz.ntmps215
        go_wp2_with (first | (go_at_call 221; refine (hread.out _).mono ?_; rintro e w0 ⟨rfl, rfl⟩) | (go_at_call 172; refine (lenOk_yes n _ c1 c2).mono ?_; rintro e w1 ⟨rfl, rfl⟩))
        go_ret3
        exact ⟨rfl, Below.refl _ _⟩
    · have hno : n < 1 ∨ 9000 < n := by omega
      clear hr h
      go_enter Tryz.func215, Tryz.ntmps215
      go_wp2_with (first | (go_at_call 221; refine (hread.out _).mono ?_; rintro e w0 ⟨rfl, rfl⟩) | (go_at_call 172; refine (lenOk_no n _ hno).mono ?_; rintro e w1 ⟨rfl, rfl⟩))
      go_ret3
      exact ⟨rfl, Below.refl _ _⟩
theorem headOk_any (n f : Int) (b : Bool) (w : World) (h : decide (0 ≤ n ∧ n ≤ 99 ∧ 0 ≤ f ∧ f ≤ n) = b) : Calls Tryz.prog 148 #[.int .i64 n, .int .i64 f] w fun e w' => e = .returned (.bool b) ∧ w' = w := by
  by_cases h0 : 0 ≤ n ∧ n ≤ 99
  · have hb : (decide (0 ≤ n) && decide (n ≤ 99)) = true := by simp; omega
    by_cases h1 : 0 ≤ f
    · have h1' : decide (0 ≤ f) = true := by simp; omega
      have hr : decide (f ≤ n) = b := by rw [← h]; apply decide_eq_decide.2; omega
      go_enter Tryz.func148, Tryz.ntmps148
      go_wp2_with (first | (go_at_call 171; refine (right_any _ _ _ hb).mono ?_; rintro e w' ⟨rfl, rfl⟩))
      go_ret
      exact ⟨rfl, rfl⟩
    · have h1' : decide (0 ≤ f) = false := by simp; omega
      have hr : b = false := by rw [← h]; simp; omega
      subst hr
      go_enter Tryz.func148, Tryz.ntmps148
      go_wp2_with (first | (go_at_call 171; refine (right_any _ _ _ hb).mono ?_; rintro e w' ⟨rfl, rfl⟩))
      go_ret
      exact ⟨rfl, rfl⟩
  · have hb : (decide (0 ≤ n) && decide (n ≤ 99)) = false := by simp; omega
    have hr : b = false := by rw [← h]; simp; omega
    subst hr
    go_enter Tryz.func148, Tryz.ntmps148
    go_wp2_with (first | (go_at_call 171; refine (right_any _ _ _ hb).mono ?_; rintro e w' ⟨rfl, rfl⟩))
    go_ret
    exact ⟨rfl, rfl⟩
def headT (n f : Int) : ByteArray := if 0 ≤ n ∧ n ≤ 99 ∧ 0 ≤ f ∧ f ≤ n then frameB ⟨(headL n.toNat f.toNat).toArray⟩ else ⟨#[]⟩
theorem headT_in (n f : Nat) (h : n ≤ 99) (h' : f ≤ n) : headT n f = frameB ⟨(headL n f).toArray⟩ := by
  unfold headT
  rw [if_pos (by omega), Int.toNat_natCast, Int.toNat_natCast]
theorem headT_out (n f : Int) (h : ¬ (0 ≤ n ∧ n ≤ 99 ∧ 0 ≤ f ∧ f ≤ n)) : headT n f = ⟨#[]⟩ := by unfold headT; rw [if_neg h]
theorem headL_size (n f : Nat) : (⟨(headL n f).toArray⟩ : ByteArray).size = 1 + (Wd.varF 5 n).length + (Wd.varF 5 f).length := by
  show (headL n f).length = _
  unfold headL
  rw [List.length_append, List.length_append]
  rfl
theorem headL_cat (n f : Nat) : (⟨#[72]⟩ : ByteArray) ++ ⟨(Wd.varF 5 n).toArray⟩ ++ ⟨(Wd.varF 5 f).toArray⟩ = ⟨(headL n f).toArray⟩ := by
  apply ByteArray.ext
  apply Array.toList_inj.1
  simp [headL]
theorem hasPrefix_any (s : ByteArray) (b : Bool) (w : World) (h : decide (s.extract 0 1 = ⟨#[72]⟩) = b) : Calls Tryz.prog 222 #[.string s, .string ⟨#[72]⟩] w fun e w' => e = .returned (.bool b) ∧ w' = w := by
  have S : ∀ W : World, Calls Tryz.prog 230 #[.string s, .string ⟨#[72]⟩] W fun e w' => e = .returned (.bool b) ∧ w' = W := by
    intro W
    by_cases hs : 1 ≤ s.size
    · have hs' : decide ((1 : Int) ≤ (s.size : Int)) = true := by simp; omega
      obtain ⟨R, hR⟩ : ∃ R, s.extract 0 1 = R := ⟨_, rfl⟩
      rw [hR] at h
      have hcut : ∀ W : World, (Instr.slice 9 (.string s) none (some (.int .i64 1)) none).run Tryz.prog W = .ok (.string R) W := by
        intro W
        subst hR
        rw [run_slice_string_to_if W 9 s .i64 1 Tryz.underlying9, if_pos (by omega)]
        rfl
      have heq : (R.toList == (⟨#[72]⟩ : ByteArray).toList) = b := by
        rw [← h]
        by_cases e : R = ⟨#[72]⟩
        · rw [txt_eq e, decide_eq_true e]
        · rw [txt_ne e, decide_eq_false e]
      have heq' : (R.toList == [72]) = b := by rw [← heq, ByteArray.toList_eq (⟨#[72]⟩ : ByteArray)]
      clear hR heq
      go_enter Tryz.func230, Tryz.ntmps230
      go_wp2
      go_ret
      exact ⟨rfl, rfl⟩
    · have hs' : decide ((1 : Int) ≤ (s.size : Int)) = false := by simp; omega
      have hb : b = false := by
        rw [← h]
        apply decide_eq_false
        intro e
        have := congrArg ByteArray.size e
        rw [ByteArray.size_extract] at this
        have e2 : (⟨#[72]⟩ : ByteArray).size = 1 := rfl
        omega
      subst hb
      go_enter Tryz.func230, Tryz.ntmps230
      go_wp2
      go_ret
      exact ⟨rfl, rfl⟩
  go_enter Tryz.func222, Tryz.ntmps222
  go_wp2_with (go_at_call 230; refine (S _).mono ?_; rintro e w' ⟨rfl, rfl⟩)
  go_ret
  exact ⟨rfl, rfl⟩
def hdAns (o : Option Nat) : Value := .tuple #[.int .i64 ((o.getD 0 : Nat) : Int), .bool o.isSome]
theorem headFrom_any (n : Int) (t : ByteArray) (w : World) (ht : t.size ≤ 1048576) : Calls Tryz.prog 216 #[.int .i64 n, .string t] w fun e w' => e = .returned (hdAns (hdFrom n t)) ∧ w' = w := by
  by_cases h72 : t.extract 0 1 = ⟨#[72]⟩
  · have hp := decide_eq_true h72
    have hz1 : 1 ≤ t.size := by
      have := congrArg ByteArray.size h72
      rw [ByteArray.size_extract] at this
      have e2 : (⟨#[72]⟩ : ByteArray).size = 1 := rfl
      omega
    cases hr : Wd.rv t 1 with
    | none =>
      have hE := hide (hd_none_num (n := n) hr)
      have hread := hide (fun W => implRead_none t 1 W (by omega) (by unfold Wd.rvI; rw [if_neg (by omega)]; exact hr))
      clear hr
      rw [hE.out]
      go_enter Tryz.func216, Tryz.ntmps216
      go_wp2_with (first | (go_at_call 222; refine (hasPrefix_any t _ _ hp).mono ?_; rintro e w' ⟨rfl, rfl⟩) | (go_at_call 221; refine (hread.out _).mono ?_; rintro e w' ⟨rfl, rfl⟩))
      go_ret2
      exact ⟨rfl, rfl⟩
    | some q =>
      obtain ⟨a, p⟩ := q
      have hb := Wd.rv_bounds t 1 a p hr
      have hread := hide (fun W => implRead_some t 1 W a p (by omega) (by unfold Wd.rvI; rw [if_neg (by omega)]; exact hr))
      by_cases hne : (a : Int) = n
      · have hne' : ((a : Int) != n) = false := by rw [bne_eq_false_iff_eq]; exact hne
        cases hr2 : Wd.rv t p with
        | none =>
          have hE := hide (hd_none_next (n := n) hr (fun f hf => by rw [hr2] at hf; simp at hf))
          have hread2 := hide (fun W => implRead_none t (p : Int) W (by omega) (by unfold Wd.rvI; rw [if_neg (by omega), Int.toNat_natCast]; exact hr2))
          clear hr hr2
          rw [hE.out]
          go_enter Tryz.func216, Tryz.ntmps216
          go_wp2_with fail
          refine (hasPrefix_any t _ _ hp).mono ?_
          rintro e w' ⟨rfl, rfl⟩
          go_wp2_with fail
          refine (hread.out _).mono ?_
          rintro e w' ⟨rfl, rfl⟩
          go_wp2_with fail
          refine (hread2.out _).mono ?_
          rintro e w' ⟨rfl, rfl⟩
          go_wp2
          go_ret2
          exact ⟨rfl, rfl⟩
        | some q =>
          obtain ⟨f, q⟩ := q
          have hb2 := Wd.rv_bounds t p f q hr2
          have hread2 := hide (fun W => implRead_some t (p : Int) W f q (by omega) (by unfold Wd.rvI; rw [if_neg (by omega), Int.toNat_natCast]; exact hr2))
          by_cases hq : q = t.size
          · have hq' : ((q : Int) != (t.size : Int)) = false := by rw [bne_eq_false_iff_eq]; omega
            by_cases hh : 0 ≤ n ∧ n ≤ 99 ∧ 0 ≤ (f : Int) ∧ (f : Int) ≤ n
            · have hd := decide_eq_true hh
              have hE := hide (hd_some h72 hr hne hr2 hq hh.1 hh.2.1 hh.2.2.2)
              clear hr hr2 hne hq
              rw [hE.out]
              go_enter Tryz.func216, Tryz.ntmps216
              go_wp2_with fail
              refine (hasPrefix_any t _ _ hp).mono ?_
              rintro e w' ⟨rfl, rfl⟩
              go_wp2_with fail
              refine (hread.out _).mono ?_
              rintro e w' ⟨rfl, rfl⟩
              go_wp2_with fail
              refine (hread2.out _).mono ?_
              rintro e w' ⟨rfl, rfl⟩
              go_wp2_with fail
              refine (headOk_any _ _ _ _ hd).mono ?_
              rintro e w0 ⟨rfl, rfl⟩
              go_wp2
              go_ret2
              exact ⟨rfl, rfl⟩
            · have hd := decide_eq_false hh
              have hE := hide (hd_none_next (n := n) hr (fun g hg => by rw [hr2] at hg; simp only [Option.some.injEq, Prod.mk.injEq] at hg; omega))
              clear hr hr2 hne hq
              rw [hE.out]
              go_enter Tryz.func216, Tryz.ntmps216
              go_wp2_with fail
              refine (hasPrefix_any t _ _ hp).mono ?_
              rintro e w' ⟨rfl, rfl⟩
              go_wp2_with fail
              refine (hread.out _).mono ?_
              rintro e w' ⟨rfl, rfl⟩
              go_wp2_with fail
              refine (hread2.out _).mono ?_
              rintro e w' ⟨rfl, rfl⟩
              go_wp2_with fail
              refine (headOk_any _ _ _ _ hd).mono ?_
              rintro e w0 ⟨rfl, rfl⟩
              go_wp2
              go_ret2
              exact ⟨rfl, rfl⟩
          · have hq' : ((q : Int) != (t.size : Int)) = true := by rw [bne_iff_ne]; omega
            have hE := hide (hd_none_next (n := n) hr (fun g hg => by rw [hr2] at hg; simp only [Option.some.injEq, Prod.mk.injEq] at hg; omega))
            clear hr hr2 hne hq
            rw [hE.out]
            go_enter Tryz.func216, Tryz.ntmps216
            go_wp2_with fail
            refine (hasPrefix_any t _ _ hp).mono ?_
            rintro e w' ⟨rfl, rfl⟩
            go_wp2_with fail
            refine (hread.out _).mono ?_
            rintro e w' ⟨rfl, rfl⟩
            go_wp2_with fail
            refine (hread2.out _).mono ?_
            rintro e w' ⟨rfl, rfl⟩
            go_wp2
            go_ret2
            exact ⟨rfl, rfl⟩
      · have hne' : ((a : Int) != n) = true := by rw [bne_iff_ne]; exact hne
        have hE := hide (hd_none_other hr hne)
        clear hr hne
        rw [hE.out]
        go_enter Tryz.func216, Tryz.ntmps216
        go_wp2_with (first | (go_at_call 222; refine (hasPrefix_any t _ _ hp).mono ?_; rintro e w' ⟨rfl, rfl⟩) | (go_at_call 221; refine (hread.out _).mono ?_; rintro e w' ⟨rfl, rfl⟩))
        go_ret2
        exact ⟨rfl, rfl⟩
  · have hp := decide_eq_false h72
    have hE := hide (hd_none_72 (n := n) h72)
    rw [hE.out]
    go_enter Tryz.func216, Tryz.ntmps216
    go_wp2_with (first | (go_at_call 222; refine (hasPrefix_any t _ _ hp).mono ?_; rintro e w' ⟨rfl, rfl⟩))
    go_ret2
    exact ⟨rfl, rfl⟩
theorem headFrom_none {n : Int} {t : ByteArray} (h : hdFrom n t = none) (w : World) (ht : t.size ≤ 1048576) : Calls Tryz.prog 216 #[.int .i64 n, .string t] w fun e w' => e = .returned (.tuple #[.int .i64 0, .bool false]) ∧ w' = w := by
  have := headFrom_any n t w ht
  rw [h] at this
  exact this
theorem headFrom_some {n : Int} {t : ByteArray} {f : Nat} (h : hdFrom n t = some f) (w : World) (ht : t.size ≤ 1048576) : Calls Tryz.prog 216 #[.int .i64 n, .string t] w fun e w' => e = .returned (.tuple #[.int .i64 (f : Int), .bool true]) ∧ w' = w := by
  have := headFrom_any n t w ht
  rw [h] at this
  exact this
def hdOf (n : Int) (s : ByteArray) : Option (Nat × Nat) :=
  match unf s with
  | [] => none
  | x :: _ => (hdFrom n (s.extract x.1 x.2)).map (fun f => (f, x.2))
def hdOfAns : Option (Nat × Nat) → Value
  | none => .tuple #[.int .i64 0, .int .i64 0, .bool false]
  | some (f, p) => .tuple #[.int .i64 (f : Int), .int .i64 (p : Int), .bool true]
theorem readHead_any (n : Int) (s : ByteArray) (w : World) (hs : s.size ≤ 1048576) (hT : SumTab w) : Calls Tryz.prog 203 #[.int .i64 n, .string s] w fun e w' => e = .returned (hdOfAns (hdOf n s)) ∧ Below w.heap.size w w' := by
  have HT := hide hT
  clear hT
  by_cases hl : s.size ≤ 20000
  · have hl' : decide ((20000 : Int) < (s.size : Int)) = false := by simp; omega
    cases hf : frB s 0 with
    | none =>
      have hE : Hid (hdOf n s = none) := by
        show _ = _
        unfold hdOf unf
        rw [if_pos hl, frs_none s _ 0 hf]
      have hcall := hide (fun W hW => frameAt_none s 0 W hl (Nat.zero_le _) hf hW)
      clear hf
      rw [hE.out]
      go_enter Tryz.func203, Tryz.ntmps203
      go_wp2_with (first | (go_at_call 215; refine (hcall.out _ HT.out).mono ?_; rintro e w1 ⟨rfl, b1⟩))
      go_ret3
      exact ⟨rfl, b1⟩
    | some x =>
      have hb := frB_bounds s 0 x hf
      have hcall := hide (fun W hW => frameAt_some s 0 x W hl (Nat.zero_le _) hf hW)
      obtain ⟨R, hR⟩ : ∃ R, s.extract x.1 x.2 = R := ⟨_, rfl⟩
      have hRz : R.size ≤ 1048576 := by rw [← hR, ByteArray.size_extract]; omega
      have hE : Hid (hdOf n s = (hdFrom n R).map (fun f => (f, x.2))) := by
        show _ = _
        unfold hdOf unf
        rw [if_pos hl, frs_some s _ 0 x hf, ← hR]
      rw [hR] at hcall
      clear hf hR
      cases hd : hdFrom n R with
      | none =>
        have hH := hide (fun W => headFrom_none hd W hRz)
        rw [hd] at hE
        rw [hE.out]
        clear hd
        go_enter Tryz.func203, Tryz.ntmps203
        go_wp2_with (first | (go_at_call 215; refine (hcall.out _ HT.out).mono ?_; rintro e w1 ⟨rfl, b1⟩) | (go_at_call 216; refine (hH.out _).mono ?_; rintro e w2 ⟨rfl, rfl⟩))
        go_ret3
        exact ⟨rfl, b1⟩
      | some f =>
        have hH := hide (fun W => headFrom_some hd W hRz)
        rw [hd] at hE
        rw [hE.out]
        clear hd
        go_enter Tryz.func203, Tryz.ntmps203
        go_wp2_with (first | (go_at_call 215; refine (hcall.out _ HT.out).mono ?_; rintro e w1 ⟨rfl, b1⟩) | (go_at_call 216; refine (hH.out _).mono ?_; rintro e w2 ⟨rfl, rfl⟩))
        go_ret3
        exact ⟨rfl, b1⟩
  · have hl' : decide ((20000 : Int) < (s.size : Int)) = true := by simp; omega
    have hE : Hid (hdOf n s = none) := by
      show _ = _
      unfold hdOf unf
      rw [if_neg hl]
    rw [hE.out]
    go_enter Tryz.func203, Tryz.ntmps203
    go_wp2
    go_ret3
    exact ⟨rfl, Below.refl _ _⟩
theorem specMore_any (q0 : Nat) (s : ByteArray) (w : World) (hq0 : q0 < 4294967296) (hl : s.size ≤ 2097152) :
    Calls Tryz.prog 129 #[.int .u32 q0, .string s] w fun e w' => e = .returned (.int .u32 (sumB q0 s : Nat)) ∧ w' = w := by
  go_enter Tryz.func129, Tryz.ntmps129
  go_wp2
  go_loop [0, 5] (fun t u => ∃ (k q : Nat), t = .int .u32 q ∧ u = .int .i64 k ∧ k ≤ s.size ∧ q < 4294967296 ∧ Hid (sumFrom q s k = sumB q0 s)) (fun _ u => s.size - (intOf u).toNat)
  case atStart => exact ⟨0, q0, rfl, rfl, by omega, hq0, rfl⟩
  case round =>
    obtain ⟨k, q, rfl, rfl, hk, hq, hrest⟩ := hrel
    by_cases hlt : k < s.size
    · have hlt' : decide ((k : Int) < (s.size : Int)) = true := by simp; omega
      have HS := hide (sumFrom_step q s k hlt)
      obtain ⟨b, hbt, hb256⟩ : ∃ b : Nat, (s[k]'hlt).toNat = b ∧ b < 256 := ⟨_, rfl, byte_lt _⟩
      rw [hbt] at HS
      have hx0 := u32_xor_nat q b hq (by omega)
      have hx1 := xor_lt32 hq (show b < 4294967296 by omega)
      have HX : Hid (sb q b = hvN 8 (q ^^^ b)) := rfl
      have hq' := sb_lt hq hb256
      generalize q ^^^ b = x at hx0 hx1 HX
      go_wp2
      go_loop [0, 6] (fun t u => ∃ (j y : Nat), t = .int .u32 y ∧ u = .int .i64 j ∧ j ≤ 8 ∧ y < 4294967296 ∧ Hid (hvN (8 - j) y = hvN 8 x)) (fun _ u => 8 - (intOf u).toNat)
      case atStart => exact ⟨0, x, rfl, rfl, by omega, hx1, rfl⟩
      case round =>
        obtain ⟨j, y, rfl, rfl, hj, hy, HY⟩ := hrel
        by_cases hj8 : j < 8
        · have hj8' : decide ((j : Int) < 8) = true := by simp; omega
          have HN : Hid (hvN (8 - (j + 1)) (hv y) = hvN 8 x) := by
            show _ = _
            rw [← HY.out, show 8 - j = (8 - (j + 1)) + 1 by omega]; rfl
          have hy' := hv_lt hy
          by_cases hodd : y % 2 = 1
          · have ho : decide ((y : Int) % 2 = 1) = true := by simp; omega
            have ho2 : ((y : Int) % 2 == 1) = true := by simp; omega
            have hz := u32_xor_nat (y / 2) 3558460437 (by omega) (by decide)
            have hv1 : y / 2 ^^^ 3558460437 = hv y := by unfold hv; rw [if_pos hodd]
            rw [hv1, show ((y / 2 : Nat) : Int) = (y : Int) / 2 by omega] at hz
            have hz : bits .xor .u32 ((y : Int) / 2) 3558460437 = (hv y : Int) := hz
            clear hv1
            generalize hv y = z at HN hy' hz
            go_wp2
            go_round
            case rel => exact ⟨j + 1, z, rfl, by go_num, by omega, hy', HN⟩
            case measure => simp [intOf]; omega
          · have ho : decide ((y : Int) % 2 = 1) = false := by simp; omega
            have ho2 : ((y : Int) % 2 == 1) = false := by simp; omega
            have hv1 : hv y = y / 2 := by unfold hv; rw [if_neg hodd]
            rw [hv1] at HN hy'
            clear hv1
            go_wp2
            go_round
            case rel => exact ⟨j + 1, y / 2, by go_num, by go_num, by omega, hy', HN⟩
            case measure => simp [intOf]; omega
        · have hj8' : decide ((j : Int) < 8) = false := by simp; omega
          have HN : Hid (y = sb q b) := by
            show _ = _
            rw [HX.out, ← HY.out, show 8 - j = 0 by omega]; rfl
          go_wp2
          go_round
          case rel =>
            refine ⟨k + 1, sb q b, by rw [HN.out], by go_num, by omega, hq', ?_⟩
            show _ = _
            rw [← hrest.out, HS.out]
          case measure => simp [intOf]; omega
    · have hlt' : decide ((k : Int) < (s.size : Int)) = false := by simp; omega
      have HF : Hid (sumB q0 s = q) := by show _ = _; rw [← hrest.out, sumFrom_end _ _ _ (by omega)]
      go_wp2
      go_ret
      rw [HF.out]
      exact ⟨rfl, rfl⟩
theorem specFour_any (s : Nat) (w : World) (hs : s < 4294967296) :
    Calls Tryz.prog 98 #[.int .u32 s] w fun e w' => e = .returned (.string ⟨(four s).toArray⟩) ∧ Below w.heap.size w w' := by
  obtain ⟨b3, h3, e3⟩ := byte_of_div s 16777216
  obtain ⟨b2, h2, e2⟩ := byte_of_div s 65536
  obtain ⟨b1, h1, e1⟩ := byte_of_div s 256
  obtain ⟨b0, h0, e0⟩ := byte_of_div s 1
  have H4 : Hid (four s = [b3, b2, b1, b0]) := by show _ = _; rw [← h3, ← h2, ← h1, ← h0, Nat.div_one]; rfl
  have e3 : (s : Int) / 16777216 = (b3.toNat : Int) := by have := e3; omega
  have e2 : (s : Int) / 65536 % 256 = (b2.toNat : Int) := e2
  have e1 : (s : Int) / 256 % 256 = (b1.toNat : Int) := e1
  have e0 : (s : Int) % 256 = (b0.toNat : Int) := by have := e0; omega
  clear h3 h2 h1 h0
  have hcv := conv_own (P := Tryz.prog) 147 5 9 Tryz.underlying147 Tryz.underlying5 Tryz.underlying9 _ _ _ [b3, b2, b1, b0] (four_cells w b3 b2 b1 b0 5)
  go_enter Tryz.func98, Tryz.ntmps98
  go_wp2
  go_ret
  rw [H4.out]
  exact ⟨rfl, (Below.refl _ w).alloc (Nat.le_refl _) _⟩
theorem specOf_any (s : ByteArray) (w : World) (hl : s.size ≤ 2097152) :
    Calls Tryz.prog 99 #[.string s] w fun e w' => e = .returned (.int .u32 (sumB 4294967295 s : Nat)) ∧ w' = w := by
  go_enter Tryz.func99, Tryz.ntmps99
  go_wp2_with (go_at_call 129; refine (specMore_any 4294967295 s _ (by decide) hl).mono ?_; rintro e w' ⟨rfl, rfl⟩)
  go_ret
  exact ⟨rfl, rfl⟩
theorem specFrame_yes (t : ByteArray) (w : World) (h1 : 1 ≤ t.size) (h2 : t.size ≤ 9000) :
    Calls Tryz.prog 57 #[.string t] w fun e w' => e = .returned (.tuple #[.string (frameB t), .bool true]) ∧ Below w.heap.size w w' := by
  have HE : Hid (frameB t = ⟨(Wd.varF 5 t.size).toArray⟩ ++ ⟨(four (sumB 4294967295 t)).toArray⟩ ++ t) := rfl
  have hlt := sumB_lt t
  have h4 : (four (sumB 4294967295 t)).length = 4 := rfl
  have hv := Wd.varF_len 5 t.size
  go_enter Tryz.func57, Tryz.ntmps57
  go_wp2_with (first | (go_at_call 64; refine (l01In_yes _ _ _ _ (by omega) (by omega)).mono ?_; rintro e w0 ⟨rfl, rfl⟩) | (go_at_call 90; refine (l01Var_any t.size _ (by omega)).mono ?_; rintro e w1 ⟨rfl, b1⟩) | (go_at_call 99; refine (specOf_any t _ (by omega)).mono ?_; rintro e w2 ⟨rfl, rfl⟩) | (go_at_call 98; refine (specFour_any _ _ hlt).mono ?_; rintro e w3 ⟨rfl, b3⟩))
  go_ret2
  rw [HE.out]
  exact ⟨rfl, b1.trans (b3.mono b1.size)⟩
theorem specFrame_no (t : ByteArray) (w : World) (h : t.size < 1 ∨ 9000 < t.size) :
    Calls Tryz.prog 57 #[.string t] w fun e w' => e = .returned (.tuple #[.string ⟨#[]⟩, .bool false]) ∧ w' = w := by
  go_enter Tryz.func57, Tryz.ntmps57
  go_wp2_with (first | (go_at_call 64; refine (l01In_no _ _ _ _ (by omega)).mono ?_; rintro e w0 ⟨rfl, rfl⟩))
  go_ret2
  exact ⟨rfl, rfl⟩
end Go.Proofs.YtlcfblodflgleaaGreatDoor
