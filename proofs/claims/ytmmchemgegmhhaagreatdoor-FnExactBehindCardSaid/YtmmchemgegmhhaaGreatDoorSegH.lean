/- Heads: the program's writer and readers of them. -/
import Derived.Test.YtmmchemgegmhhaaGreatDoorSegP
import Derived.Test.YtmmchemgegmhhaaGreatDoorSegN
import Derived.Test.YtmmchemgegmhhaaGreatDoorFrameI
namespace Go.Proofs.YtmmchemgegmhhaaGreatDoor
open Go.RowKit

theorem headOk_any (n f : Int) (b : Bool) (w : World) (h : decide (0 ≤ n ∧ n ≤ 99 ∧ 0 ≤ f ∧ f ≤ n) = b) : Calls Tryz.prog 82 #[.int .i64 n, .int .i64 f] w fun e w' => e = .returned (.bool b) ∧ w' = w := by
  by_cases h0 : 0 ≤ n ∧ n ≤ 99
  · have hb : (decide (0 ≤ n) && decide (n ≤ 99)) = true := by simp; omega
    by_cases h1 : 0 ≤ f
    · have h1' : decide (0 ≤ f) = true := by simp; omega
      have hr : decide (f ≤ n) = b := by rw [← h]; apply decide_eq_decide.2; omega
      go_enter Tryz.func82, Tryz.ntmps82
      go_wp2_with (first | (go_at_call 125; refine (right_any _ _ _ hb).mono ?_; rintro e w' ⟨rfl, rfl⟩))
      go_ret
      exact ⟨rfl, rfl⟩
    · have h1' : decide (0 ≤ f) = false := by simp; omega
      have hr : b = false := by rw [← h]; simp; omega
      subst hr
      go_enter Tryz.func82, Tryz.ntmps82
      go_wp2_with (first | (go_at_call 125; refine (right_any _ _ _ hb).mono ?_; rintro e w' ⟨rfl, rfl⟩))
      go_ret
      exact ⟨rfl, rfl⟩
  · have hb : (decide (0 ≤ n) && decide (n ≤ 99)) = false := by simp; omega
    have hr : b = false := by rw [← h]; simp; omega
    subst hr
    go_enter Tryz.func82, Tryz.ntmps82
    go_wp2_with (first | (go_at_call 125; refine (right_any _ _ _ hb).mono ?_; rintro e w' ⟨rfl, rfl⟩))
    go_ret
    exact ⟨rfl, rfl⟩

/-- The text of a head's frame; nothing where there is none. -/
def headT (n f : Int) : ByteArray := if 0 ≤ n ∧ n ≤ 99 ∧ 0 ≤ f ∧ f ≤ n then frameB ⟨(headL n.toNat f.toNat).toArray⟩ else ⟨#[]⟩
theorem headT_in (n f : Nat) (h : n ≤ 99) (h' : f ≤ n) : headT n f = frameB ⟨(headL n f).toArray⟩ := by
  unfold headT
  rw [if_pos (by omega), Int.toNat_natCast, Int.toNat_natCast]
theorem headT_out (n f : Int) (h : ¬ (0 ≤ n ∧ n ≤ 99 ∧ 0 ≤ f ∧ f ≤ n)) : headT n f = ⟨#[]⟩ := by unfold headT; rw [if_neg h]
theorem headL_size (n f : Nat) : (⟨(headL n f).toArray⟩ : ByteArray).size = 1 + (Wd.varF 5 n).length + (Wd.varF 5 f).length := by
  show (headL n f).length = _
  unfold headL
  rw [List.length_append, List.length_append]
  rfl
theorem headL_cat (n f : Nat) : (⟨#[72]⟩ : ByteArray) ++ ⟨(Wd.varF 5 n).toArray⟩ ++ ⟨(Wd.varF 5 f).toArray⟩ = ⟨(headL n f).toArray⟩ := by
  apply ByteArray.ext
  apply Array.toList_inj.1
  simp [headL]

set_option maxRecDepth 100000 in
theorem implHeadText_any (n f : Int) (w : World) (hT : SumTab w) : Calls Tryz.prog 40 #[.int .i64 n, .int .i64 f] w fun e w' => e = .returned (.tuple #[.string (headT n f), .bool (decide (0 ≤ n ∧ n ≤ 99 ∧ 0 ≤ f ∧ f ≤ n))]) ∧ Below w.heap.size w w' := by
  have HT := hide hT
  clear hT
  by_cases h : 0 ≤ n ∧ n ≤ 99 ∧ 0 ≤ f ∧ f ≤ n
  · have hd : decide (0 ≤ n ∧ n ≤ 99 ∧ 0 ≤ f ∧ f ≤ n) = true := decide_eq_true h
    rw [hd]
    obtain ⟨n, rfl⟩ := Int.eq_ofNat_of_zero_le h.1
    obtain ⟨f, rfl⟩ := Int.eq_ofNat_of_zero_le h.2.2.1
    have hE := hide (headT_in n f (by omega) (by omega))
    have hC := hide (headL_cat n f)
    have v1 := Wd.varF_len 5 n
    have v2 := Wd.varF_len 5 f
    have hz := headL_size n f
    have hF := hide (fun W hW => frame_yes ⟨(headL n f).toArray⟩ W (by omega) (by omega) hW)
    clear hz
    go_enter Tryz.func40, Tryz.ntmps40
    go_wp2_with fail
    refine (headOk_any _ _ _ _ hd).mono ?_
    rintro e w0 ⟨rfl, rfl⟩
    go_wp2_with fail
    refine (implVar_yes n _ (by omega)).mono ?_
    rintro e w1 ⟨rfl, b1⟩
    go_wp2_with fail
    refine (implVar_yes f _ (by omega)).mono ?_
    rintro e w2 ⟨rfl, b2⟩
    go_wp2_with fail
    rw [hC.out]
    refine (hF.out _ (sumTab_later b2 (sumTab_later b1 HT.out))).mono ?_
    rintro e w3 ⟨rfl, b3⟩
    go_wp2
    go_ret2
    rw [hE.out]
    have b12 := b1.trans (b2.mono b1.size)
    exact ⟨rfl, b12.trans (b3.mono b12.size)⟩
  · have hd : decide (0 ≤ n ∧ n ≤ 99 ∧ 0 ≤ f ∧ f ≤ n) = false := decide_eq_false h
    rw [hd]
    have hE := hide (headT_out n f h)
    go_enter Tryz.func40, Tryz.ntmps40
    go_wp2_with (first | (go_at_call 82; refine (headOk_any _ _ _ _ hd).mono ?_; rintro e w0 ⟨rfl, rfl⟩))
    go_ret2
    rw [hE.out]
    exact ⟨rfl, Below.refl _ _⟩

/-! ### The reader of a head -/

theorem hasPrefix_any (s : ByteArray) (b : Bool) (w : World) (h : decide (s.extract 0 1 = ⟨#[72]⟩) = b) : Calls Tryz.prog 264 #[.string s, .string ⟨#[72]⟩] w fun e w' => e = .returned (.bool b) ∧ w' = w := by
  have S : ∀ W : World, Calls Tryz.prog 267 #[.string s, .string ⟨#[72]⟩] W fun e w' => e = .returned (.bool b) ∧ w' = W := by
    intro W
    by_cases hs : 1 ≤ s.size
    · have hs' : decide ((1 : Int) ≤ (s.size : Int)) = true := by simp; omega
      obtain ⟨R, hR⟩ : ∃ R, s.extract 0 1 = R := ⟨_, rfl⟩
      rw [hR] at h
      have hcut : ∀ W : World, (Instr.slice 9 (.string s) none (some (.int .i64 1)) none).run Tryz.prog W = .ok (.string R) W := by
        intro W
        subst hR
        rw [run_slice_string_to_if W 9 s .i64 1 Tryz.underlying9, if_pos (by omega)]
        rfl
      have heq : (R.toList == (⟨#[72]⟩ : ByteArray).toList) = b := by
        rw [← h]
        by_cases e : R = ⟨#[72]⟩
        · rw [txt_eq e, decide_eq_true e]
        · rw [txt_ne e, decide_eq_false e]
      have heq' : (R.toList == [72]) = b := by rw [← heq, ByteArray.toList_eq (⟨#[72]⟩ : ByteArray)]
      clear hR heq
      go_enter Tryz.func267, Tryz.ntmps267
      go_wp2
      go_ret
      exact ⟨rfl, rfl⟩
    · have hs' : decide ((1 : Int) ≤ (s.size : Int)) = false := by simp; omega
      have hb : b = false := by
        rw [← h]
        apply decide_eq_false
        intro e
        have := congrArg ByteArray.size e
        rw [ByteArray.size_extract] at this
        have e2 : (⟨#[72]⟩ : ByteArray).size = 1 := rfl
        omega
      subst hb
      go_enter Tryz.func267, Tryz.ntmps267
      go_wp2
      go_ret
      exact ⟨rfl, rfl⟩
  go_enter Tryz.func264, Tryz.ntmps264
  go_wp2_with (go_at_call 267; refine (S _).mono ?_; rintro e w' ⟨rfl, rfl⟩)
  go_ret
  exact ⟨rfl, rfl⟩

/-- The answer of a reader of a head. -/
def hdAns (o : Option Nat) : Value := .tuple #[.int .i64 ((o.getD 0 : Nat) : Int), .bool o.isSome]

set_option maxRecDepth 100000 in
set_option maxHeartbeats 800000 in
theorem headFrom_any (n : Int) (t : ByteArray) (w : World) (ht : t.size ≤ 1048576) : Calls Tryz.prog 254 #[.int .i64 n, .string t] w fun e w' => e = .returned (hdAns (hdFrom n t)) ∧ w' = w := by
  by_cases h72 : t.extract 0 1 = ⟨#[72]⟩
  · have hp := decide_eq_true h72
    have hz1 : 1 ≤ t.size := by
      have := congrArg ByteArray.size h72
      rw [ByteArray.size_extract] at this
      have e2 : (⟨#[72]⟩ : ByteArray).size = 1 := rfl
      omega
    cases hr : Wd.rv t 1 with
    | none =>
      have hE := hide (hd_none_num (n := n) hr)
      have hread := hide (fun W => implRead_none t 1 W (by omega) (by unfold Wd.rvI; rw [if_neg (by omega)]; exact hr))
      clear hr
      rw [hE.out]
      go_enter Tryz.func254, Tryz.ntmps254
      go_wp2_with (first | (go_at_call 264; refine (hasPrefix_any t _ _ hp).mono ?_; rintro e w' ⟨rfl, rfl⟩) | (go_at_call 209; refine (hread.out _).mono ?_; rintro e w' ⟨rfl, rfl⟩))
      go_ret2
      exact ⟨rfl, rfl⟩
    | some q =>
      obtain ⟨a, p⟩ := q
      have hb := Wd.rv_bounds t 1 a p hr
      have hread := hide (fun W => implRead_some t 1 W a p (by omega) (by unfold Wd.rvI; rw [if_neg (by omega)]; exact hr))
      by_cases hne : (a : Int) = n
      · have hne' : ((a : Int) != n) = false := by rw [bne_eq_false_iff_eq]; exact hne
        cases hr2 : Wd.rv t p with
        | none =>
          have hE := hide (hd_none_next (n := n) hr (fun f hf => by rw [hr2] at hf; simp at hf))
          have hread2 := hide (fun W => implRead_none t (p : Int) W (by omega) (by unfold Wd.rvI; rw [if_neg (by omega), Int.toNat_natCast]; exact hr2))
          clear hr hr2
          rw [hE.out]
          go_enter Tryz.func254, Tryz.ntmps254
          go_wp2_with fail
          refine (hasPrefix_any t _ _ hp).mono ?_
          rintro e w' ⟨rfl, rfl⟩
          go_wp2_with fail
          refine (hread.out _).mono ?_
          rintro e w' ⟨rfl, rfl⟩
          go_wp2_with fail
          refine (hread2.out _).mono ?_
          rintro e w' ⟨rfl, rfl⟩
          go_wp2
          go_ret2
          exact ⟨rfl, rfl⟩
        | some q =>
          obtain ⟨f, q⟩ := q
          have hb2 := Wd.rv_bounds t p f q hr2
          have hread2 := hide (fun W => implRead_some t (p : Int) W f q (by omega) (by unfold Wd.rvI; rw [if_neg (by omega), Int.toNat_natCast]; exact hr2))
          by_cases hq : q = t.size
          · have hq' : ((q : Int) != (t.size : Int)) = false := by rw [bne_eq_false_iff_eq]; omega
            by_cases hh : 0 ≤ n ∧ n ≤ 99 ∧ 0 ≤ (f : Int) ∧ (f : Int) ≤ n
            · have hd := decide_eq_true hh
              have hE := hide (hd_some h72 hr hne hr2 hq hh.1 hh.2.1 hh.2.2.2)
              clear hr hr2 hne hq
              rw [hE.out]
              go_enter Tryz.func254, Tryz.ntmps254
              go_wp2_with fail
              refine (hasPrefix_any t _ _ hp).mono ?_
              rintro e w' ⟨rfl, rfl⟩
              go_wp2_with fail
              refine (hread.out _).mono ?_
              rintro e w' ⟨rfl, rfl⟩
              go_wp2_with fail
              refine (hread2.out _).mono ?_
              rintro e w' ⟨rfl, rfl⟩
              go_wp2_with fail
              refine (headOk_any _ _ _ _ hd).mono ?_
              rintro e w0 ⟨rfl, rfl⟩
              go_wp2
              go_ret2
              exact ⟨rfl, rfl⟩
            · have hd := decide_eq_false hh
              have hE := hide (hd_none_next (n := n) hr (fun g hg => by rw [hr2] at hg; simp only [Option.some.injEq, Prod.mk.injEq] at hg; omega))
              clear hr hr2 hne hq
              rw [hE.out]
              go_enter Tryz.func254, Tryz.ntmps254
              go_wp2_with fail
              refine (hasPrefix_any t _ _ hp).mono ?_
              rintro e w' ⟨rfl, rfl⟩
              go_wp2_with fail
              refine (hread.out _).mono ?_
              rintro e w' ⟨rfl, rfl⟩
              go_wp2_with fail
              refine (hread2.out _).mono ?_
              rintro e w' ⟨rfl, rfl⟩
              go_wp2_with fail
              refine (headOk_any _ _ _ _ hd).mono ?_
              rintro e w0 ⟨rfl, rfl⟩
              go_wp2
              go_ret2
              exact ⟨rfl, rfl⟩
          · have hq' : ((q : Int) != (t.size : Int)) = true := by rw [bne_iff_ne]; omega
            have hE := hide (hd_none_next (n := n) hr (fun g hg => by rw [hr2] at hg; simp only [Option.some.injEq, Prod.mk.injEq] at hg; omega))
            clear hr hr2 hne hq
            rw [hE.out]
            go_enter Tryz.func254, Tryz.ntmps254
            go_wp2_with fail
            refine (hasPrefix_any t _ _ hp).mono ?_
            rintro e w' ⟨rfl, rfl⟩
            go_wp2_with fail
            refine (hread.out _).mono ?_
            rintro e w' ⟨rfl, rfl⟩
            go_wp2_with fail
            refine (hread2.out _).mono ?_
            rintro e w' ⟨rfl, rfl⟩
            go_wp2
            go_ret2
            exact ⟨rfl, rfl⟩
      · have hne' : ((a : Int) != n) = true := by rw [bne_iff_ne]; exact hne
        have hE := hide (hd_none_other hr hne)
        clear hr hne
        rw [hE.out]
        go_enter Tryz.func254, Tryz.ntmps254
        go_wp2_with (first | (go_at_call 264; refine (hasPrefix_any t _ _ hp).mono ?_; rintro e w' ⟨rfl, rfl⟩) | (go_at_call 209; refine (hread.out _).mono ?_; rintro e w' ⟨rfl, rfl⟩))
        go_ret2
        exact ⟨rfl, rfl⟩
  · have hp := decide_eq_false h72
    have hE := hide (hd_none_72 (n := n) h72)
    rw [hE.out]
    go_enter Tryz.func254, Tryz.ntmps254
    go_wp2_with (first | (go_at_call 264; refine (hasPrefix_any t _ _ hp).mono ?_; rintro e w' ⟨rfl, rfl⟩))
    go_ret2
    exact ⟨rfl, rfl⟩

theorem headFrom_none {n : Int} {t : ByteArray} (h : hdFrom n t = none) (w : World) (ht : t.size ≤ 1048576) : Calls Tryz.prog 254 #[.int .i64 n, .string t] w fun e w' => e = .returned (.tuple #[.int .i64 0, .bool false]) ∧ w' = w := by
  have := headFrom_any n t w ht
  rw [h] at this
  exact this
theorem headFrom_some {n : Int} {t : ByteArray} {f : Nat} (h : hdFrom n t = some f) (w : World) (ht : t.size ≤ 1048576) : Calls Tryz.prog 254 #[.int .i64 n, .string t] w fun e w' => e = .returned (.tuple #[.int .i64 (f : Int), .bool true]) ∧ w' = w := by
  have := headFrom_any n t w ht
  rw [h] at this
  exact this

/-- The head of a file: its from, and the place behind it. -/
def hdOf (n : Int) (s : ByteArray) : Option (Nat × Nat) :=
  match unf s with
  | [] => none
  | x :: _ => (hdFrom n (s.extract x.1 x.2)).map (fun f => (f, x.2))
def hdOfAns : Option (Nat × Nat) → Value
  | none => .tuple #[.int .i64 0, .int .i64 0, .bool false]
  | some (f, p) => .tuple #[.int .i64 (f : Int), .int .i64 (p : Int), .bool true]

set_option maxRecDepth 100000 in
set_option maxHeartbeats 800000 in
theorem readHead_any (n : Int) (s : ByteArray) (w : World) (hs : s.size ≤ 1048576) (hT : SumTab w) : Calls Tryz.prog 233 #[.int .i64 n, .string s] w fun e w' => e = .returned (hdOfAns (hdOf n s)) ∧ Below w.heap.size w w' := by
  have HT := hide hT
  clear hT
  by_cases hl : s.size ≤ 20000
  · have hl' : decide ((20000 : Int) < (s.size : Int)) = false := by simp; omega
    cases hf : frB s 0 with
    | none =>
      have hE : Hid (hdOf n s = none) := by
        show _ = _
        unfold hdOf unf
        rw [if_pos hl, frs_none s _ 0 hf]
      have hcall := hide (fun W hW => frameAt_none s 0 W hl (Nat.zero_le _) hf hW)
      clear hf
      rw [hE.out]
      go_enter Tryz.func233, Tryz.ntmps233
      go_wp2_with (first | (go_at_call 183; refine (hcall.out _ HT.out).mono ?_; rintro e w1 ⟨rfl, b1⟩))
      go_ret3
      exact ⟨rfl, b1⟩
    | some x =>
      have hb := frB_bounds s 0 x hf
      have hcall := hide (fun W hW => frameAt_some s 0 x W hl (Nat.zero_le _) hf hW)
      obtain ⟨R, hR⟩ : ∃ R, s.extract x.1 x.2 = R := ⟨_, rfl⟩
      have hRz : R.size ≤ 1048576 := by rw [← hR, ByteArray.size_extract]; omega
      have hE : Hid (hdOf n s = (hdFrom n R).map (fun f => (f, x.2))) := by
        show _ = _
        unfold hdOf unf
        rw [if_pos hl, frs_some s _ 0 x hf, ← hR]
      rw [hR] at hcall
      clear hf hR
      cases hd : hdFrom n R with
      | none =>
        have hH := hide (fun W => headFrom_none hd W hRz)
        rw [hd] at hE
        rw [hE.out]
        clear hd
        go_enter Tryz.func233, Tryz.ntmps233
        go_wp2_with (first | (go_at_call 183; refine (hcall.out _ HT.out).mono ?_; rintro e w1 ⟨rfl, b1⟩) | (go_at_call 254; refine (hH.out _).mono ?_; rintro e w2 ⟨rfl, rfl⟩))
        go_ret3
        exact ⟨rfl, b1⟩
      | some f =>
        have hH := hide (fun W => headFrom_some hd W hRz)
        rw [hd] at hE
        rw [hE.out]
        clear hd
        go_enter Tryz.func233, Tryz.ntmps233
        go_wp2_with (first | (go_at_call 183; refine (hcall.out _ HT.out).mono ?_; rintro e w1 ⟨rfl, b1⟩) | (go_at_call 254; refine (hH.out _).mono ?_; rintro e w2 ⟨rfl, rfl⟩))
        go_ret3
        exact ⟨rfl, b1⟩
  · have hl' : decide ((20000 : Int) < (s.size : Int)) = true := by simp; omega
    have hE : Hid (hdOf n s = none) := by
      show _ = _
      unfold hdOf unf
      rw [if_neg hl]
    rw [hE.out]
    go_enter Tryz.func233, Tryz.ntmps233
    go_wp2
    go_ret3
    exact ⟨rfl, Below.refl _ _⟩
end Go.Proofs.YtmmchemgegmhhaaGreatDoor
