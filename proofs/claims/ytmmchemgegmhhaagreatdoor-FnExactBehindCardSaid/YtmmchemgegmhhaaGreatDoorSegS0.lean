/- Heads: the specification's writer and reader of them. -/
import Derived.Test.YtmmchemgegmhhaaGreatDoorSegH
import Derived.Test.YtmmchemgegmhhaaGreatDoorFrameS
namespace Go.Proofs.YtmmchemgegmhhaaGreatDoor
open Go.RowKit

set_option maxRecDepth 100000 in
theorem specHeadText_any (n f : Int) (w : World) : Calls Tryz.prog 44 #[.int .i64 n, .int .i64 f] w fun e w' => e = .returned (.tuple #[.string (headT n f), .bool (decide (0 ≤ n ∧ n ≤ 99 ∧ 0 ≤ f ∧ f ≤ n))]) ∧ Below w.heap.size w w' := by
  by_cases h : 0 ≤ n ∧ n ≤ 99 ∧ 0 ≤ f ∧ f ≤ n
  · have hd : decide (0 ≤ n ∧ n ≤ 99 ∧ 0 ≤ f ∧ f ≤ n) = true := decide_eq_true h
    rw [hd]
    obtain ⟨n, rfl⟩ := Int.eq_ofNat_of_zero_le h.1
    obtain ⟨f, rfl⟩ := Int.eq_ofNat_of_zero_le h.2.2.1
    have hE := hide (headT_in n f (by omega) (by omega))
    have hC := hide (headL_cat n f)
    have v1 := Wd.varF_len 5 n
    have v2 := Wd.varF_len 5 f
    have hz := headL_size n f
    have hF := hide (fun W => specFrame_yes ⟨(headL n f).toArray⟩ W (by omega) (by omega))
    clear hz
    go_enter Tryz.func44, Tryz.ntmps44
    go_wp2_with fail
    refine (l01In_yes _ _ _ _ (by omega) (by omega)).mono ?_
    rintro e w0 ⟨rfl, rfl⟩
    go_wp2_with fail
    refine (l01In_yes _ _ _ _ (by omega) (by omega)).mono ?_
    rintro e w0 ⟨rfl, rfl⟩
    go_wp2_with fail
    refine (l01Var_any n _ (by omega)).mono ?_
    rintro e w1 ⟨rfl, b1⟩
    go_wp2_with fail
    refine (l01Var_any f _ (by omega)).mono ?_
    rintro e w2 ⟨rfl, b2⟩
    go_wp2_with fail
    rw [hC.out]
    refine (hF.out _).mono ?_
    rintro e w3 ⟨rfl, b3⟩
    go_wp2
    go_ret2
    rw [hE.out]
    have b12 := b1.trans (b2.mono b1.size)
    exact ⟨rfl, b12.trans (b3.mono b12.size)⟩
  · have hd : decide (0 ≤ n ∧ n ≤ 99 ∧ 0 ≤ f ∧ f ≤ n) = false := decide_eq_false h
    rw [hd]
    have hE := hide (headT_out n f h)
    by_cases hn : 0 ≤ n ∧ n ≤ 99
    · go_enter Tryz.func44, Tryz.ntmps44
      go_wp2_with fail
      refine (l01In_yes _ _ _ _ (by omega) (by omega)).mono ?_
      rintro e w0 ⟨rfl, rfl⟩
      go_wp2_with fail
      refine (l01In_no _ _ _ _ (by omega)).mono ?_
      rintro e w0 ⟨rfl, rfl⟩
      go_wp2
      go_ret2
      rw [hE.out]
      exact ⟨rfl, Below.refl _ _⟩
    · go_enter Tryz.func44, Tryz.ntmps44
      go_wp2_with fail
      refine (l01In_no _ _ _ _ (by omega)).mono ?_
      rintro e w0 ⟨rfl, rfl⟩
      go_wp2
      go_ret2
      rw [hE.out]
      exact ⟨rfl, Below.refl _ _⟩

set_option maxRecDepth 100000 in
set_option maxHeartbeats 800000 in
theorem l06Head_any (n : Nat) (t : ByteArray) (w : World) (hn : n ≤ 99) (ht : t.size ≤ 1048576) : Calls Tryz.prog 107 #[.int .i64 n, .string t] w fun e w' => e = .returned (.tuple #[.int .i64 (((hdFrom n t).getD 0 : Nat) : Int), .bool (hdFrom n t).isSome]) ∧ Below w.heap.size w w' := by
  have hl0 := takeC_le (t := t) (n := 1) (i := 0) false (Nat.zero_le _)
  obtain ⟨x0, X0⟩ : ∃ x, Hid (takeC t 1 0 false = x) := ⟨_, rfl⟩
  have C0 := hide (fun W (hW : CurB W w.heap.size t 0 false) => l05Take_any t w.heap.size 1 0 false W ht (Nat.zero_le _) (by omega) hW)
  rw [X0.out] at C0 hl0
  obtain ⟨s0, i0, b0⟩ := x0
  have hl1 := varC_le b0 hl0.1
  obtain ⟨x1, X1⟩ : ∃ x, Hid (varC t i0 b0 = x) := ⟨_, rfl⟩
  have C1 := hide (fun W (hW : CurB W w.heap.size t i0 b0) => l05Var_any t w.heap.size i0 b0 W ht hl0.1 hW)
  rw [X1.out] at C1 hl1
  obtain ⟨a, i1, b1⟩ := x1
  have hl2 := varC_le b1 hl1.1
  obtain ⟨x2, X2⟩ : ∃ x, Hid (varC t i1 b1 = x) := ⟨_, rfl⟩
  have C2 := hide (fun W (hW : CurB W w.heap.size t i1 b1) => l05Var_any t w.heap.size i1 b1 W ht hl1.1 hW)
  rw [X2.out] at C2 hl2
  obtain ⟨f, i2, bad⟩ := x2
  simp only at hl0 hl1 hl2
  have HRW : Hid (hdRaw t = (a, f, bad)) := by show _ = _; simp only [hdRaw, X0.out, X1.out, X2.out]
  have HY : Hid (bad = false ∧ a = n ∧ f ≤ n ∧ (⟨(headL n f).toArray⟩ : ByteArray) = t → hdFrom n t = some f) := by
    rintro ⟨rfl, rfl, h3, h4⟩
    exact (hdFrom_iff _ _ _).2 ⟨by omega, by omega, by omega, by rw [Int.toNat_natCast]; exact h4.symm⟩
  have HN : Hid (¬ (bad = false ∧ a = n ∧ f ≤ n ∧ (⟨(headL n f).toArray⟩ : ByteArray) = t) → hdFrom n t = none) := by
    intro h
    unfold hdFrom
    rw [if_neg]
    unfold hdOk
    rw [HRW.out]
    simp only [Bool.and_eq_true, decide_eq_true_eq, beq_iff_eq]
    rintro ⟨h1, h2, -, h4, h5⟩
    have e2 : a = n := by omega
    subst e2
    exact h ⟨by simpa using h1, rfl, by omega, h5⟩
  have ST : Hid (CurB (w.alloc (.cells #[.string t, .int .i64 0, .bool false] 205)) w.heap.size t 0 false) := heap_alloc_new w _
  have BT : Hid (Below w.heap.size w (w.alloc (.cells #[.string t, .int .i64 0, .bool false] 205))) := (Below.refl _ w).alloc (Nat.le_refl _) _
  go_enter Tryz.func107, Tryz.ntmps107
  go_wp2_with fail
  generalize (w.alloc (.cells #[.string t, .int .i64 0, .bool false] 205)) = w0 at ST BT
  refine (C0.out _ ST.out).mono ?_
  rintro e w1 ⟨rfl, c1, g1⟩
  have S1 := hide c1
  have B1 := hide (BT.out.grown g1 BT.out.size (fun k hk => by cases hk; exact Nat.le_refl _))
  clear c1 g1 ST BT
  go_wp2_with fail
  refine (C1.out _ S1.out).mono ?_
  rintro e w2 ⟨rfl, c2, g2⟩
  have S2 := hide c2
  have B2 := hide (B1.out.grown g2 B1.out.size (fun k hk => by cases hk; exact Nat.le_refl _))
  clear c2 g2 S1 B1
  go_wp2_with fail
  refine (C2.out _ S2.out).mono ?_
  rintro e w3 ⟨rfl, c3, g3⟩
  have S3 := hide c3
  have B3 := hide (B2.out.grown g3 B2.out.size (fun k hk => by cases hk; exact Nat.le_refl _))
  clear c3 g3 S2 B2
  clear C0 C1 C2 X0 X1 X2 HRW
  have hcb := (curB_cells S3.out).2.2
  cases bad with
  | true =>
    have HE := hide (HN.out (by simp))
    go_wp2_with fail
    go_ret2
    rw [HE.out]
    exact ⟨rfl, B3.out⟩
  | false =>
    by_cases ha : a = n
    · have ha' : ((a : Int) != (n : Int)) = false := by rw [bne_eq_false_iff_eq]; omega
      by_cases hf : f ≤ n
      · have hC := hide (headL_cat n f)
        have v1 := Wd.varF_len 5 n
        have v2 := Wd.varF_len 5 f
        go_wp2_with fail
        refine (l01In_yes _ _ _ _ (by omega) (by omega)).mono ?_
        rintro e w4 ⟨rfl, rfl⟩
        go_wp2_with fail
        refine (l01Var_any n _ (by omega)).mono ?_
        rintro e w5 ⟨rfl, b5⟩
        go_wp2_with fail
        refine (l01Var_any f _ (by omega)).mono ?_
        rintro e w6 ⟨rfl, b6⟩
        have B6 := hide ((B3.out.trans (b5.mono B3.out.size)).trans (b6.mono (Nat.le_trans B3.out.size b5.size)))
        clear b5 b6 B3 S3 hcb
        by_cases ht' : (⟨(headL n f).toArray⟩ : ByteArray) = t
        · have HE := hide (HY.out ⟨by simp, ha, hf, ht'⟩)
          have heq := txt_eq ((hC.out).trans ht')
          have heq2 := txt_eq ht'
          clear ht' HN HY
          go_wp2_with fail
          go_ret2
          rw [HE.out]
          exact ⟨rfl, B6.out⟩
        · have HE := hide (HN.out (fun h => ht' h.2.2.2))
          have heq := txt_ne (fun e => ht' ((hC.out).symm.trans e))
          have heq2 := txt_ne ht'
          clear ht' HN HY
          go_wp2_with fail
          go_ret2
          rw [HE.out]
          exact ⟨rfl, B6.out⟩
      · have HE := hide (HN.out (fun h => hf h.2.2.1))
        go_wp2_with fail
        refine (l01In_no _ _ _ _ (by omega)).mono ?_
        rintro e w4 ⟨rfl, rfl⟩
        go_wp2_with fail
        go_ret2
        rw [HE.out]
        exact ⟨rfl, B3.out⟩
    · have ha' : ((a : Int) != (n : Int)) = true := by rw [bne_iff_ne]; omega
      have HE := hide (HN.out (fun h => ha h.2.1))
      go_wp2_with fail
      go_ret2
      rw [HE.out]
      exact ⟨rfl, B3.out⟩
end Go.Proofs.YtmmchemgegmhhaaGreatDoor
