import Derived.Test.YtmmchemgegmhhaaGreatDoorFo1
import Derived.Test.YtmmchemgegmhhaaGreatDoorFo4
import Derived.Test.YtmmchemgegmhhaaGreatDoorFo2
set_option maxRecDepth 100000
set_option maxHeartbeats 800000
namespace Go.Proofs.YtmmchemgegmhhaaGreatDoor
open Go.RowKit
theorem smalls_lows : ((List.range 10).all fun n => (((⟨#[48, 49, 50, 51, 52, 53, 54, 55, 56, 57, 97, 98, 99, 100, 101, 102, 103, 104, 105, 106, 107, 108, 109, 110, 111, 112, 113, 114, 115, 116, 117, 118, 119, 120, 121, 122]⟩ : ByteArray).extract n (n + 1)).data.toList == Wd.decS (n : Int))) = true := by kernel_rfl
theorem smalls_low (n : Nat) (h : n < 10) : (⟨#[48, 49, 50, 51, 52, 53, 54, 55, 56, 57, 97, 98, 99, 100, 101, 102, 103, 104, 105, 106, 107, 108, 109, 110, 111, 112, 113, 114, 115, 116, 117, 118, 119, 120, 121, 122]⟩ : ByteArray).extract n (n + 1) = ⟨(Wd.decS (n : Int)).toArray⟩ := by
  have := (List.all_eq_true.1 smalls_lows) n (List.mem_range.2 h)
  apply ByteArray.ext
  apply Array.toList_inj.1
  exact eq_of_beq this
theorem smalls_all : ((List.range 100).all fun n => decide (n < 10) || (((⟨#[48, 48, 48, 49, 48, 50, 48, 51, 48, 52, 48, 53, 48, 54, 48, 55, 48, 56, 48, 57, 49, 48, 49, 49, 49, 50, 49, 51, 49, 52, 49, 53, 49, 54, 49, 55, 49, 56, 49, 57, 50, 48, 50, 49, 50, 50, 50, 51, 50, 52, 50, 53, 50, 54, 50, 55, 50, 56, 50, 57, 51, 48, 51, 49, 51, 50, 51, 51, 51, 52, 51, 53, 51, 54, 51, 55, 51, 56, 51, 57, 52, 48, 52, 49, 52, 50, 52, 51, 52, 52, 52, 53, 52, 54, 52, 55, 52, 56, 52, 57, 53, 48, 53, 49, 53, 50, 53, 51, 53, 52, 53, 53, 53, 54, 53, 55, 53, 56, 53, 57, 54, 48, 54, 49, 54, 50, 54, 51, 54, 52, 54, 53, 54, 54, 54, 55, 54, 56, 54, 57, 55, 48, 55, 49, 55, 50, 55, 51, 55, 52, 55, 53, 55, 54, 55, 55, 55, 56, 55, 57, 56, 48, 56, 49, 56, 50, 56, 51, 56, 52, 56, 53, 56, 54, 56, 55, 56, 56, 56, 57, 57, 48, 57, 49, 57, 50, 57, 51, 57, 52, 57, 53, 57, 54, 57, 55, 57, 56, 57, 57]⟩ : ByteArray).extract (n * 2) (n * 2 + 2)).data.toList == Wd.decS (n : Int))) = true := by kernel_rfl
theorem smalls_high (n : Nat) (h0 : 10 ≤ n) (h : n < 100) : (⟨#[48, 48, 48, 49, 48, 50, 48, 51, 48, 52, 48, 53, 48, 54, 48, 55, 48, 56, 48, 57, 49, 48, 49, 49, 49, 50, 49, 51, 49, 52, 49, 53, 49, 54, 49, 55, 49, 56, 49, 57, 50, 48, 50, 49, 50, 50, 50, 51, 50, 52, 50, 53, 50, 54, 50, 55, 50, 56, 50, 57, 51, 48, 51, 49, 51, 50, 51, 51, 51, 52, 51, 53, 51, 54, 51, 55, 51, 56, 51, 57, 52, 48, 52, 49, 52, 50, 52, 51, 52, 52, 52, 53, 52, 54, 52, 55, 52, 56, 52, 57, 53, 48, 53, 49, 53, 50, 53, 51, 53, 52, 53, 53, 53, 54, 53, 55, 53, 56, 53, 57, 54, 48, 54, 49, 54, 50, 54, 51, 54, 52, 54, 53, 54, 54, 54, 55, 54, 56, 54, 57, 55, 48, 55, 49, 55, 50, 55, 51, 55, 52, 55, 53, 55, 54, 55, 55, 55, 56, 55, 57, 56, 48, 56, 49, 56, 50, 56, 51, 56, 52, 56, 53, 56, 54, 56, 55, 56, 56, 56, 57, 57, 48, 57, 49, 57, 50, 57, 51, 57, 52, 57, 53, 57, 54, 57, 55, 57, 56, 57, 57]⟩ : ByteArray).extract (n * 2) (n * 2 + 2) = ⟨(Wd.decS (n : Int)).toArray⟩ := by
  have := (List.all_eq_true.1 smalls_all) n (List.mem_range.2 h)
  simp only [Bool.or_eq_true, decide_eq_true_eq] at this
  rcases this with h' | h'
  · omega
  · apply ByteArray.ext
    apply Array.toList_inj.1
    exact eq_of_beq h'
theorem small_any (n : Nat) (w : World) (h : n < 100) :
    Calls Tryz.prog 229 #[.int .i64 n] w fun e w' => e = .returned (.string ⟨(Wd.decS (n : Int)).toArray⟩) ∧ w' = w := by
  by_cases hn : n < 10
  · have hn' : decide ((n : Int) < 10) = true := by simp; omega
    obtain ⟨R, hR⟩ : ∃ R : ByteArray, (⟨(Wd.decS (n : Int)).toArray⟩ : ByteArray) = R := ⟨_, rfl⟩
    have hcut := cut_at ⟨#[48, 49, 50, 51, 52, 53, 54, 55, 56, 57, 97, 98, 99, 100, 101, 102, 103, 104, 105, 106, 107, 108, 109, 110, 111, 112, 113, 114, 115, 116, 117, 118, 119, 120, 121, 122]⟩ n (n + 1) (n : Int) ((n : Int) + 1) R rfl (by omega) (by omega) (by show n + 1 ≤ 36; omega) ((smalls_low n hn).trans hR)
    rw [hR]
    clear hR
    go_enter Tryz.func229, Tryz.ntmps229
    go_wp2
    go_ret
    exact ⟨rfl, rfl⟩
  · have hn' : decide ((n : Int) < 10) = false := by simp; omega
    obtain ⟨R, hR⟩ : ∃ R : ByteArray, (⟨(Wd.decS (n : Int)).toArray⟩ : ByteArray) = R := ⟨_, rfl⟩
    have hcut := cut_at ⟨#[48, 48, 48, 49, 48, 50, 48, 51, 48, 52, 48, 53, 48, 54, 48, 55, 48, 56, 48, 57, 49, 48, 49, 49, 49, 50, 49, 51, 49, 52, 49, 53, 49, 54, 49, 55, 49, 56, 49, 57, 50, 48, 50, 49, 50, 50, 50, 51, 50, 52, 50, 53, 50, 54, 50, 55, 50, 56, 50, 57, 51, 48, 51, 49, 51, 50, 51, 51, 51, 52, 51, 53, 51, 54, 51, 55, 51, 56, 51, 57, 52, 48, 52, 49, 52, 50, 52, 51, 52, 52, 52, 53, 52, 54, 52, 55, 52, 56, 52, 57, 53, 48, 53, 49, 53, 50, 53, 51, 53, 52, 53, 53, 53, 54, 53, 55, 53, 56, 53, 57, 54, 48, 54, 49, 54, 50, 54, 51, 54, 52, 54, 53, 54, 54, 54, 55, 54, 56, 54, 57, 55, 48, 55, 49, 55, 50, 55, 51, 55, 52, 55, 53, 55, 54, 55, 55, 55, 56, 55, 57, 56, 48, 56, 49, 56, 50, 56, 51, 56, 52, 56, 53, 56, 54, 56, 55, 56, 56, 56, 57, 57, 48, 57, 49, 57, 50, 57, 51, 57, 52, 57, 53, 57, 54, 57, 55, 57, 56, 57, 57]⟩ (n * 2) (n * 2 + 2) ((n : Int) * 2) ((n : Int) * 2 + 2) R (by omega) (by omega) (by omega) (by show n * 2 + 2 ≤ 200; omega) ((smalls_high n (by omega) h).trans hR)
    rw [hR]
    clear hR
    go_enter Tryz.func229, Tryz.ntmps229
    go_wp2
    go_ret
    exact ⟨rfl, rfl⟩
theorem implDec_small (n : Nat) (w : World) (h : n < 100) :
    Calls Tryz.prog 129 #[.int .i64 n] w fun e w' => e = .returned (.string ⟨(Wd.decS (n : Int)).toArray⟩) ∧ w' = w := by
  have h1 : decide ((0 : Int) ≤ (n : Int)) = true := by simp
  have h2 : decide ((n : Int) < 100) = true := by simp; omega
  have F : ∀ W : World, Calls Tryz.prog 217 #[.int .i64 n, .int .i64 10] W fun e w' => e = .returned (.string ⟨(Wd.decS (n : Int)).toArray⟩) ∧ w' = W := by
    intro W
    go_enter Tryz.func217, Tryz.ntmps217
    go_wp2_with (go_at_call 229; refine (small_any n _ h).mono ?_; rintro e w' ⟨rfl, rfl⟩)
    go_ret
    exact ⟨rfl, rfl⟩
  have I : ∀ W : World, Calls Tryz.prog 196 #[.int .i64 n] W fun e w' => e = .returned (.string ⟨(Wd.decS (n : Int)).toArray⟩) ∧ w' = W := by
    intro W
    go_enter Tryz.func196, Tryz.ntmps196
    go_wp2_with (go_at_call 217; refine (F _).mono ?_; rintro e w' ⟨rfl, rfl⟩)
    go_ret
    exact ⟨rfl, rfl⟩
  have S : ∀ W : World, Calls Tryz.prog 165 #[.int .i64 n] W fun e w' => e = .returned (.string ⟨(Wd.decS (n : Int)).toArray⟩) ∧ w' = W := by
    intro W
    go_enter Tryz.func165, Tryz.ntmps165
    go_wp2_with (go_at_call 196; refine (I _).mono ?_; rintro e w' ⟨rfl, rfl⟩)
    go_ret
    exact ⟨rfl, rfl⟩
  go_enter Tryz.func129, Tryz.ntmps129
  go_wp2_with (go_at_call 165; refine (S _).mono ?_; rintro e w' ⟨rfl, rfl⟩)
  go_ret
  exact ⟨rfl, rfl⟩
def segNm (n : Int) : ByteArray := if 0 ≤ n ∧ n ≤ 99 then ⟨(98 :: Wd.decS n).toArray⟩ else ⟨#[]⟩
theorem segNm_in (n : Nat) (h : n ≤ 99) : segNm n = (⟨#[98]⟩ : ByteArray) ++ ⟨(Wd.decS (n : Int)).toArray⟩ := by
  unfold segNm
  rw [if_pos (by omega)]
  apply ByteArray.ext
  apply Array.toList_inj.1
  simp
theorem segNm_out (n : Int) (h : n < 0 ∨ 99 < n) : segNm n = ⟨#[]⟩ := by unfold segNm; rw [if_neg (by omega)]
theorem decS_len : ∀ n : Nat, n ≤ 99 → (Wd.decS (n : Int)).length ≤ 2 := by
  have : ((List.range 100).all fun n => decide ((Wd.decS (n : Int)).length ≤ 2)) = true := by kernel_rfl
  intro n hn
  have := (List.all_eq_true.1 this) n (List.mem_range.2 (by omega))
  simpa using this
theorem right_any (n : Int) (b : Bool) (w : World) (h : (decide (0 ≤ n) && decide (n ≤ 99)) = b) : Calls Tryz.prog 125 #[.int .i64 n] w fun e w' => e = .returned (.bool b) ∧ w' = w := by
  by_cases h0 : 0 ≤ n
  · have h0' : decide (0 ≤ n) = true := by simp; omega
    rw [h0', Bool.true_and] at h
    subst h
    go_enter Tryz.func125, Tryz.ntmps125
    go_wp2
    go_ret
    exact ⟨rfl, rfl⟩
  · have h0' : decide (0 ≤ n) = false := by simp; omega
    rw [h0', Bool.false_and] at h
    subst h
    go_enter Tryz.func125, Tryz.ntmps125
    go_wp2
    go_ret
    exact ⟨rfl, rfl⟩
theorem name_any (n : Int) (w : World) : Calls Tryz.prog 85 #[.int .i64 n] w fun e w' => e = .returned (.string (segNm n)) ∧ w' = w := by
  by_cases h : 0 ≤ n ∧ n ≤ 99
  · obtain ⟨m, rfl⟩ := Int.eq_ofNat_of_zero_le h.1
    have hE := hide (segNm_in m (by omega))
    have hl := decS_len m (by omega)
    have hb : (decide ((0 : Int) ≤ (m : Int)) && decide ((m : Int) ≤ 99)) = true := by simp; omega
    go_enter Tryz.func85, Tryz.ntmps85
    go_wp2_with (first | (go_at_call 125; refine (right_any _ _ _ hb).mono ?_; rintro e w' ⟨rfl, rfl⟩) | (go_at_call 129; refine (implDec_small m _ (by omega)).mono ?_; rintro e w' ⟨rfl, rfl⟩))
    go_ret
    rw [hE.out]
    exact ⟨rfl, rfl⟩
  · have hE := hide (segNm_out n (by omega))
    have hb : (decide ((0 : Int) ≤ n) && decide (n ≤ 99)) = false := by simp; omega
    go_enter Tryz.func85, Tryz.ntmps85
    go_wp2_with (first | (go_at_call 125; refine (right_any _ _ _ hb).mono ?_; rintro e w' ⟨rfl, rfl⟩))
    go_ret
    rw [hE.out]
    exact ⟨rfl, rfl⟩
theorem implSegName_any (n : Int) (w : World) : Calls Tryz.prog 41 #[.int .i64 n] w fun e w' => e = .returned (.string (segNm n)) ∧ w' = w := by
  go_enter Tryz.func41, Tryz.ntmps41
  go_wp2_with (first | (go_at_call 85; refine (name_any _ _).mono ?_; rintro e w' ⟨rfl, rfl⟩))
  go_ret
  exact ⟨rfl, rfl⟩
theorem specSegName_any (n : Int) (w : World) : Calls Tryz.prog 45 #[.int .i64 n] w fun e w' => e = .returned (.string (segNm n)) ∧ Below w.heap.size w w' := by
  by_cases h : 0 ≤ n ∧ n ≤ 99
  · obtain ⟨m, rfl⟩ := Int.eq_ofNat_of_zero_le h.1
    have hE := hide (segNm_in m (by omega))
    have hl := decS_len m (by omega)
    go_enter Tryz.func45, Tryz.ntmps45
    go_wp2_with (first | (go_at_call 43; refine (l01In_yes _ _ _ _ (by omega) (by omega)).mono ?_; rintro e w' ⟨rfl, rfl⟩) | (go_at_call 88; refine (decimal_any m _ (by omega) (by omega)).mono ?_; rintro e w1 ⟨rfl, b1⟩))
    go_ret
    rw [hE.out]
    exact ⟨rfl, b1⟩
  · have hE := hide (segNm_out n (by omega))
    go_enter Tryz.func45, Tryz.ntmps45
    go_wp2_with (first | (go_at_call 43; refine (l01In_no _ _ _ _ (by omega)).mono ?_; rintro e w' ⟨rfl, rfl⟩))
    go_ret
    rw [hE.out]
    exact ⟨rfl, Below.refl _ _⟩
theorem headOk_any (n f : Int) (b : Bool) (w : World) (h : decide (0 ≤ n ∧ n ≤ 99 ∧ 0 ≤ f ∧ f ≤ n) = b) : Calls Tryz.prog 82 #[.int .i64 n, .int .i64 f] w fun e w' => e = .returned (.bool b) ∧ w' = w := by
  by_cases h0 : 0 ≤ n ∧ n ≤ 99
  · have hb : (decide (0 ≤ n) && decide (n ≤ 99)) = true := by simp; omega
    by_cases h1 : 0 ≤ f
    · have h1' : decide (0 ≤ f) = true := by simp; omega
      have hr : decide (f ≤ n) = b := by rw [← h]; apply decide_eq_decide.2; omega
      go_enter Tryz.func82, Tryz.ntmps82
      go_wp2_with (first | (go_at_call 125; refine (right_any _ _ _ hb).mono ?_; rintro e w' ⟨rfl, rfl⟩))
      go_ret
      exact ⟨rfl, rfl⟩
    · have h1' : decide (0 ≤ f) = false := by simp; omega
      have hr : b = false := by rw [← h]; simp; omega
      subst hr
      go_enter Tryz.func82, Tryz.ntmps82
      go_wp2_with (first | (go_at_call 125; refine (right_any _ _ _ hb).mono ?_; rintro e w' ⟨rfl, rfl⟩))
      go_ret
      exact ⟨rfl, rfl⟩
  · have hb : (decide (0 ≤ n) && decide (n ≤ 99)) = false := by simp; omega
    have hr : b = false := by rw [← h]; simp; omega
    subst hr
    go_enter Tryz.func82, Tryz.ntmps82
    go_wp2_with (first | (go_at_call 125; refine (right_any _ _ _ hb).mono ?_; rintro e w' ⟨rfl, rfl⟩))
    go_ret
    exact ⟨rfl, rfl⟩
def headT (n f : Int) : ByteArray := if 0 ≤ n ∧ n ≤ 99 ∧ 0 ≤ f ∧ f ≤ n then frameB ⟨(headL n.toNat f.toNat).toArray⟩ else ⟨#[]⟩
theorem headT_in (n f : Nat) (h : n ≤ 99) (h' : f ≤ n) : headT n f = frameB ⟨(headL n f).toArray⟩ := by
  unfold headT
  rw [if_pos (by omega), Int.toNat_natCast, Int.toNat_natCast]
theorem headT_out (n f : Int) (h : ¬ (0 ≤ n ∧ n ≤ 99 ∧ 0 ≤ f ∧ f ≤ n)) : headT n f = ⟨#[]⟩ := by unfold headT; rw [if_neg h]
theorem headL_size (n f : Nat) : (⟨(headL n f).toArray⟩ : ByteArray).size = 1 + (Wd.varF 5 n).length + (Wd.varF 5 f).length := by
  show (headL n f).length = _
  unfold headL
  rw [List.length_append, List.length_append]
  rfl
theorem headL_cat (n f : Nat) : (⟨#[72]⟩ : ByteArray) ++ ⟨(Wd.varF 5 n).toArray⟩ ++ ⟨(Wd.varF 5 f).toArray⟩ = ⟨(headL n f).toArray⟩ := by
  apply ByteArray.ext
  apply Array.toList_inj.1
  simp [headL]
theorem implHeadText_any (n f : Int) (w : World) (hT : SumTab w) : Calls Tryz.prog 40 #[.int .i64 n, .int .i64 f] w fun e w' => e = .returned (.tuple #[.string (headT n f), .bool (decide (0 ≤ n ∧ n ≤ 99 ∧ 0 ≤ f ∧ f ≤ n))]) ∧ Below w.heap.size w w' := by
  have HT := hide hT
  clear hT
  by_cases h : 0 ≤ n ∧ n ≤ 99 ∧ 0 ≤ f ∧ f ≤ n
  · have hd : decide (0 ≤ n ∧ n ≤ 99 ∧ 0 ≤ f ∧ f ≤ n) = true := decide_eq_true h
    rw [hd]
    obtain ⟨n, rfl⟩ := Int.eq_ofNat_of_zero_le h.1
    obtain ⟨f, rfl⟩ := Int.eq_ofNat_of_zero_le h.2.2.1
    have hE := hide (headT_in n f (by omega) (by omega))
    have hC := hide (headL_cat n f)
    have v1 := Wd.varF_len 5 n
    have v2 := Wd.varF_len 5 f
    have hz := headL_size n f
    have hF := hide (fun W hW => frame_yes ⟨(headL n f).toArray⟩ W (by omega) (by omega) hW)
    clear hz
    go_enter Tryz.func40, Tryz.ntmps40
    go_wp2_with fail
    refine (headOk_any _ _ _ _ hd).mono ?_
    rintro e w0 ⟨rfl, rfl⟩
    go_wp2_with fail
    refine (implVar_yes n _ (by omega)).mono ?_
    rintro e w1 ⟨rfl, b1⟩
    go_wp2_with fail
    refine (implVar_yes f _ (by omega)).mono ?_
    rintro e w2 ⟨rfl, b2⟩
    go_wp2_with fail
    rw [hC.out]
    refine (hF.out _ (sumTab_later b2 (sumTab_later b1 HT.out))).mono ?_
    rintro e w3 ⟨rfl, b3⟩
    go_wp2
    go_ret2
    rw [hE.out]
    have b12 := b1.trans (b2.mono b1.size)
    exact ⟨rfl, b12.trans (b3.mono b12.size)⟩
  · have hd : decide (0 ≤ n ∧ n ≤ 99 ∧ 0 ≤ f ∧ f ≤ n) = false := decide_eq_false h
    rw [hd]
    have hE := hide (headT_out n f h)
    go_enter Tryz.func40, Tryz.ntmps40
    go_wp2_with (first | (go_at_call 82; refine (headOk_any _ _ _ _ hd).mono ?_; rintro e w0 ⟨rfl, rfl⟩))
    go_ret2
    rw [hE.out]
    exact ⟨rfl, Below.refl _ _⟩
theorem hasPrefix_any (s : ByteArray) (b : Bool) (w : World) (h : decide (s.extract 0 1 = ⟨#[72]⟩) = b) : Calls Tryz.prog 264 #[.string s, .string ⟨#[72]⟩] w fun e w' => e = .returned (.bool b) ∧ w' = w := by
  have S : ∀ W : World, Calls Tryz.prog 267 #[.string s, .string ⟨#[72]⟩] W fun e w' => e = .returned (.bool b) ∧ w' = W := by
    intro W
    by_cases hs : 1 ≤ s.size
    · have hs' : decide ((1 : Int) ≤ (s.size : Int)) = true := by simp; omega
      obtain ⟨R, hR⟩ : ∃ R, s.extract 0 1 = R := ⟨_, rfl⟩
      rw [hR] at h
      have hcut : ∀ W : World, (Instr.slice 9 (.string s) none (some (.int .i64 1)) none).run Tryz.prog W = .ok (.string R) W := by
        intro W
        subst hR
        rw [run_slice_string_to_if W 9 s .i64 1 Tryz.underlying9, if_pos (by omega)]
        rfl
      have heq : (R.toList == (⟨#[72]⟩ : ByteArray).toList) = b := by
        rw [← h]
        by_cases e : R = ⟨#[72]⟩
        · rw [txt_eq e, decide_eq_true e]
        · rw [txt_ne e, decide_eq_false e]
      have heq' : (R.toList == [72]) = b := by rw [← heq, ByteArray.toList_eq (⟨#[72]⟩ : ByteArray)]
      clear hR heq
      go_enter Tryz.func267, Tryz.ntmps267
      go_wp2
      go_ret
      exact ⟨rfl, rfl⟩
    · have hs' : decide ((1 : Int) ≤ (s.size : Int)) = false := by simp; omega
      have hb : b = false := by
        rw [← h]
        apply decide_eq_false
        intro e
        have := congrArg ByteArray.size e
        rw [ByteArray.size_extract] at this
        have e2 : (⟨#[72]⟩ : ByteArray).size = 1 := rfl
        omega
      subst hb
      go_enter Tryz.func267, Tryz.ntmps267
      go_wp2
      go_ret
      exact ⟨rfl, rfl⟩
  go_enter Tryz.func264, Tryz.ntmps264
  go_wp2_with (go_at_call 267; refine (S _).mono ?_; rintro e w' ⟨rfl, rfl⟩)
  go_ret
  exact ⟨rfl, rfl⟩
def hdAns (o : Option Nat) : Value := .tuple #[.int .i64 ((o.getD 0 : Nat) : Int), .bool o.isSome]
theorem headFrom_any (n : Int) (t : ByteArray) (w : World) (ht : t.size ≤ 1048576) : Calls Tryz.prog 254 #[.int .i64 n, .string t] w fun e w' => e = .returned (hdAns (hdFrom n t)) ∧ w' = w := by
  by_cases h72 : t.extract 0 1 = ⟨#[72]⟩
  · have hp := decide_eq_true h72
    have hz1 : 1 ≤ t.size := by
      have := congrArg ByteArray.size h72
      rw [ByteArray.size_extract] at this
      have e2 : (⟨#[72]⟩ : ByteArray).size = 1 := rfl
      omega
    cases hr : Wd.rv t 1 with
    | none =>
      have hE := hide (hd_none_num (n := n) hr)
      have hread := hide (fun W => implRead_none t 1 W (by omega) (by unfold Wd.rvI; rw [if_neg (by omega)]; exact hr))
      clear hr
      rw [hE.out]
      go_enter Tryz.func254, Tryz.ntmps254
      go_wp2_with (first | (go_at_call 264; refine (hasPrefix_any t _ _ hp).mono ?_; rintro e w' ⟨rfl, rfl⟩) | (go_at_call 209; refine (hread.out _).mono ?_; rintro e w' ⟨rfl, rfl⟩))
      go_ret2
      exact ⟨rfl, rfl⟩
    | some q =>
      obtain ⟨a, p⟩ := q
      have hb := Wd.rv_bounds t 1 a p hr
      have hread := hide (fun W => implRead_some t 1 W a p (by omega) (by unfold Wd.rvI; rw [if_neg (by omega)]; exact hr))
      by_cases hne : (a : Int) = n
      · have hne' : ((a : Int) != n) = false := by rw [bne_eq_false_iff_eq]; exact hne
        cases hr2 : Wd.rv t p with
        | none =>
          have hE := hide (hd_none_next (n := n) hr (fun f hf => by rw [hr2] at hf; simp at hf))
          have hread2 := hide (fun W => implRead_none t (p : Int) W (by omega) (by unfold Wd.rvI; rw [if_neg (by omega), Int.toNat_natCast]; exact hr2))
          clear hr hr2
          rw [hE.out]
          go_enter Tryz.func254, Tryz.ntmps254
          go_wp2_with fail
          refine (hasPrefix_any t _ _ hp).mono ?_
          rintro e w' ⟨rfl, rfl⟩
          go_wp2_with fail
          refine (hread.out _).mono ?_
          rintro e w' ⟨rfl, rfl⟩
          go_wp2_with fail
          refine (hread2.out _).mono ?_
          rintro e w' ⟨rfl, rfl⟩
          go_wp2
          go_ret2
          exact ⟨rfl, rfl⟩
        | some q =>
          obtain ⟨f, q⟩ := q
          have hb2 := Wd.rv_bounds t p f q hr2
          have hread2 := hide (fun W => implRead_some t (p : Int) W f q (by omega) (by unfold Wd.rvI; rw [if_neg (by omega), Int.toNat_natCast]; exact hr2))
          by_cases hq : q = t.size
          · have hq' : ((q : Int) != (t.size : Int)) = false := by rw [bne_eq_false_iff_eq]; omega
            by_cases hh : 0 ≤ n ∧ n ≤ 99 ∧ 0 ≤ (f : Int) ∧ (f : Int) ≤ n
            · have hd := decide_eq_true hh
              have hE := hide (hd_some h72 hr hne hr2 hq hh.1 hh.2.1 hh.2.2.2)
              clear hr hr2 hne hq
              rw [hE.out]
              go_enter Tryz.func254, Tryz.ntmps254
              go_wp2_with fail
              refine (hasPrefix_any t _ _ hp).mono ?_
              rintro e w' ⟨rfl, rfl⟩
              go_wp2_with fail
              refine (hread.out _).mono ?_
              rintro e w' ⟨rfl, rfl⟩
              go_wp2_with fail
              refine (hread2.out _).mono ?_
              rintro e w' ⟨rfl, rfl⟩
              go_wp2_with fail
              refine (headOk_any _ _ _ _ hd).mono ?_
              rintro e w0 ⟨rfl, rfl⟩
              go_wp2
              go_ret2
              exact ⟨rfl, rfl⟩
            · have hd := decide_eq_false hh
              have hE := hide (hd_none_next (n := n) hr (fun g hg => by rw [hr2] at hg; simp only [Option.some.injEq, Prod.mk.injEq] at hg; omega))
              clear hr hr2 hne hq
              rw [hE.out]
              go_enter Tryz.func254, Tryz.ntmps254
              go_wp2_with fail
              refine (hasPrefix_any t _ _ hp).mono ?_
              rintro e w' ⟨rfl, rfl⟩
              go_wp2_with fail
              refine (hread.out _).mono ?_
              rintro e w' ⟨rfl, rfl⟩
              go_wp2_with fail
              refine (hread2.out _).mono ?_
              rintro e w' ⟨rfl, rfl⟩
              go_wp2_with fail
              refine (headOk_any _ _ _ _ hd).mono ?_
              rintro e w0 ⟨rfl, rfl⟩
              go_wp2
              go_ret2
              exact ⟨rfl, rfl⟩
          · have hq' : ((q : Int) != (t.size : Int)) = true := by rw [bne_iff_ne]; omega
            have hE := hide (hd_none_next (n := n) hr (fun g hg => by rw [hr2] at hg; simp only [Option.some.injEq, Prod.mk.injEq] at hg; omega))
            clear hr hr2 hne hq
            rw [hE.out]
            go_enter Tryz.func254, Tryz.ntmps254
            go_wp2_with fail
            refine (hasPrefix_any t _ _ hp).mono ?_
            rintro e w' ⟨rfl, rfl⟩
            go_wp2_with fail
            refine (hread.out _).mono ?_
            rintro e w' ⟨rfl, rfl⟩
            go_wp2_with fail
            refine (hread2.out _).mono ?_
            rintro e w' ⟨rfl, rfl⟩
            go_wp2
            go_ret2
            exact ⟨rfl, rfl⟩
      · have hne' : ((a : Int) != n) = true := by rw [bne_iff_ne]; exact hne
        have hE := hide (hd_none_other hr hne)
        clear hr hne
        rw [hE.out]
        go_enter Tryz.func254, Tryz.ntmps254
        go_wp2_with (first | (go_at_call 264; refine (hasPrefix_any t _ _ hp).mono ?_; rintro e w' ⟨rfl, rfl⟩) | (go_at_call 209; refine (hread.out _).mono ?_; rintro e w' ⟨rfl, rfl⟩))
        go_ret2
        exact ⟨rfl, rfl⟩
  · have hp := decide_eq_false h72
    have hE := hide (hd_none_72 (n := n) h72)
    rw [hE.out]
    go_enter Tryz.func254, Tryz.ntmps254
    go_wp2_with (first | (go_at_call 264; refine (hasPrefix_any t _ _ hp).mono ?_; rintro e w' ⟨rfl, rfl⟩))
    go_ret2
    exact ⟨rfl, rfl⟩
theorem headFrom_none {n : Int} {t : ByteArray} (h : hdFrom n t = none) (w : World) (ht : t.size ≤ 1048576) : Calls Tryz.prog 254 #[.int .i64 n, .string t] w fun e w' => e = .returned (.tuple #[.int .i64 0, .bool false]) ∧ w' = w := by
  have := headFrom_any n t w ht
  rw [h] at this
  exact this
theorem headFrom_some {n : Int} {t : ByteArray} {f : Nat} (h : hdFrom n t = some f) (w : World) (ht : t.size ≤ 1048576) : Calls Tryz.prog 254 #[.int .i64 n, .string t] w fun e w' => e = .returned (.tuple #[.int .i64 (f : Int), .bool true]) ∧ w' = w := by
  have := headFrom_any n t w ht
  rw [h] at this
  exact this
def hdOf (n : Int) (s : ByteArray) : Option (Nat × Nat) :=
  match unf s with
  | [] => none
  | x :: _ => (hdFrom n (s.extract x.1 x.2)).map (fun f => (f, x.2))
def hdOfAns : Option (Nat × Nat) → Value
  | none => .tuple #[.int .i64 0, .int .i64 0, .bool false]
  | some (f, p) => .tuple #[.int .i64 (f : Int), .int .i64 (p : Int), .bool true]
theorem readHead_any (n : Int) (s : ByteArray) (w : World) (hs : s.size ≤ 1048576) (hT : SumTab w) : Calls Tryz.prog 233 #[.int .i64 n, .string s] w fun e w' => e = .returned (hdOfAns (hdOf n s)) ∧ Below w.heap.size w w' := by
  have HT := hide hT
  clear hT
  by_cases hl : s.size ≤ 20000
  · have hl' : decide ((20000 : Int) < (s.size : Int)) = false := by simp; omega
    cases hf : frB s 0 with
    | none =>
      have hE : Hid (hdOf n s = none) := by
        show _ = _
        unfold hdOf unf
        rw [if_pos hl, frs_none s _ 0 hf]
      have hcall := hide (fun W hW => frameAt_none s 0 W hl (Nat.zero_le _) hf hW)
      clear hf
      rw [hE.out]
      go_enter Tryz.func233, Tryz.ntmps233
      go_wp2_with (first | (go_at_call 183; refine (hcall.out _ HT.out).mono ?_; rintro e w1 ⟨rfl, b1⟩))
      go_ret3
      exact ⟨rfl, b1⟩
    | some x =>
      have hb := frB_bounds s 0 x hf
      have hcall := hide (fun W hW => frameAt_some s 0 x W hl (Nat.zero_le _) hf hW)
      obtain ⟨R, hR⟩ : ∃ R, s.extract x.1 x.2 = R := ⟨_, rfl⟩
      have hRz : R.size ≤ 1048576 := by rw [← hR, ByteArray.size_extract]; omega
      have hE : Hid (hdOf n s = (hdFrom n R).map (fun f => (f, x.2))) := by
        show _ = _
        unfold hdOf unf
        rw [if_pos hl, frs_some s _ 0 x hf, ← hR]
      rw [hR] at hcall
      clear hf hR
      cases hd : hdFrom n R with
      | none =>
        have hH := hide (fun W => headFrom_none hd W hRz)
        rw [hd] at hE
        rw [hE.out]
        clear hd
        go_enter Tryz.func233, Tryz.ntmps233
        go_wp2_with (first | (go_at_call 183; refine (hcall.out _ HT.out).mono ?_; rintro e w1 ⟨rfl, b1⟩) | (go_at_call 254; refine (hH.out _).mono ?_; rintro e w2 ⟨rfl, rfl⟩))
        go_ret3
        exact ⟨rfl, b1⟩
      | some f =>
        have hH := hide (fun W => headFrom_some hd W hRz)
        rw [hd] at hE
        rw [hE.out]
        clear hd
        go_enter Tryz.func233, Tryz.ntmps233
        go_wp2_with (first | (go_at_call 183; refine (hcall.out _ HT.out).mono ?_; rintro e w1 ⟨rfl, b1⟩) | (go_at_call 254; refine (hH.out _).mono ?_; rintro e w2 ⟨rfl, rfl⟩))
        go_ret3
        exact ⟨rfl, b1⟩
  · have hl' : decide ((20000 : Int) < (s.size : Int)) = true := by simp; omega
    have hE : Hid (hdOf n s = none) := by
      show _ = _
      unfold hdOf unf
      rw [if_neg hl]
    rw [hE.out]
    go_enter Tryz.func233, Tryz.ntmps233
    go_wp2
    go_ret3
    exact ⟨rfl, Below.refl _ _⟩
theorem specMore_any (q0 : Nat) (s : ByteArray) (w : World) (hq0 : q0 < 4294967296) (hl : s.size ≤ 2097152) :
    Calls Tryz.prog 151 #[.int .u32 q0, .string s] w fun e w' => e = .returned (.int .u32 (sumB q0 s : Nat)) ∧ w' = w := by
  go_enter Tryz.func151, Tryz.ntmps151
  go_wp2
  go_loop [0, 5] (fun t u => ∃ (k q : Nat), t = .int .u32 q ∧ u = .int .i64 k ∧ k ≤ s.size ∧ q < 4294967296 ∧ Hid (sumFrom q s k = sumB q0 s)) (fun _ u => s.size - (intOf u).toNat)
  case atStart => exact ⟨0, q0, rfl, rfl, by omega, hq0, rfl⟩
  case round =>
    obtain ⟨k, q, rfl, rfl, hk, hq, hrest⟩ := hrel
    by_cases hlt : k < s.size
    · have hlt' : decide ((k : Int) < (s.size : Int)) = true := by simp; omega
      have HS := hide (sumFrom_step q s k hlt)
      obtain ⟨b, hbt, hb256⟩ : ∃ b : Nat, (s[k]'hlt).toNat = b ∧ b < 256 := ⟨_, rfl, byte_lt _⟩
      rw [hbt] at HS
      have hx0 := u32_xor_nat q b hq (by omega)
      have hx1 := xor_lt32 hq (show b < 4294967296 by omega)
      have HX : Hid (sb q b = hvN 8 (q ^^^ b)) := rfl
      have hq' := sb_lt hq hb256
      generalize q ^^^ b = x at hx0 hx1 HX
      go_wp2
      go_loop [0, 6] (fun t u => ∃ (j y : Nat), t = .int .u32 y ∧ u = .int .i64 j ∧ j ≤ 8 ∧ y < 4294967296 ∧ Hid (hvN (8 - j) y = hvN 8 x)) (fun _ u => 8 - (intOf u).toNat)
      case atStart => exact ⟨0, x, rfl, rfl, by omega, hx1, rfl⟩
      case round =>
        obtain ⟨j, y, rfl, rfl, hj, hy, HY⟩ := hrel
        by_cases hj8 : j < 8
        · have hj8' : decide ((j : Int) < 8) = true := by simp; omega
          have HN : Hid (hvN (8 - (j + 1)) (hv y) = hvN 8 x) := by
            show _ = _
            rw [← HY.out, show 8 - j = (8 - (j + 1)) + 1 by omega]; rfl
          have hy' := hv_lt hy
          by_cases hodd : y % 2 = 1
          · have ho : decide ((y : Int) % 2 = 1) = true := by simp; omega
            have ho2 : ((y : Int) % 2 == 1) = true := by simp; omega
            have hz := u32_xor_nat (y / 2) 3558460437 (by omega) (by decide)
            have hv1 : y / 2 ^^^ 3558460437 = hv y := by unfold hv; rw [if_pos hodd]
            rw [hv1, show ((y / 2 : Nat) : Int) = (y : Int) / 2 by omega] at hz
            have hz : bits .xor .u32 ((y : Int) / 2) 3558460437 = (hv y : Int) := hz
            clear hv1
            generalize hv y = z at HN hy' hz
            go_wp2
            go_round
            case rel => exact ⟨j + 1, z, rfl, by go_num, by omega, hy', HN⟩
            case measure => simp [intOf]; omega
          · have ho : decide ((y : Int) % 2 = 1) = false := by simp; omega
            have ho2 : ((y : Int) % 2 == 1) = false := by simp; omega
            have hv1 : hv y = y / 2 := by unfold hv; rw [if_neg hodd]
            rw [hv1] at HN hy'
            clear hv1
            go_wp2
            go_round
            case rel => exact ⟨j + 1, y / 2, by go_num, by go_num, by omega, hy', HN⟩
            case measure => simp [intOf]; omega
        · have hj8' : decide ((j : Int) < 8) = false := by simp; omega
          have HN : Hid (y = sb q b) := by
            show _ = _
            rw [HX.out, ← HY.out, show 8 - j = 0 by omega]; rfl
          go_wp2
          go_round
          case rel =>
            refine ⟨k + 1, sb q b, by rw [HN.out], by go_num, by omega, hq', ?_⟩
            show _ = _
            rw [← hrest.out, HS.out]
          case measure => simp [intOf]; omega
    · have hlt' : decide ((k : Int) < (s.size : Int)) = false := by simp; omega
      have HF : Hid (sumB q0 s = q) := by show _ = _; rw [← hrest.out, sumFrom_end _ _ _ (by omega)]
      go_wp2
      go_ret
      rw [HF.out]
      exact ⟨rfl, rfl⟩
theorem specFour_any (s : Nat) (w : World) (hs : s < 4294967296) :
    Calls Tryz.prog 111 #[.int .u32 s] w fun e w' => e = .returned (.string ⟨(four s).toArray⟩) ∧ Below w.heap.size w w' := by
  obtain ⟨b3, h3, e3⟩ := byte_of_div s 16777216
  obtain ⟨b2, h2, e2⟩ := byte_of_div s 65536
  obtain ⟨b1, h1, e1⟩ := byte_of_div s 256
  obtain ⟨b0, h0, e0⟩ := byte_of_div s 1
  have H4 : Hid (four s = [b3, b2, b1, b0]) := by show _ = _; rw [← h3, ← h2, ← h1, ← h0, Nat.div_one]; rfl
  have e3 : (s : Int) / 16777216 = (b3.toNat : Int) := by have := e3; omega
  have e2 : (s : Int) / 65536 % 256 = (b2.toNat : Int) := e2
  have e1 : (s : Int) / 256 % 256 = (b1.toNat : Int) := e1
  have e0 : (s : Int) % 256 = (b0.toNat : Int) := by have := e0; omega
  clear h3 h2 h1 h0
  have hcv := conv_own (P := Tryz.prog) 22 5 9 Tryz.underlying22 Tryz.underlying5 Tryz.underlying9 _ _ _ [b3, b2, b1, b0] (four_cells w b3 b2 b1 b0 5)
  go_enter Tryz.func111, Tryz.ntmps111
  go_wp2
  go_ret
  rw [H4.out]
  exact ⟨rfl, (Below.refl _ w).alloc (Nat.le_refl _) _⟩
theorem specOf_any (s : ByteArray) (w : World) (hl : s.size ≤ 2097152) :
    Calls Tryz.prog 112 #[.string s] w fun e w' => e = .returned (.int .u32 (sumB 4294967295 s : Nat)) ∧ w' = w := by
  go_enter Tryz.func112, Tryz.ntmps112
  go_wp2_with (go_at_call 151; refine (specMore_any 4294967295 s _ (by decide) hl).mono ?_; rintro e w' ⟨rfl, rfl⟩)
  go_ret
  exact ⟨rfl, rfl⟩
end Go.Proofs.YtmmchemgegmhhaaGreatDoor
