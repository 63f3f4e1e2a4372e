import Derived.Test.YtlcfblodflgleaaGreatDoorBe13
import Derived.Test.YtlcfblodflgleaaGreatDoorBe9
import Derived.Test.YtlcfblodflgleaaGreatDoorBe2
import Derived.Test.YtlcfblodflgleaaGreatDoorBe8
set_option maxRecDepth 100000
set_option maxHeartbeats 1000000
namespace Go.Proofs.YtlcfblodflgleaaGreatDoor
open Go.RowKit
theorem dec_zero (w : World) : Calls Tryz.prog 91 #[.int .i64 0] w fun e w' => e = .returned (.string ⟨(Wd.decS 0).toArray⟩) ∧ w' = w := by
  go_enter Tryz.func91, Tryz.ntmps91
  go_wp2
  go_ret
  exact ⟨rfl, rfl⟩
theorem conv_one (W : World) (d : Nat) (hd : d < 16) :
    (convert 147 9 (.slice (some ⟨W.heap.size, 0, none⟩) 1 1)).run Tryz.prog (W.alloc (.cells #[.int .u8 (Wd.figI (d : Int))] 5)) = .ok (.string ⟨#[Wd.figB d]⟩) (W.alloc (.cells #[.int .u8 (Wd.figI (d : Int))] 5)) := by
  refine run_convert_bytes_back (P := Tryz.prog) (W.alloc (.cells #[.int .u8 (Wd.figI (d : Int))] 5)) 147 9 5 ⟨W.heap.size, 0, none⟩ 1 [Wd.figB d] Tryz.underlying147 Tryz.underlying5 Tryz.underlying9 ?_
  intro j hj
  exact cells_new W #[.int .u8 (Wd.figI (d : Int))] 5 j _ (by
    have : j = 0 := by simpa using hj
    subst this
    simp [Wd.figB_val d hd])
theorem dec_pos (n : Nat) (w : World) (h0 : 0 < n) (h1 : n ≤ 9223372036854775807) :
    Calls Tryz.prog 91 #[.int .i64 n] w fun e w' => e = .returned (.string ⟨(Wd.decA 20 n []).toArray⟩) ∧ Below w.heap.size w w' := by
  have hz : ((n : Int) == 0) = false := by simp; omega
  have hneg : decide ((n : Int) < 0) = false := by simp
  go_enter Tryz.func91, Tryz.ntmps91
  go_wp2
  go_loopw [0, 4] (fun t v wr => ∃ (f m : Nat) (acc : List UInt8), t = .int .i64 m ∧ v = .string ⟨acc.toArray⟩ ∧ m < 10 ^ f ∧ m ≤ 9223372036854775807 ∧ acc.length + f = 20 ∧ Hid (Wd.decA f m acc = Wd.decA 20 n []) ∧ Below w.heap.size w wr) (fun t _ _ => (intOf t).toNat)
  case atStart => exact ⟨20, n, [], rfl, rfl, by omega, h1, rfl, rfl, Below.refl _ _⟩
  case round =>
    obtain ⟨f, m, acc, rfl, rfl, hm, hm2, hl, hacc, hb⟩ := hrel
    have hbs := hb.size
    by_cases hlt : 0 < m
    · obtain ⟨f, rfl⟩ : ∃ g, f = g + 1 := by
        cases f with
        | zero => simp at hm; omega
        | succ g => exact ⟨g, rfl⟩
      have hne : ((m : Int) != 0) = true := by simp; omega
      obtain ⟨d, hd, hd10, hdi⟩ : ∃ d : Nat, Hid (m % 10 = d) ∧ d < 10 ∧ (m : Int) % 10 = (d : Int) := ⟨_, rfl, by omega, by omega⟩
      have hfac := hide (Wd.decA_step f m acc (by omega))
      have hdiv : m / 10 < 10 ^ f := Nat.div_lt_of_lt_mul (by rw [Nat.mul_comm, ← Nat.pow_succ]; exact hm)
      have hcv := conv_one wr d (by omega)
      go_wp2_with (go_at_call 124; refine (figure_any _ _ (by omega) (by omega)).mono ?_; rintro e w1 ⟨rfl, rfl⟩)
      go_roundw
      case rel =>
        refine ⟨f, m / 10, Wd.figB d :: acc, by go_num, congrArg Value.string (cat_list [Wd.figB d] acc), hdiv, by omega, by simp; omega, ?_, hb.alloc hbs _⟩
        show _ = _
        rw [← hacc.out, hfac.out, hd.out]
      case measure => simp [intOf]; omega
    · have hm0 : m = 0 := by omega
      subst hm0
      have hfin := hide ((Wd.decA_zero f acc).symm.trans hacc.out)
      go_wp2
      go_ret
      rw [← hfin.out]
      exact ⟨rfl, hb⟩
theorem dec_neg (n : Nat) (w : World) (h0 : 0 < n) (h1 : n ≤ 9223372036854775808) :
    Calls Tryz.prog 91 #[.int .i64 (-(n : Int))] w fun e w' => e = .returned (.string ⟨(45 :: Wd.decA 20 n []).toArray⟩) ∧ Below w.heap.size w w' := by
  have hz : (-(n : Int) == 0) = false := by simp; omega
  have hneg : decide (-(n : Int) < 0) = true := by simp; omega
  have H1 := hide h1
  clear h1
  go_enter Tryz.func91, Tryz.ntmps91
  go_wp2
  go_loopw [0, 4] (fun t v wr => ∃ (f m : Nat) (acc : List UInt8), t = .int .i64 (-(m : Int)) ∧ v = .string ⟨acc.toArray⟩ ∧ m < 10 ^ f ∧ Hid (m ≤ 9223372036854775808) ∧ acc.length + f = 20 ∧ Hid (Wd.decA f m acc = Wd.decA 20 n []) ∧ Below w.heap.size w wr) (fun t _ _ => (- intOf t).toNat)
  case atStart => exact ⟨20, n, [], rfl, rfl, by have := H1.out; omega, H1, rfl, rfl, Below.refl _ _⟩
  case round =>
    obtain ⟨f, m, acc, rfl, rfl, hm, HM2, hl, hacc, hb⟩ := hrel
    have hbs := hb.size
    by_cases hlt : 0 < m
    · obtain ⟨f, rfl⟩ : ∃ g, f = g + 1 := by
        cases f with
        | zero => simp at hm; omega
        | succ g => exact ⟨g, rfl⟩
      have hne : (-(m : Int) != 0) = true := by simp; omega
      obtain ⟨d, hd, hd10, hdi⟩ : ∃ d : Nat, Hid (m % 10 = d) ∧ d < 10 ∧ (-(m : Int)).tmod 10 = -(d : Int) := ⟨_, rfl, by omega, by rw [Int.neg_tmod, Int.tmod_eq_emod_of_nonneg (by omega)]; omega⟩
      obtain ⟨q, hq, hqi⟩ : ∃ q : Nat, Hid (m / 10 = q) ∧ (-(m : Int)).tdiv 10 = -(q : Int) := ⟨_, rfl, by rw [Int.neg_tdiv, Int.tdiv_eq_ediv_of_nonneg (by omega)]; omega⟩
      have hq2 : q ≤ 922337203685477580 := by have := HM2.out; have := hq.out; omega
      have hqm : q < m := by have := hq.out; omega
      have hfac := hide (Wd.decA_step f m acc (by omega))
      have hdiv : q < 10 ^ f := by rw [← hq.out]; exact Nat.div_lt_of_lt_mul (by rw [Nat.mul_comm, ← Nat.pow_succ]; exact hm)
      have hcv := conv_one wr d (by omega)
      by_cases hd0 : 0 < d
      · have hdn : decide (-(d : Int) < 0) = true := by simp; omega
        go_wp2_with (go_at_call 124; refine (figure_any _ _ (by omega) (by omega)).mono ?_; rintro e w1 ⟨rfl, rfl⟩)
        go_roundw
        case rel =>
          refine ⟨f, q, Wd.figB d :: acc, by go_num, congrArg Value.string (cat_list [Wd.figB d] acc), hdiv, by show q ≤ 9223372036854775808; omega, by simp; omega, ?_, hb.alloc hbs _⟩
          show _ = _
          rw [← hacc.out, hfac.out, hd.out, hq.out]
        case measure => simp [intOf]; omega
      · have hd1 : d = 0 := by omega
        subst hd1
        rw [show ((0 : Nat) : Int) = 0 from rfl] at hcv hdi
        go_wp2_with (go_at_call 124; refine (figure_any _ _ (by omega) (by omega)).mono ?_; rintro e w1 ⟨rfl, rfl⟩)
        go_roundw
        case rel =>
          refine ⟨f, q, Wd.figB 0 :: acc, by go_num, congrArg Value.string (cat_list [Wd.figB 0] acc), hdiv, by show q ≤ 9223372036854775808; omega, by simp; omega, ?_, hb.alloc hbs _⟩
          show _ = _
          rw [← hacc.out, hfac.out, hd.out, hq.out]
        case measure => simp [intOf]; omega
    · have hm0 : m = 0 := by omega
      subst hm0
      have hfin := hide ((Wd.decA_zero f acc).symm.trans hacc.out)
      go_wp2
      go_ret
      rw [← hfin.out]
      exact ⟨congrArg (fun x => Ending.returned (Value.string x)) (cat_list [45] acc), hb⟩
theorem decimal_any (n : Int) (w : World) (h0 : -9223372036854775808 ≤ n) (h1 : n ≤ 9223372036854775807) :
    Calls Tryz.prog 91 #[.int .i64 n] w fun e w' => e = .returned (.string ⟨(Wd.decS n).toArray⟩) ∧ Below w.heap.size w w' := by
  by_cases hz : n = 0
  · subst hz
    exact (dec_zero w).mono fun e w' ⟨he, hw⟩ => ⟨he, hw ▸ Below.refl _ _⟩
  · by_cases hn : n < 0
    · obtain ⟨m, hm⟩ := Int.eq_ofNat_of_zero_le (show 0 ≤ -n by omega)
      have e : n = -(m : Int) := by omega
      subst e
      have es : Wd.decS (-(m : Int)) = 45 :: Wd.decA 20 m [] := by unfold Wd.decS; rw [if_neg hz, if_pos hn, Int.natAbs_neg, Int.natAbs_natCast]
      rw [es]
      exact dec_neg m w (by omega) (by omega)
    · obtain ⟨m, rfl⟩ := Int.eq_ofNat_of_zero_le (show 0 ≤ n by omega)
      have es : Wd.decS (m : Int) = Wd.decA 20 m [] := by unfold Wd.decS; rw [if_neg hz, if_neg hn, Int.natAbs_natCast]
      rw [es]
      exact dec_pos m w (by omega) (by omega)
theorem smalls_lows : ((List.range 10).all fun n => (((⟨#[48, 49, 50, 51, 52, 53, 54, 55, 56, 57, 97, 98, 99, 100, 101, 102, 103, 104, 105, 106, 107, 108, 109, 110, 111, 112, 113, 114, 115, 116, 117, 118, 119, 120, 121, 122]⟩ : ByteArray).extract n (n + 1)).data.toList == Wd.decS (n : Int))) = true := by kernel_rfl
theorem smalls_low (n : Nat) (h : n < 10) : (⟨#[48, 49, 50, 51, 52, 53, 54, 55, 56, 57, 97, 98, 99, 100, 101, 102, 103, 104, 105, 106, 107, 108, 109, 110, 111, 112, 113, 114, 115, 116, 117, 118, 119, 120, 121, 122]⟩ : ByteArray).extract n (n + 1) = ⟨(Wd.decS (n : Int)).toArray⟩ := by
  have := (List.all_eq_true.1 smalls_lows) n (List.mem_range.2 h)
  apply ByteArray.ext
  apply Array.toList_inj.1
  exact eq_of_beq this
theorem smalls_all : ((List.range 100).all fun n => decide (n < 10) || (((⟨#[48, 48, 48, 49, 48, 50, 48, 51, 48, 52, 48, 53, 48, 54, 48, 55, 48, 56, 48, 57, 49, 48, 49, 49, 49, 50, 49, 51, 49, 52, 49, 53, 49, 54, 49, 55, 49, 56, 49, 57, 50, 48, 50, 49, 50, 50, 50, 51, 50, 52, 50, 53, 50, 54, 50, 55, 50, 56, 50, 57, 51, 48, 51, 49, 51, 50, 51, 51, 51, 52, 51, 53, 51, 54, 51, 55, 51, 56, 51, 57, 52, 48, 52, 49, 52, 50, 52, 51, 52, 52, 52, 53, 52, 54, 52, 55, 52, 56, 52, 57, 53, 48, 53, 49, 53, 50, 53, 51, 53, 52, 53, 53, 53, 54, 53, 55, 53, 56, 53, 57, 54, 48, 54, 49, 54, 50, 54, 51, 54, 52, 54, 53, 54, 54, 54, 55, 54, 56, 54, 57, 55, 48, 55, 49, 55, 50, 55, 51, 55, 52, 55, 53, 55, 54, 55, 55, 55, 56, 55, 57, 56, 48, 56, 49, 56, 50, 56, 51, 56, 52, 56, 53, 56, 54, 56, 55, 56, 56, 56, 57, 57, 48, 57, 49, 57, 50, 57, 51, 57, 52, 57, 53, 57, 54, 57, 55, 57, 56, 57, 57]⟩ : ByteArray).extract (n * 2) (n * 2 + 2)).data.toList == Wd.decS (n : Int))) = true := by kernel_rfl
theorem smalls_high (n : Nat) (h0 : 10 ≤ n) (h : n < 100) : (⟨#[48, 48, 48, 49, 48, 50, 48, 51, 48, 52, 48, 53, 48, 54, 48, 55, 48, 56, 48, 57, 49, 48, 49, 49, 49, 50, 49, 51, 49, 52, 49, 53, 49, 54, 49, 55, 49, 56, 49, 57, 50, 48, 50, 49, 50, 50, 50, 51, 50, 52, 50, 53, 50, 54, 50, 55, 50, 56, 50, 57, 51, 48, 51, 49, 51, 50, 51, 51, 51, 52, 51, 53, 51, 54, 51, 55, 51, 56, 51, 57, 52, 48, 52, 49, 52, 50, 52, 51, 52, 52, 52, 53, 52, 54, 52, 55, 52, 56, 52, 57, 53, 48, 53, 49, 53, 50, 53, 51, 53, 52, 53, 53, 53, 54, 53, 55, 53, 56, 53, 57, 54, 48, 54, 49, 54, 50, 54, 51, 54, 52, 54, 53, 54, 54, 54, 55, 54, 56, 54, 57, 55, 48, 55, 49, 55, 50, 55, 51, 55, 52, 55, 53, 55, 54, 55, 55, 55, 56, 55, 57, 56, 48, 56, 49, 56, 50, 56, 51, 56, 52, 56, 53, 56, 54, 56, 55, 56, 56, 56, 57, 57, 48, 57, 49, 57, 50, 57, 51, 57, 52, 57, 53, 57, 54, 57, 55, 57, 56, 57, 57]⟩ : ByteArray).extract (n * 2) (n * 2 + 2) = ⟨(Wd.decS (n : Int)).toArray⟩ := by
  have := (List.all_eq_true.1 smalls_all) n (List.mem_range.2 h)
  simp only [Bool.or_eq_true, decide_eq_true_eq] at this
  rcases this with h' | h'
  · omega
  · apply ByteArray.ext
    apply Array.toList_inj.1
    exact eq_of_beq h'
theorem small_any (n : Nat) (w : World) (h : n < 100) :
    Calls Tryz.prog 226 #[.int .i64 n] w fun e w' => e = .returned (.string ⟨(Wd.decS (n : Int)).toArray⟩) ∧ w' = w := by
  by_cases hn : n < 10
  · have hn' : decide ((n : Int) < 10) = true := by simp; omega
    obtain ⟨R, hR⟩ : ∃ R : ByteArray, (⟨(Wd.decS (n : Int)).toArray⟩ : ByteArray) = R := ⟨_, rfl⟩
    have hcut := cut_at ⟨#[48, 49, 50, 51, 52, 53, 54, 55, 56, 57, 97, 98, 99, 100, 101, 102, 103, 104, 105, 106, 107, 108, 109, 110, 111, 112, 113, 114, 115, 116, 117, 118, 119, 120, 121, 122]⟩ n (n + 1) (n : Int) ((n : Int) + 1) R rfl (by omega) (by omega) (by show n + 1 ≤ 36; omega) ((smalls_low n hn).trans hR)
    rw [hR]
    clear hR
    go_enter Tryz.func226, Tryz.ntmps226
    go_wp2
    go_ret
    exact ⟨rfl, rfl⟩
  · have hn' : decide ((n : Int) < 10) = false := by simp; omega
    obtain ⟨R, hR⟩ : ∃ R : ByteArray, (⟨(Wd.decS (n : Int)).toArray⟩ : ByteArray) = R := ⟨_, rfl⟩
    have hcut := cut_at ⟨#[48, 48, 48, 49, 48, 50, 48, 51, 48, 52, 48, 53, 48, 54, 48, 55, 48, 56, 48, 57, 49, 48, 49, 49, 49, 50, 49, 51, 49, 52, 49, 53, 49, 54, 49, 55, 49, 56, 49, 57, 50, 48, 50, 49, 50, 50, 50, 51, 50, 52, 50, 53, 50, 54, 50, 55, 50, 56, 50, 57, 51, 48, 51, 49, 51, 50, 51, 51, 51, 52, 51, 53, 51, 54, 51, 55, 51, 56, 51, 57, 52, 48, 52, 49, 52, 50, 52, 51, 52, 52, 52, 53, 52, 54, 52, 55, 52, 56, 52, 57, 53, 48, 53, 49, 53, 50, 53, 51, 53, 52, 53, 53, 53, 54, 53, 55, 53, 56, 53, 57, 54, 48, 54, 49, 54, 50, 54, 51, 54, 52, 54, 53, 54, 54, 54, 55, 54, 56, 54, 57, 55, 48, 55, 49, 55, 50, 55, 51, 55, 52, 55, 53, 55, 54, 55, 55, 55, 56, 55, 57, 56, 48, 56, 49, 56, 50, 56, 51, 56, 52, 56, 53, 56, 54, 56, 55, 56, 56, 56, 57, 57, 48, 57, 49, 57, 50, 57, 51, 57, 52, 57, 53, 57, 54, 57, 55, 57, 56, 57, 57]⟩ (n * 2) (n * 2 + 2) ((n : Int) * 2) ((n : Int) * 2 + 2) R (by omega) (by omega) (by omega) (by show n * 2 + 2 ≤ 200; omega) ((smalls_high n (by omega) h).trans hR)
    rw [hR]
    clear hR
    go_enter Tryz.func226, Tryz.ntmps226
    go_wp2
    go_ret
    exact ⟨rfl, rfl⟩
theorem implDec_small (n : Nat) (w : World) (h : n < 100) :
    Calls Tryz.prog 178 #[.int .i64 n] w fun e w' => e = .returned (.string ⟨(Wd.decS (n : Int)).toArray⟩) ∧ w' = w := by
  have h1 : decide ((0 : Int) ≤ (n : Int)) = true := by simp
  have h2 : decide ((n : Int) < 100) = true := by simp; omega
  have F : ∀ W : World, Calls Tryz.prog 219 #[.int .i64 n, .int .i64 10] W fun e w' => e = .returned (.string ⟨(Wd.decS (n : Int)).toArray⟩) ∧ w' = W := by
    intro W
    go_enter Tryz.func219, Tryz.ntmps219
    go_wp2_with (go_at_call 226; refine (small_any n _ h).mono ?_; rintro e w' ⟨rfl, rfl⟩)
    go_ret
    exact ⟨rfl, rfl⟩
  have I : ∀ W : World, Calls Tryz.prog 209 #[.int .i64 n] W fun e w' => e = .returned (.string ⟨(Wd.decS (n : Int)).toArray⟩) ∧ w' = W := by
    intro W
    go_enter Tryz.func209, Tryz.ntmps209
    go_wp2_with (go_at_call 219; refine (F _).mono ?_; rintro e w' ⟨rfl, rfl⟩)
    go_ret
    exact ⟨rfl, rfl⟩
  have S : ∀ W : World, Calls Tryz.prog 191 #[.int .i64 n] W fun e w' => e = .returned (.string ⟨(Wd.decS (n : Int)).toArray⟩) ∧ w' = W := by
    intro W
    go_enter Tryz.func191, Tryz.ntmps191
    go_wp2_with (go_at_call 209; refine (I _).mono ?_; rintro e w' ⟨rfl, rfl⟩)
    go_ret
    exact ⟨rfl, rfl⟩
  go_enter Tryz.func178, Tryz.ntmps178
  go_wp2_with (go_at_call 191; refine (S _).mono ?_; rintro e w' ⟨rfl, rfl⟩)
  go_ret
  exact ⟨rfl, rfl⟩
def segNm (n : Int) : ByteArray := if 0 ≤ n ∧ n ≤ 99 then ⟨(98 :: Wd.decS n).toArray⟩ else ⟨#[]⟩
theorem segNm_in (n : Nat) (h : n ≤ 99) : segNm n = (⟨#[98]⟩ : ByteArray) ++ ⟨(Wd.decS (n : Int)).toArray⟩ := by
  unfold segNm
  rw [if_pos (by omega)]
  apply ByteArray.ext
  apply Array.toList_inj.1
  simp
theorem segNm_out (n : Int) (h : n < 0 ∨ 99 < n) : segNm n = ⟨#[]⟩ := by unfold segNm; rw [if_neg (by omega)]
theorem decS_len : ∀ n : Nat, n ≤ 99 → (Wd.decS (n : Int)).length ≤ 2 := by
  have : ((List.range 100).all fun n => decide ((Wd.decS (n : Int)).length ≤ 2)) = true := by kernel_rfl
  intro n hn
  have := (List.all_eq_true.1 this) n (List.mem_range.2 (by omega))
  simpa using this
theorem right_any (n : Int) (b : Bool) (w : World) (h : (decide (0 ≤ n) && decide (n ≤ 99)) = b) : Calls Tryz.prog 171 #[.int .i64 n] w fun e w' => e = .returned (.bool b) ∧ w' = w := by
  by_cases h0 : 0 ≤ n
  · have h0' : decide (0 ≤ n) = true := by simp; omega
    rw [h0', Bool.true_and] at h
    subst h
    go_enter Tryz.func171, Tryz.ntmps171
    go_wp2
    go_ret
    exact ⟨rfl, rfl⟩
  · have h0' : decide (0 ≤ n) = false := by simp; omega
    rw [h0', Bool.false_and] at h
    subst h
    go_enter Tryz.func171, Tryz.ntmps171
    go_wp2
    go_ret
    exact ⟨rfl, rfl⟩
theorem name_any (n : Int) (w : World) : Calls Tryz.prog 153 #[.int .i64 n] w fun e w' => e = .returned (.string (segNm n)) ∧ w' = w := by
  by_cases h : 0 ≤ n ∧ n ≤ 99
  · obtain ⟨m, rfl⟩ := Int.eq_ofNat_of_zero_le h.1
    have hE := hide (segNm_in m (by omega))
    have hl := decS_len m (by omega)
    have hb : (decide ((0 : Int) ≤ (m : Int)) && decide ((m : Int) ≤ 99)) = true := by simp; omega
    go_enter Tryz.func153, Tryz.ntmps153
    go_wp2_with (first | (go_at_call 171; refine (right_any _ _ _ hb).mono ?_; rintro e w' ⟨rfl, rfl⟩) | (go_at_call 178; refine (implDec_small m _ (by omega)).mono ?_; rintro e w' ⟨rfl, rfl⟩))
    go_ret
    rw [hE.out]
    exact ⟨rfl, rfl⟩
  · have hE := hide (segNm_out n (by omega))
    have hb : (decide ((0 : Int) ≤ n) && decide (n ≤ 99)) = false := by simp; omega
    go_enter Tryz.func153, Tryz.ntmps153
    go_wp2_with (first | (go_at_call 171; refine (right_any _ _ _ hb).mono ?_; rintro e w' ⟨rfl, rfl⟩))
    go_ret
    rw [hE.out]
    exact ⟨rfl, rfl⟩
theorem implSegName_any (n : Int) (w : World) : Calls Tryz.prog 115 #[.int .i64 n] w fun e w' => e = .returned (.string (segNm n)) ∧ w' = w := by
  go_enter Tryz.func115, Tryz.ntmps115
  go_wp2_with (first | (go_at_call 153; refine (name_any _ _).mono ?_; rintro e w' ⟨rfl, rfl⟩))
  go_ret
  exact ⟨rfl, rfl⟩
theorem specSegName_any (n : Int) (w : World) : Calls Tryz.prog 52 #[.int .i64 n] w fun e w' => e = .returned (.string (segNm n)) ∧ Below w.heap.size w w' := by
  by_cases h : 0 ≤ n ∧ n ≤ 99
  · obtain ⟨m, rfl⟩ := Int.eq_ofNat_of_zero_le h.1
    have hE := hide (segNm_in m (by omega))
    have hl := decS_len m (by omega)
    go_enter Tryz.func52, Tryz.ntmps52
    go_wp2_with (first | (go_at_call 64; refine (l01In_yes _ _ _ _ (by omega) (by omega)).mono ?_; rintro e w' ⟨rfl, rfl⟩) | (go_at_call 91; refine (decimal_any m _ (by omega) (by omega)).mono ?_; rintro e w1 ⟨rfl, b1⟩))
    go_ret
    rw [hE.out]
    exact ⟨rfl, b1⟩
  · have hE := hide (segNm_out n (by omega))
    go_enter Tryz.func52, Tryz.ntmps52
    go_wp2_with (first | (go_at_call 64; refine (l01In_no _ _ _ _ (by omega)).mono ?_; rintro e w' ⟨rfl, rfl⟩))
    go_ret
    rw [hE.out]
    exact ⟨rfl, Below.refl _ _⟩
structure SegD where
  num : Nat
  frm : Nat
  bs : List BatchD
  fin : Nat
  right : Bool
  torn : Bool
def SegD.pls (s : SegD) : List Nat := plsB (frameB ⟨(headL s.num s.frm).toArray⟩).size s.bs
theorem SegD.pls_len (s : SegD) : s.pls.length = s.bs.length := plsB_len _ _
def segTorn (n : Int) (s : ByteArray) : Bool := segOk n s && decide (segEnd n s < s.size)
def segOfFile (n : Nat) (F : FileD) : SegD := ⟨n, segFrom n F.text, segBatches n F.text, segEnd n F.text, segOk n F.text, segTorn n F.text⟩
theorem segOfFile_pls (n : Nat) (F : FileD) : (segOfFile n F).pls = segPls n F.text := rfl
def segD (fs : List FileD) (n : Nat) : Option SegD := (fileD fs (segNm n)).map (segOfFile n)
def segsTo (fs : List FileD) : Nat → List SegD
  | 0 => []
  | k + 1 => segsTo fs k ++ (segD fs k).toList
theorem segsTo_none {fs : List FileD} {k : Nat} (h : fileD fs (segNm k) = none) : segsTo fs (k + 1) = segsTo fs k := by
  show segsTo fs k ++ (segD fs k).toList = _
  unfold segD
  rw [h]
  exact List.append_nil _
theorem segsTo_some {fs : List FileD} {k : Nat} {F : FileD} (h : fileD fs (segNm k) = some F) : segsTo fs (k + 1) = segsTo fs k ++ [segOfFile k F] := by
  show segsTo fs k ++ (segD fs k).toList = _
  unfold segD
  rw [h]
  rfl
theorem segsTo_len (fs : List FileD) : ∀ k, (segsTo fs k).length ≤ k
  | 0 => Nat.le_refl _
  | k + 1 => by
    have := segsTo_len fs k
    cases h : fileD fs (segNm k) with
    | none => rw [segsTo_none h]; omega
    | some F => rw [segsTo_some h, List.length_append, List.length_singleton]; omega
theorem segFrom_le (n : Nat) (s : ByteArray) : segFrom n s ≤ 99 := by
  cases hr : segRead n s with
  | none => rw [(seg_none hr).1]; omega
  | some q =>
    obtain ⟨f, bs, e⟩ := q
    rw [(seg_some hr).1]
    cases hu : unf s with
    | nil => rw [segRead_nil hu] at hr; simp at hr
    | cons x r =>
      cases hh : hdFrom n (s.extract x.1 x.2) with
      | none => rw [segRead_head hu hh] at hr; simp at hr
      | some f' =>
        have := hdFrom_le hh
        rw [segRead_some hu hh] at hr
        simp only [Option.some.injEq, Prod.mk.injEq] at hr
        omega
theorem segFrom_not {n : Int} {s : ByteArray} (h : segOk n s = false) : segFrom n s = 0 := by
  cases hr : segRead n s with
  | none => exact (seg_none hr).1
  | some q =>
    obtain ⟨f, bs, e⟩ := q
    rw [(seg_some hr).2.2.2] at h
    cases h
theorem segsTo_mem {fs : List FileD} : ∀ {k : Nat} {s : SegD}, s ∈ segsTo fs k → s.num < k ∧ s.frm ≤ 99 ∧ ∃ F ∈ fs, s = segOfFile s.num F ∧ fileD fs (segNm s.num) = some F
  | 0, _, h => absurd h List.not_mem_nil
  | k + 1, s, h => by
    cases hf : fileD fs (segNm k) with
    | none =>
      rw [segsTo_none hf] at h
      have := segsTo_mem h
      exact ⟨by omega, this.2⟩
    | some F =>
      rw [segsTo_some hf] at h
      rcases List.mem_append.1 h with h | h
      · have := segsTo_mem h
        exact ⟨by omega, this.2⟩
      · obtain rfl : s = segOfFile k F := by simpa using h
        exact ⟨Nat.lt_succ_self _, segFrom_le _ _, F, List.mem_of_find?_eq_some hf, rfl, hf⟩
def topFrom (l : List SegD) : Nat := l.foldl (fun m s => max m s.frm) 0
theorem topFrom_snoc (l : List SegD) (s : SegD) : topFrom (l ++ [s]) = max (topFrom l) s.frm := by simp [topFrom]
theorem topFrom_le (l : List SegD) (m : Nat) (h : ∀ s ∈ l, s.frm ≤ m) : topFrom l ≤ m := by
  unfold topFrom
  suffices H : ∀ (l : List SegD) (k : Nat), k ≤ m → (∀ s ∈ l, s.frm ≤ m) → l.foldl (fun m s => max m s.frm) k ≤ m from H l 0 (Nat.zero_le _) h
  intro l
  induction l with
  | nil => intro k hk _; exact hk
  | cons a r ih =>
    intro k hk hl
    exact ih _ (by have := hl a (List.mem_cons_self ..); show max k a.frm ≤ m; omega) (fun s hs => hl s (List.mem_cons_of_mem _ hs))
def counting (m : Nat) (l : List SegD) : List SegD := l.filter (fun s => decide (m ≤ s.num))
theorem counting_snoc_in {m : Nat} {l : List SegD} {s : SegD} (h : m ≤ s.num) : counting m (l ++ [s]) = counting m l ++ [s] := by simp [counting, h]
theorem counting_snoc_out {m : Nat} {l : List SegD} {s : SegD} (h : s.num < m) : counting m (l ++ [s]) = counting m l := by simp [counting, h]
theorem counting_len (m : Nat) (l : List SegD) : (counting m l).length ≤ l.length := List.length_filter_le _ _
def allRight (l : List SegD) : Bool := l.all SegD.right
theorem allRight_snoc (l : List SegD) (s : SegD) : allRight (l ++ [s]) = (allRight l && s.right) := by simp [allRight]
theorem allRight_app (l r : List SegD) : allRight (l ++ r) = (allRight l && allRight r) := by simp [allRight]
theorem counting_app (m : Nat) (l r : List SegD) : counting m (l ++ r) = counting m l ++ counting m r := by simp [counting]
def segsC (fs : List FileD) : List SegD := counting (topFrom (segsTo fs 100)) (segsTo fs 100)
def segsOk (fs : List FileD) : Bool := diskOkD fs && (allRight (segsC fs) && decide (0 < (segsC fs).length))
def segsL (fs : List FileD) : List SegD := if segsOk fs then segsC fs else []
theorem segsOk_disk {fs : List FileD} (h : diskOkD fs = false) : segsOk fs = false ∧ segsL fs = [] := by
  have : segsOk fs = false := by unfold segsOk; rw [h]; rfl
  exact ⟨this, by unfold segsL; rw [this]; rfl⟩
theorem segsOk_wrong {fs : List FileD} (h : allRight (segsC fs) = false) : segsOk fs = false ∧ segsL fs = [] := by
  have : segsOk fs = false := by unfold segsOk; rw [h]; simp
  exact ⟨this, by unfold segsL; rw [this]; rfl⟩
theorem segsOk_rest {fs : List FileD} (hd : diskOkD fs = true) (h : allRight (segsC fs) = true) : segsOk fs = decide (0 < (segsC fs).length) ∧ segsL fs = segsC fs := by
  have h1 : segsOk fs = decide (0 < (segsC fs).length) := by unfold segsOk; rw [hd, h]; simp
  refine ⟨h1, ?_⟩
  unfold segsL
  rw [h1]
  by_cases he : 0 < (segsC fs).length
  · rw [decide_eq_true he]; rfl
  · rw [decide_eq_false he, show segsC fs = [] from List.eq_nil_of_length_eq_zero (by omega)]; rfl
theorem segsC_len (fs : List FileD) : (segsC fs).length ≤ 100 := Nat.le_trans (counting_len _ _) (segsTo_len fs 100)
theorem segsL_len (fs : List FileD) : (segsL fs).length ≤ 100 := by
  unfold segsL
  split
  · exact segsC_len fs
  · exact Nat.zero_le _
theorem segsL_mem {fs : List FileD} {s : SegD} (h : s ∈ segsL fs) : s ∈ segsTo fs 100 := by
  unfold segsL at h
  split at h
  · exact (List.mem_filter.1 h).1
  · exact absurd h List.not_mem_nil
def riseI : Int → List Int → Bool
  | _, [] => true
  | last, q :: r => decide (last < q) && riseI q r
def seqsOf (l : List SegD) : List Int := l.flatMap fun s => s.bs.map BatchD.seq
theorem seqsOf_cons (s : SegD) (l : List SegD) : seqsOf (s :: l) = s.bs.map BatchD.seq ++ seqsOf l := by simp [seqsOf]
def seqsRise (fs : List FileD) : Bool := segsOk fs && riseI (-1) (seqsOf (segsL fs))
theorem implRead_out (s : ByteArray) (i : Int) (w : World) (hs : s.size ≤ maxLen) (h : i < 0 ∨ (s.size : Int) < i) :
    Calls Tryz.prog 221 #[.string s, .int .i64 i] w fun e w' => e = .returned (rvAns none) ∧ w' = w := by
  unfold maxLen at hs
  rcases h with h | h
  · go_enter Tryz.func221, Tryz.ntmps221
    go_wp2
    go_ret3
    exact ⟨rfl, rfl⟩
  · have h' : ¬ i < 0 := by omega
    go_enter Tryz.func221, Tryz.ntmps221
    go_wp2
    go_ret3
    exact ⟨rfl, rfl⟩
theorem implRead_in (s : ByteArray) (i : Nat) (w : World) (hs : s.size ≤ maxLen) (h : i ≤ s.size) :
    Calls Tryz.prog 221 #[.string s, .int .i64 i] w fun e w' => e = .returned (rvAns (Wd.rv s i)) ∧ w' = w := by
  unfold maxLen at hs
  have h0 : decide ((i : Int) < 0) = false := by simp
  have h1 : decide ((s.size : Int) < (i : Int)) = false := by simp; omega
  go_enter Tryz.func221, Tryz.ntmps221
  go_wp2
  go_loop [7, 8, 9] (fun n q p => ∃ k f Q m P : Nat, n = .int .i64 m ∧ q = .int .i64 Q ∧ p = .int .i64 P ∧ P ≤ s.size ∧ Hid (Wd.rv s i = Wd.rvF s f P k Q m) ∧ Hid (P = i + k) ∧ ((k = 0 ∧ f = 5 ∧ Q = 1 ∧ m = 0) ∨ (k = 1 ∧ f = 4 ∧ Q = 128 ∧ m < 128) ∨ (k = 2 ∧ f = 3 ∧ Q = 16384 ∧ m < 16384) ∨ (k = 3 ∧ f = 2 ∧ Q = 2097152 ∧ m < 2097152) ∨ (k = 4 ∧ f = 1 ∧ Q = 268435456 ∧ m < 268435456) ∨ (k = 5 ∧ f = 0 ∧ Q = 34359738368 ∧ m < 34359738368))) (fun _ _ p => s.size - (intOf p).toNat)
  case atStart => exact ⟨0, 5, 1, 0, i, rfl, rfl, rfl, h, rfl, rfl, .inl ⟨rfl, rfl, rfl, rfl⟩⟩
  case round =>
    obtain ⟨k, f, Q, m, P, rfl, rfl, rfl, hP, hrv, hPk, hcase⟩ := hrel
    by_cases hlt : P < s.size
    · obtain ⟨b, hB, hbt, hb256⟩ : ∃ b : Nat, Hid (Wd.bt s P = b) ∧ (s[P]'hlt).toNat = b ∧ b < 256 := ⟨_, rfl, Wd.bt_eq s P hlt, Wd.bt_lt s P⟩
      by_cases hb : b < 128
      · by_cases hz : 0 < b
        · have hz' : decide (0 < (b : Int)) = true := by simp; omega
          rcases hcase with ⟨rfl, rfl, rfl, rfl⟩ | ⟨rfl, rfl, rfl, hm⟩ | ⟨rfl, rfl, rfl, hm⟩ | ⟨rfl, rfl, rfl, hm⟩ | ⟨rfl, rfl, rfl, hm⟩ | ⟨rfl, rfl, rfl, hm⟩
          case inr.inr.inr.inr.inr =>
            have hfin : Hid (Wd.rv s i = none) := hrv.out.trans rfl
            go_wp2
            go_ret3
            rw [hfin.out]
            exact ⟨rfl, rfl⟩
          case inr.inr.inr.inr.inl =>
            by_cases hn : m + b % 128 * 268435456 ≤ 1000000000
            · have hfin := hide (hrv.out.trans (Wd.rvF_lastB hB.out hlt hb hn (.inl hz)))
              go_wp2
              go_ret3
              rw [hfin.out]
              exact ⟨ret3 (by omega) (by omega), rfl⟩
            · have hfin := hide (hrv.out.trans (Wd.rvF_notB hB.out hb (fun h => hn h.1)))
              go_wp2
              go_ret3
              rw [hfin.out]
              exact ⟨rfl, rfl⟩
          all_goals
            have hfin := hide (hrv.out.trans (Wd.rvF_lastB hB.out hlt hb (by omega) (.inl hz)))
            go_wp2
            go_ret3
            rw [hfin.out]
            exact ⟨ret3 (by omega) (by omega), rfl⟩
        · have hz' : decide (0 < (b : Int)) = false := by simp; omega
          rcases hcase with ⟨rfl, rfl, rfl, rfl⟩ | ⟨rfl, rfl, rfl, hm⟩ | ⟨rfl, rfl, rfl, hm⟩ | ⟨rfl, rfl, rfl, hm⟩ | ⟨rfl, rfl, rfl, hm⟩ | ⟨rfl, rfl, rfl, hm⟩
          case inr.inr.inr.inr.inr =>
            have hfin : Hid (Wd.rv s i = none) := hrv.out.trans rfl
            go_wp2
            go_ret3
            rw [hfin.out]
            exact ⟨rfl, rfl⟩
          case inl =>
            have hfin := hide (hrv.out.trans (Wd.rvF_lastB hB.out hlt hb (by omega) (.inr rfl)))
            have hpi : ((P : Int) == (i : Int)) = true := by have := hPk.out; simp; omega
            go_wp2
            go_ret3
            rw [hfin.out]
            exact ⟨ret3 (by omega) (by omega), rfl⟩
          all_goals
            have hfin := hide (hrv.out.trans (Wd.rvF_notB hB.out hb (fun h => by have := h.2; omega)))
            have hpi : ((P : Int) == (i : Int)) = false := by have := hPk.out; simp; omega
            go_wp2
            go_ret3
            rw [hfin.out]
            exact ⟨rfl, rfl⟩
      · rcases hcase with ⟨rfl, rfl, rfl, rfl⟩ | ⟨rfl, rfl, rfl, hm⟩ | ⟨rfl, rfl, rfl, hm⟩ | ⟨rfl, rfl, rfl, hm⟩ | ⟨rfl, rfl, rfl, hm⟩ | ⟨rfl, rfl, rfl, hm⟩
        case inr.inr.inr.inr.inr =>
          have hfin : Hid (Wd.rv s i = none) := hrv.out.trans rfl
          go_wp2
          go_ret3
          rw [hfin.out]
          exact ⟨rfl, rfl⟩
        all_goals
          have hmore := hide (hrv.out.trans (Wd.rvF_moreB hB.out hlt hb))
          go_wp2
          go_round
          case rel =>
            refine ⟨_, _, _, _, P + 1, ?_, ?_, by go_num, by omega, hmore, by have := hPk.out; show _ = _; omega, ?_⟩
            · go_num
            · go_num
            · simp; try omega
          case measure => simp [intOf]; omega
    · have hfin : Hid (Wd.rv s i = none) := hrv.out.trans (Wd.rvF_end _ _ _ _ _ _ hlt)
      go_wp2
      go_ret3
      rw [hfin.out]
      exact ⟨rfl, rfl⟩
theorem implRead_any (s : ByteArray) (i : Int) (w : World) (hs : s.size ≤ 1048576) :
    Calls Tryz.prog 221 #[.string s, .int .i64 i] w fun e w' => e = .returned (rvAns (Wd.rvI s i)) ∧ w' = w := by
  by_cases h : i < 0 ∨ (s.size : Int) < i
  · rw [show Wd.rvI s i = none from if_pos h]
    exact implRead_out s i w (by unfold maxLen; omega) h
  · rw [show Wd.rvI s i = Wd.rv s i.toNat from if_neg h]
    obtain ⟨k, rfl⟩ := Int.eq_ofNat_of_zero_le (show 0 ≤ i by omega)
    exact implRead_in s k w (by unfold maxLen; omega) (by omega)
theorem implRead_some (s : ByteArray) (i : Int) (w : World) (a b : Nat) (hs : s.size ≤ 1048576) (h : Wd.rvI s i = some (a, b)) :
    Calls Tryz.prog 221 #[.string s, .int .i64 i] w fun e w' => e = .returned (.tuple #[.int .i64 a, .int .i64 b, .bool true]) ∧ w' = w := by
  have := implRead_any s i w hs; rw [h] at this; exact this
theorem implRead_none (s : ByteArray) (i : Int) (w : World) (hs : s.size ≤ 1048576) (h : Wd.rvI s i = none) :
    Calls Tryz.prog 221 #[.string s, .int .i64 i] w fun e w' => e = .returned (.tuple #[.int .i64 0, .int .i64 0, .bool false]) ∧ w' = w := by
  have := implRead_any s i w hs; rw [h] at this; exact this
end Go.Proofs.YtlcfblodflgleaaGreatDoor
