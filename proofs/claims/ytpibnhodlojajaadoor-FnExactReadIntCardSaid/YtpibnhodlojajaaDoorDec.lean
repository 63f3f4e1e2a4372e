/- The specification's writer of decimal figures writes 'Wd.decS' of every number. -/
import Derived.Test.YtpibnhodlojajaaDoorFig
namespace Go.Proofs.YtpibnhodlojajaaDoor
open Go.RowKit

theorem dec_zero (w : World) : Calls Tryd.prog 16 #[.int .i64 0] w fun e w' => e = .returned (.string ⟨(Wd.decS 0).toArray⟩) ∧ w' = w := by
  go_enter Tryd.func16, Tryd.ntmps16
  go_wp2
  go_ret
  exact ⟨rfl, rfl⟩

/-- One byte, laid into a new block, as a text. -/
theorem conv_one (W : World) (d : Nat) (hd : d < 16) :
    (convert 25 9 (.slice (some ⟨W.heap.size, 0, none⟩) 1 1)).run Tryd.prog (W.alloc (.cells #[.int .u8 (Wd.figI (d : Int))] 5)) = .ok (.string ⟨#[Wd.figB d]⟩) (W.alloc (.cells #[.int .u8 (Wd.figI (d : Int))] 5)) := by
  refine run_convert_bytes_back (P := Tryd.prog) (W.alloc (.cells #[.int .u8 (Wd.figI (d : Int))] 5)) 25 9 5 ⟨W.heap.size, 0, none⟩ 1 [Wd.figB d] Tryd.underlying25 Tryd.underlying5 Tryd.underlying9 ?_
  intro j hj
  exact cells_new W #[.int .u8 (Wd.figI (d : Int))] 5 j _ (by
    have : j = 0 := by simpa using hj
    subst this
    simp [Wd.figB_val d hd])

set_option maxRecDepth 100000 in
set_option maxHeartbeats 1000000 in
theorem dec_pos (n : Nat) (w : World) (h0 : 0 < n) (h1 : n ≤ 9223372036854775807) :
    Calls Tryd.prog 16 #[.int .i64 n] w fun e w' => e = .returned (.string ⟨(Wd.decA 20 n []).toArray⟩) ∧ Below w.heap.size w w' := by
  have hz : ((n : Int) == 0) = false := by simp; omega
  have hneg : decide ((n : Int) < 0) = false := by simp
  go_enter Tryd.func16, Tryd.ntmps16
  go_wp2
  go_loopw [0, 4] (fun t v wr => ∃ (f m : Nat) (acc : List UInt8), t = .int .i64 m ∧ v = .string ⟨acc.toArray⟩ ∧ m < 10 ^ f ∧ m ≤ 9223372036854775807 ∧ acc.length + f = 20 ∧ Hid (Wd.decA f m acc = Wd.decA 20 n []) ∧ Below w.heap.size w wr) (fun t _ _ => (intOf t).toNat)
  case atStart => exact ⟨20, n, [], rfl, rfl, by omega, h1, rfl, rfl, Below.refl _ _⟩
  case round =>
    obtain ⟨f, m, acc, rfl, rfl, hm, hm2, hl, hacc, hb⟩ := hrel
    have hbs := hb.size
    by_cases hlt : 0 < m
    · obtain ⟨f, rfl⟩ : ∃ g, f = g + 1 := by
        cases f with
        | zero => simp at hm; omega
        | succ g => exact ⟨g, rfl⟩
      have hne : ((m : Int) != 0) = true := by simp; omega
      obtain ⟨d, hd, hd10, hdi⟩ : ∃ d : Nat, Hid (m % 10 = d) ∧ d < 10 ∧ (m : Int) % 10 = (d : Int) := ⟨_, rfl, by omega, by omega⟩
      have hfac := hide (Wd.decA_step f m acc (by omega))
      have hdiv : m / 10 < 10 ^ f := Nat.div_lt_of_lt_mul (by rw [Nat.mul_comm, ← Nat.pow_succ]; exact hm)
      have hcv := conv_one wr d (by omega)
      go_wp2_with (go_at_call 31; refine (figure_any _ _ (by omega) (by omega)).mono ?_; rintro e w1 ⟨rfl, rfl⟩)
      go_roundw
      case rel =>
        refine ⟨f, m / 10, Wd.figB d :: acc, by go_num, congrArg Value.string (cat_list [Wd.figB d] acc), hdiv, by omega, by simp; omega, ?_, hb.alloc hbs _⟩
        show _ = _
        rw [← hacc.out, hfac.out, hd.out]
      case measure => simp [intOf]; omega
    · have hm0 : m = 0 := by omega
      subst hm0
      have hfin := hide ((Wd.decA_zero f acc).symm.trans hacc.out)
      go_wp2
      go_ret
      rw [← hfin.out]
      exact ⟨rfl, hb⟩

set_option maxRecDepth 100000 in
set_option maxHeartbeats 1000000 in
theorem dec_neg (n : Nat) (w : World) (h0 : 0 < n) (h1 : n ≤ 9223372036854775808) :
    Calls Tryd.prog 16 #[.int .i64 (-(n : Int))] w fun e w' => e = .returned (.string ⟨(45 :: Wd.decA 20 n []).toArray⟩) ∧ Below w.heap.size w w' := by
  have hz : (-(n : Int) == 0) = false := by simp; omega
  have hneg : decide (-(n : Int) < 0) = true := by simp; omega
  have H1 := hide h1
  clear h1
  go_enter Tryd.func16, Tryd.ntmps16
  go_wp2
  go_loopw [0, 4] (fun t v wr => ∃ (f m : Nat) (acc : List UInt8), t = .int .i64 (-(m : Int)) ∧ v = .string ⟨acc.toArray⟩ ∧ m < 10 ^ f ∧ Hid (m ≤ 9223372036854775808) ∧ acc.length + f = 20 ∧ Hid (Wd.decA f m acc = Wd.decA 20 n []) ∧ Below w.heap.size w wr) (fun t _ _ => (- intOf t).toNat)
  case atStart => exact ⟨20, n, [], rfl, rfl, by have := H1.out; omega, H1, rfl, rfl, Below.refl _ _⟩
  case round =>
    obtain ⟨f, m, acc, rfl, rfl, hm, HM2, hl, hacc, hb⟩ := hrel
    have hbs := hb.size
    by_cases hlt : 0 < m
    · obtain ⟨f, rfl⟩ : ∃ g, f = g + 1 := by
        cases f with
        | zero => simp at hm; omega
        | succ g => exact ⟨g, rfl⟩
      have hne : (-(m : Int) != 0) = true := by simp; omega
      obtain ⟨d, hd, hd10, hdi⟩ : ∃ d : Nat, Hid (m % 10 = d) ∧ d < 10 ∧ (-(m : Int)).tmod 10 = -(d : Int) := ⟨_, rfl, by omega, by rw [Int.neg_tmod, Int.tmod_eq_emod_of_nonneg (by omega)]; omega⟩
      obtain ⟨q, hq, hqi⟩ : ∃ q : Nat, Hid (m / 10 = q) ∧ (-(m : Int)).tdiv 10 = -(q : Int) := ⟨_, rfl, by rw [Int.neg_tdiv, Int.tdiv_eq_ediv_of_nonneg (by omega)]; omega⟩
      have hq2 : q ≤ 922337203685477580 := by have := HM2.out; have := hq.out; omega
      have hqm : q < m := by have := hq.out; omega
      have hfac := hide (Wd.decA_step f m acc (by omega))
      have hdiv : q < 10 ^ f := by rw [← hq.out]; exact Nat.div_lt_of_lt_mul (by rw [Nat.mul_comm, ← Nat.pow_succ]; exact hm)
      have hcv := conv_one wr d (by omega)
      by_cases hd0 : 0 < d
      · have hdn : decide (-(d : Int) < 0) = true := by simp; omega
        go_wp2_with (go_at_call 31; refine (figure_any _ _ (by omega) (by omega)).mono ?_; rintro e w1 ⟨rfl, rfl⟩)
        go_roundw
        case rel =>
          refine ⟨f, q, Wd.figB d :: acc, by go_num, congrArg Value.string (cat_list [Wd.figB d] acc), hdiv, by show q ≤ 9223372036854775808; omega, by simp; omega, ?_, hb.alloc hbs _⟩
          show _ = _
          rw [← hacc.out, hfac.out, hd.out, hq.out]
        case measure => simp [intOf]; omega
      · have hd1 : d = 0 := by omega
        subst hd1
        rw [show ((0 : Nat) : Int) = 0 from rfl] at hcv hdi
        go_wp2_with (go_at_call 31; refine (figure_any _ _ (by omega) (by omega)).mono ?_; rintro e w1 ⟨rfl, rfl⟩)
        go_roundw
        case rel =>
          refine ⟨f, q, Wd.figB 0 :: acc, by go_num, congrArg Value.string (cat_list [Wd.figB 0] acc), hdiv, by show q ≤ 9223372036854775808; omega, by simp; omega, ?_, hb.alloc hbs _⟩
          show _ = _
          rw [← hacc.out, hfac.out, hd.out, hq.out]
        case measure => simp [intOf]; omega
    · have hm0 : m = 0 := by omega
      subst hm0
      have hfin := hide ((Wd.decA_zero f acc).symm.trans hacc.out)
      go_wp2
      go_ret
      rw [← hfin.out]
      exact ⟨congrArg (fun x => Ending.returned (Value.string x)) (cat_list [45] acc), hb⟩

theorem decimal_any (n : Int) (w : World) (h0 : -9223372036854775808 ≤ n) (h1 : n ≤ 9223372036854775807) :
    Calls Tryd.prog 16 #[.int .i64 n] w fun e w' => e = .returned (.string ⟨(Wd.decS n).toArray⟩) ∧ Below w.heap.size w w' := by
  by_cases hz : n = 0
  · subst hz
    exact (dec_zero w).mono fun e w' ⟨he, hw⟩ => ⟨he, hw ▸ Below.refl _ _⟩
  · by_cases hn : n < 0
    · obtain ⟨m, hm⟩ := Int.eq_ofNat_of_zero_le (show 0 ≤ -n by omega)
      have e : n = -(m : Int) := by omega
      subst e
      have es : Wd.decS (-(m : Int)) = 45 :: Wd.decA 20 m [] := by unfold Wd.decS; rw [if_neg hz, if_pos hn, Int.natAbs_neg, Int.natAbs_natCast]
      rw [es]
      exact dec_neg m w (by omega) (by omega)
    · obtain ⟨m, rfl⟩ := Int.eq_ofNat_of_zero_le (show 0 ≤ n by omega)
      have es : Wd.decS (m : Int) = Wd.decA 20 m [] := by unfold Wd.decS; rw [if_neg hz, if_neg hn, Int.natAbs_natCast]
      rw [es]
      exact dec_pos m w (by omega) (by omega)
end Go.Proofs.YtpibnhodlojajaaDoor
