/- The decimal text of a number: the program's, by the library's writer. -/
import Derived.Test.YtpibnhodlojajaaDoorBase
import Derived.Test.YtpibnhodlojajaaDoorShelfItoa
import Derived.Lib.ItoaMem
import Derived.WalkSmall
namespace Go.Proofs.YtpibnhodlojajaaDoor
open Go.RowKit

theorem Wd.decA_app : ∀ f n acc, n < 10 ^ f → 0 < n → Wd.decA f n acc = Lib.decDigits n ++ acc
  | 0, n, acc, h, h0 => by simp at h; omega
  | f + 1, n, acc, h, h0 => by
    rw [Wd.decA_step f n acc (by omega)]
    have hfig : ∀ m, m < 10 → Wd.figB m = UInt8.ofNat (48 + m) := by
      intro m hm
      unfold Wd.figB
      rw [Wd.figI_low _ (by omega)]
      congr 1
    by_cases h10 : n < 10
    · rw [show n / 10 = 0 from by omega, Wd.decA_zero, Lib.decDigits_one h10, hfig _ (by omega), show n % 10 = n from by omega]
      rfl
    · rw [Wd.decA_app f (n / 10) _ (Nat.div_lt_of_lt_mul (by rw [Nat.mul_comm, ← Nat.pow_succ]; exact h)) (by omega), hfig _ (by omega)]
      conv => rhs; rw [Lib.decDigits, dif_neg h10]
      simp

theorem Wd.decS_itoa (n : Int) (h0 : -9223372036854775808 ≤ n) (h1 : n ≤ 9223372036854775807) : Lib.itoa n = Wd.decS n := by
  unfold Wd.decS
  by_cases hz : n = 0
  · subst hz
    rw [if_pos rfl]
    show Lib.itoa ((0 : Nat) : Int) = _
    rw [Lib.itoa_nonneg, Lib.decDigits_one (by omega)]
    rfl
  · rw [if_neg hz]
    by_cases hn : n < 0
    · rw [if_pos hn]
      obtain ⟨m, hm⟩ := Int.eq_ofNat_of_zero_le (show 0 ≤ -n by omega)
      have e : n = -(m : Int) := by omega
      subst e
      rw [Lib.itoa_neg m (by omega), Int.natAbs_neg, Int.natAbs_natCast, Wd.decA_app 20 m [] (by omega) (by omega), List.append_nil]
    · rw [if_neg hn]
      obtain ⟨m, rfl⟩ := Int.eq_ofNat_of_zero_le (show 0 ≤ n by omega)
      rw [Lib.itoa_nonneg, Int.natAbs_natCast, Wd.decA_app 20 m [] (by omega) (by omega), List.append_nil]

theorem implDec_any (n : Int) (w : World) (h0 : -9223372036854775808 ≤ n) (h1 : n ≤ 9223372036854775807) (htab : Lib.TabIs Tryd.prog w "internal/strconv.uint64pow10" .u64 Lib.pow10Tab) :
    Calls Tryd.prog 33 #[.int .i64 n] w fun e w' => e = .returned (.string ⟨(Wd.decS n).toArray⟩) ∧ Below w.heap.size w w' := by
  have H := hide htab
  clear htab
  go_enter Tryd.func33, Tryd.ntmps33
  go_wp2_with (go_at_call 45; refine (Tryd.strconv_Itoa n h0 h1 _ H.out).mono ?_; rintro e w' ⟨rfl, k, os, hw⟩)
  go_ret
  rw [← Wd.decS_itoa n h0 h1]
  exact ⟨rfl, ⟨rfl, rfl, rfl, by simp [Sort.grow], fun j hj => by simp [Sort.grow, Array.getElem?_append, hj]⟩⟩

theorem tab_later {w w' : World} (h : Below w.heap.size w w') (ht : Lib.TabIs Tryd.prog w "internal/strconv.uint64pow10" .u64 Lib.pow10Tab) : Lib.TabIs Tryd.prog w' "internal/strconv.uint64pow10" .u64 Lib.pow10Tab := by
  have hg : Tryd.prog.globalNamed "internal/strconv.uint64pow10" = some 2 := by kernel_rfl
  refine var?_below h hg ?_ ht
  rcases Nat.lt_or_ge 2 w.heap.size with h' | h'
  · exact h'
  · unfold Lib.TabIs World.var? at ht
    rw [hg] at ht
    simp [Array.getElem?_eq_none h'] at ht
end Go.Proofs.YtpibnhodlojajaaDoor
