/- Decimal texts, plainly. -/
import Derived.Test.YtpibnhodlojajaaDoorNumQ
import Derived.Test.YtpibnhodlojajaaDoorDecI
namespace Go.Proofs.YtpibnhodlojajaaDoor
open Go.RowKit

/-! ### Decimal texts -/

theorem numF_same (s t : ByteArray) : ∀ k, (∀ p, p < k → Wd.bt s p = Wd.bt t p) → Wd.numF s k = Wd.numF t k
  | 0, _ => rfl
  | k + 1, h => by rw [Wd.numF, Wd.numF, numF_same s t k (fun p hp => h p (by omega)), h k (by omega)]

theorem dec_facts : ∀ n, Wd.digs ⟨(Lib.decDigits n).toArray⟩ (Lib.decDigits n).length ∧ Wd.numF ⟨(Lib.decDigits n).toArray⟩ (Lib.decDigits n).length = n ∧ 0 < (Lib.decDigits n).length ∧ (0 < n → Wd.bt ⟨(Lib.decDigits n).toArray⟩ 0 ≠ 48) := by
  intro n
  induction n using Nat.strongRecOn with
  | _ n ih =>
    by_cases h : n < 10
    · rw [Lib.decDigits_one h]
      have hb : Wd.bt ⟨([UInt8.ofNat (48 + n)] : List UInt8).toArray⟩ 0 = 48 + n := by
        rw [bt_list _ 0 (by simp)]
        simp; omega
      refine ⟨?_, ?_, by simp, ?_⟩
      · intro p hp
        obtain rfl : p = 0 := by simpa using hp
        rw [hb]; omega
      · show Wd.numF _ 1 = n
        rw [Wd.numF, Wd.numF, hb]; omega
      · intro h0; rw [hb]; omega
    · obtain ⟨h1, h2, h3, h4⟩ := ih (n / 10) (by omega)
      have e : Lib.decDigits n = Lib.decDigits (n / 10) ++ [UInt8.ofNat (48 + n % 10)] := by
        conv => lhs; rw [Lib.decDigits, dif_neg h]
      rw [e]
      generalize Lib.decDigits (n / 10) = L at h1 h2 h3 h4
      have hsame : ∀ p, p < L.length → Wd.bt ⟨(L ++ [UInt8.ofNat (48 + n % 10)]).toArray⟩ p = Wd.bt ⟨L.toArray⟩ p := fun p hp => by
        rw [bt_list L p hp, bt_list _ p (by simp; omega)]
        simp [hp]
      have hlast : Wd.bt ⟨(L ++ [UInt8.ofNat (48 + n % 10)]).toArray⟩ L.length = 48 + n % 10 := by
        rw [bt_list _ _ (by simp)]
        simp; omega
      have hlen : (L ++ [UInt8.ofNat (48 + n % 10)]).length = L.length + 1 := by simp
      rw [hlen]
      refine ⟨?_, ?_, by omega, ?_⟩
      · intro p hp
        by_cases hpl : p < L.length
        · rw [hsame p hpl]; exact h1 p hpl
        · obtain rfl : p = L.length := by omega
          rw [hlast]; omega
      · rw [Wd.numF, numF_same _ ⟨L.toArray⟩ L.length hsame, h2, hlast]; omega
      · intro _; rw [hsame 0 h3]; exact h4 (by omega)

theorem dec_len : ∀ m n, n < 10 ^ (m + 1) → (Lib.decDigits n).length ≤ m + 1
  | 0, n, h => by rw [Lib.decDigits_one (by simpa using h)]; simp
  | m + 1, n, h => by
    by_cases h10 : n < 10
    · rw [Lib.decDigits_one h10]; simp
    · have := dec_len m (n / 10) (Nat.div_lt_of_lt_mul (by rw [Nat.mul_comm, ← Nat.pow_succ]; exact h))
      rw [Lib.decDigits, dif_neg h10]
      simp; omega

theorem decS_nat (n : Nat) : n ≤ 1000000000 → Wd.decS (n : Int) = Lib.decDigits n := by
  intro h
  rw [← Wd.decS_itoa (n : Int) (by omega) (by omega), Lib.itoa_nonneg]
end Go.Proofs.YtpibnhodlojajaaDoor
