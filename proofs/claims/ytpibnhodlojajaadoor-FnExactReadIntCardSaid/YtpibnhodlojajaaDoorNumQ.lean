/- Plain facts: a number that is written is read back where it stands. -/
import Derived.Test.YtpibnhodlojajaaDoorRv
namespace Go.Proofs.YtpibnhodlojajaaDoor
open Go.RowKit

theorem bt_list (L : List UInt8) (p : Nat) (h : p < L.length) : Wd.bt ⟨L.toArray⟩ p = L[p].toNat := by
  unfold Wd.bt
  rw [dif_pos (show p < (⟨L.toArray⟩ : ByteArray).size from h)]
  rfl

theorem bt_here (L : List UInt8) (p : Nat) (b : UInt8) (h : L[p]? = some b) : Wd.bt ⟨L.toArray⟩ p = b.toNat := by
  obtain ⟨hp, e⟩ := List.getElem?_eq_some_iff.1 h
  rw [bt_list L p hp, e]

/-! ### Numbers -/

theorem rvF_varF (s : ByteArray) : ∀ f n p k q acc, n < 128 ^ (f + 1) → acc + n * q ≤ 1000000000 → (0 < n ∨ k = 0) →
    (∀ j b, (Wd.varF (f + 1) n)[j]? = some b → p + j < s.size ∧ Wd.bt s (p + j) = b.toNat) → Wd.rvF s (f + 1) p k q acc = some (acc + n * q, p + (Wd.varF (f + 1) n).length)
  | f, n, p, k, q, acc, hn, hb, hk, hs => by
    by_cases h : n < 128
    · rw [Wd.varF_low f n h] at hs ⊢
      have h0 := hs 0 (UInt8.ofNat n) rfl
      have hbt : Wd.bt s p = n := by have := h0.2; simpa [Nat.mod_eq_of_lt (show n < 256 by omega)] using this
      have := Wd.rvF_lastB (f := f) (q := q) (n := acc) (k := k) hbt h0.1 h (by rw [Nat.mod_eq_of_lt h]; exact hb) hk
      rw [this, Nat.mod_eq_of_lt h]
      rfl
    · rw [Wd.varF_high f n h] at hs ⊢
      have h0 := hs 0 (UInt8.ofNat (n % 128 + 128)) rfl
      have hbt : Wd.bt s p = n % 128 + 128 := by have := h0.2; simpa [Nat.mod_eq_of_lt (show n % 128 + 128 < 256 by omega)] using this
      rw [Wd.rvF_moreB (f := f) (q := q) (n := acc) (k := k) hbt h0.1 (by omega)]
      cases f with
      | zero => simp at hn; omega
      | succ f =>
        have e : acc + n * q = acc + (n % 128 + 128) % 128 * q + n / 128 * (q * 128) := by
          have e1 : (n % 128 + 128) % 128 = n % 128 := by omega
          have e2 : n * q = (n % 128 + 128 * (n / 128)) * q := by rw [Nat.mod_add_div]
          rw [e1, e2, Nat.add_mul, Nat.add_assoc, Nat.mul_comm q 128, ← Nat.mul_assoc, Nat.mul_comm 128 (n / 128)]
        have ih := rvF_varF s f (n / 128) (p + 1) (k + 1) (q * 128) (acc + (n % 128 + 128) % 128 * q) (Wd.div_lt_pow _ _ hn) (by rw [← e]; exact hb) (.inl (by omega))
          (fun j b hj => by
            have := hs (j + 1) b (by simpa using hj)
            rw [show p + 1 + j = p + (j + 1) by omega]
            exact this)
        rw [ih, ← e, List.length_cons]
        congr 2
        omega

/-- A number that stands inside a text is read where it stands. -/
theorem rvI_at (a b : List UInt8) (n : Nat) (hn : n ≤ 1000000000) (i : Int) (hi : i = (a.length : Int)) : Wd.rvI ⟨(a ++ Wd.varF 5 n ++ b).toArray⟩ i = some (n, a.length + (Wd.varF 5 n).length) := by
  subst hi
  unfold Wd.rvI
  have hsz : (⟨(a ++ Wd.varF 5 n ++ b).toArray⟩ : ByteArray).size = a.length + (Wd.varF 5 n).length + b.length := by
    show (a ++ Wd.varF 5 n ++ b).length = _
    rw [List.length_append, List.length_append]
  rw [if_neg (by rw [hsz]; omega), Int.toNat_natCast]
  unfold Wd.rv
  have := rvF_varF ⟨(a ++ Wd.varF 5 n ++ b).toArray⟩ 4 n a.length 0 1 0 (by omega) (by omega) (.inr rfl) (fun j x hj => by
    have hj' : j < (Wd.varF 5 n).length := (List.getElem?_eq_some_iff.1 hj).1
    refine ⟨by rw [hsz]; omega, bt_here _ _ _ ?_⟩
    rw [List.append_assoc, List.getElem?_append_right (by omega), Nat.add_sub_cancel_left, List.getElem?_append_left hj', hj])
  rw [this]
  simp
end Go.Proofs.YtpibnhodlojajaaDoor
