/- Plain facts: what is written is read back: numbers, decimal texts, short texts, figures. -/
import Derived.Test.YtaalegphjemknaaDoorRv
import Derived.Test.YtaalegphjemknaaDoorLen
import Derived.Test.YtaalegphjemknaaDoorRDecI
import Derived.Test.YtaalegphjemknaaDoorDecI
namespace Go.Proofs.YtaalegphjemknaaDoor
open Go.RowKit

theorem bt_list (L : List UInt8) (p : Nat) (h : p < L.length) : Wd.bt ⟨L.toArray⟩ p = L[p].toNat := by
  unfold Wd.bt
  rw [dif_pos (show p < (⟨L.toArray⟩ : ByteArray).size from h)]
  rfl

theorem bt_here (L : List UInt8) (p : Nat) (b : UInt8) (h : L[p]? = some b) : Wd.bt ⟨L.toArray⟩ p = b.toNat := by
  obtain ⟨hp, e⟩ := List.getElem?_eq_some_iff.1 h
  rw [bt_list L p hp, e]

/-! ### Numbers -/

theorem rvF_varF (s : ByteArray) : ∀ f n p k q acc, n < 128 ^ (f + 1) → acc + n * q ≤ 1000000000 → (0 < n ∨ k = 0) →
    (∀ j b, (Wd.varF (f + 1) n)[j]? = some b → p + j < s.size ∧ Wd.bt s (p + j) = b.toNat) → Wd.rvF s (f + 1) p k q acc = some (acc + n * q, p + (Wd.varF (f + 1) n).length)
  | f, n, p, k, q, acc, hn, hb, hk, hs => by
    by_cases h : n < 128
    · rw [Wd.varF_low f n h] at hs ⊢
      have h0 := hs 0 (UInt8.ofNat n) rfl
      have hbt : Wd.bt s p = n := by have := h0.2; simpa [Nat.mod_eq_of_lt (show n < 256 by omega)] using this
      have := Wd.rvF_lastB (f := f) (q := q) (n := acc) (k := k) hbt h0.1 h (by rw [Nat.mod_eq_of_lt h]; exact hb) hk
      rw [this, Nat.mod_eq_of_lt h]
      rfl
    · rw [Wd.varF_high f n h] at hs ⊢
      have h0 := hs 0 (UInt8.ofNat (n % 128 + 128)) rfl
      have hbt : Wd.bt s p = n % 128 + 128 := by have := h0.2; simpa [Nat.mod_eq_of_lt (show n % 128 + 128 < 256 by omega)] using this
      rw [Wd.rvF_moreB (f := f) (q := q) (n := acc) (k := k) hbt h0.1 (by omega)]
      cases f with
      | zero => simp at hn; omega
      | succ f =>
        have e : acc + n * q = acc + (n % 128 + 128) % 128 * q + n / 128 * (q * 128) := by
          have e1 : (n % 128 + 128) % 128 = n % 128 := by omega
          have e2 : n * q = (n % 128 + 128 * (n / 128)) * q := by rw [Nat.mod_add_div]
          rw [e1, e2, Nat.add_mul, Nat.add_assoc, Nat.mul_comm q 128, ← Nat.mul_assoc, Nat.mul_comm 128 (n / 128)]
        have ih := rvF_varF s f (n / 128) (p + 1) (k + 1) (q * 128) (acc + (n % 128 + 128) % 128 * q) (Wd.div_lt_pow _ _ hn) (by rw [← e]; exact hb) (.inl (by omega))
          (fun j b hj => by
            have := hs (j + 1) b (by simpa using hj)
            rw [show p + 1 + j = p + (j + 1) by omega]
            exact this)
        rw [ih, ← e, List.length_cons]
        congr 2
        omega

/-- A number that stands inside a text is read where it stands. -/
theorem rvI_at (a b : List UInt8) (n : Nat) (hn : n ≤ 1000000000) (i : Int) (hi : i = (a.length : Int)) : Wd.rvI ⟨(a ++ Wd.varF 5 n ++ b).toArray⟩ i = some (n, a.length + (Wd.varF 5 n).length) := by
  subst hi
  unfold Wd.rvI
  have hsz : (⟨(a ++ Wd.varF 5 n ++ b).toArray⟩ : ByteArray).size = a.length + (Wd.varF 5 n).length + b.length := by
    show (a ++ Wd.varF 5 n ++ b).length = _
    rw [List.length_append, List.length_append]
  rw [if_neg (by rw [hsz]; omega), Int.toNat_natCast]
  unfold Wd.rv
  have := rvF_varF ⟨(a ++ Wd.varF 5 n ++ b).toArray⟩ 4 n a.length 0 1 0 (by omega) (by omega) (.inr rfl) (fun j x hj => by
    have hj' : j < (Wd.varF 5 n).length := (List.getElem?_eq_some_iff.1 hj).1
    refine ⟨by rw [hsz]; omega, bt_here _ _ _ ?_⟩
    rw [List.append_assoc, List.getElem?_append_right (by omega), Nat.add_sub_cancel_left, List.getElem?_append_left hj', hj])
  rw [this]
  simp

/-! ### Figures -/

theorem hexF_get (s : ByteArray) : ∀ k j, j < k → (Wd.hexF s k)[2 * j]? = some (Wd.figB (Wd.bt s j / 16)) ∧ (Wd.hexF s k)[2 * j + 1]? = some (Wd.figB (Wd.bt s j % 16))
  | 0, j, h => absurd h (by omega)
  | k + 1, j, h => by
    by_cases hj : j < k
    · have ih := hexF_get s k j hj
      have hl := Wd.hexF_length s k
      rw [Wd.hexF, List.getElem?_append_left (by omega), List.getElem?_append_left (by omega)]
      exact ih
    · have : j = k := by omega
      subst this
      have hl := Wd.hexF_length s j
      rw [Wd.hexF, List.getElem?_append_right (by omega), List.getElem?_append_right (by omega), hl]
      simp

theorem valI_fig (x : Nat) (h : x < 16) : Wd.valI (Wd.figB x).toNat = (x : Int) := (Wd.valI_iff _ x h).1 (Wd.figB_val x h).symm

theorem hex_bt (s : ByteArray) (k j : Nat) (h : j < k) : Wd.valI (Wd.bt ⟨(Wd.hexF s k).toArray⟩ (2 * j)) = ((Wd.bt s j / 16 : Nat) : Int) ∧ Wd.valI (Wd.bt ⟨(Wd.hexF s k).toArray⟩ (2 * j + 1)) = ((Wd.bt s j % 16 : Nat) : Int) := by
  obtain ⟨h1, h2⟩ := hexF_get s k j h
  have hb := Wd.bt_lt s j
  rw [bt_here _ _ _ h1, bt_here _ _ _ h2]
  exact ⟨valI_fig _ (by omega), valI_fig _ (by omega)⟩

theorem hex_figs (s : ByteArray) (k : Nat) : ∀ p, p < (⟨(Wd.hexF s k).toArray⟩ : ByteArray).size → Wd.isFig ⟨(Wd.hexF s k).toArray⟩ 16 p := by
  intro p hp
  have hl : (⟨(Wd.hexF s k).toArray⟩ : ByteArray).size = 2 * k := Wd.hexF_length s k
  rw [hl] at hp
  obtain ⟨h1, h2⟩ := hex_bt s k (p / 2) (by omega)
  have hb := Wd.bt_lt s (p / 2)
  unfold Wd.isFig
  rcases Nat.mod_two_eq_zero_or_one p with h | h
  · rw [show 2 * (p / 2) = p by omega] at h1
    omega
  · rw [show 2 * (p / 2) + 1 = p by omega] at h2
    omega

theorem unF_hexF (s : ByteArray) : ∀ m, m ≤ s.size → Wd.unF ⟨(Wd.hexF s s.size).toArray⟩ m = s.data.toList.take m
  | 0, _ => by simp [Wd.unF]
  | m + 1, h => by
    obtain ⟨h1, h2⟩ := hex_bt s s.size m (by omega)
    have hb := Wd.bt_lt s m
    have hm : m < s.data.toList.length := by rw [Array.length_toList]; exact h
    rw [Wd.unF, unF_hexF s m (by omega), h1, h2, List.take_succ_eq_append_getElem hm]
    congr 2
    have e : (16 * ((Wd.bt s m / 16 : Nat) : Int) + ((Wd.bt s m % 16 : Nat) : Int)).toNat = Wd.bt s m := by omega
    rw [e, ← Wd.bt_eq s m (by omega)]
    simp
    rfl

theorem unhex_hex (s : ByteArray) : (⟨(Wd.unF ⟨(Wd.hexF s s.size).toArray⟩ ((⟨(Wd.hexF s s.size).toArray⟩ : ByteArray).size / 2)).toArray⟩ : ByteArray) = s := by
  have hl : (⟨(Wd.hexF s s.size).toArray⟩ : ByteArray).size = 2 * s.size := Wd.hexF_length s s.size
  rw [hl, show 2 * s.size / 2 = s.size by omega, unF_hexF s s.size (Nat.le_refl _)]
  apply ByteArray.ext
  apply Array.toList_inj.1
  exact List.take_of_length_le (by rw [Array.length_toList]; exact Nat.le_refl _)

/-! ### Decimal texts -/

theorem numF_same (s t : ByteArray) : ∀ k, (∀ p, p < k → Wd.bt s p = Wd.bt t p) → Wd.numF s k = Wd.numF t k
  | 0, _ => rfl
  | k + 1, h => by rw [Wd.numF, Wd.numF, numF_same s t k (fun p hp => h p (by omega)), h k (by omega)]

theorem dec_facts : ∀ n, Wd.digs ⟨(Lib.decDigits n).toArray⟩ (Lib.decDigits n).length ∧ Wd.numF ⟨(Lib.decDigits n).toArray⟩ (Lib.decDigits n).length = n ∧ 0 < (Lib.decDigits n).length ∧ (0 < n → Wd.bt ⟨(Lib.decDigits n).toArray⟩ 0 ≠ 48) := by
  intro n
  induction n using Nat.strongRecOn with
  | _ n ih =>
    by_cases h : n < 10
    · rw [Lib.decDigits_one h]
      have hb : Wd.bt ⟨([UInt8.ofNat (48 + n)] : List UInt8).toArray⟩ 0 = 48 + n := by
        rw [bt_list _ 0 (by simp)]
        simp; omega
      refine ⟨?_, ?_, by simp, ?_⟩
      · intro p hp
        obtain rfl : p = 0 := by simpa using hp
        rw [hb]; omega
      · show Wd.numF _ 1 = n
        rw [Wd.numF, Wd.numF, hb]; omega
      · intro h0; rw [hb]; omega
    · obtain ⟨h1, h2, h3, h4⟩ := ih (n / 10) (by omega)
      have e : Lib.decDigits n = Lib.decDigits (n / 10) ++ [UInt8.ofNat (48 + n % 10)] := by
        conv => lhs; rw [Lib.decDigits, dif_neg h]
      rw [e]
      generalize Lib.decDigits (n / 10) = L at h1 h2 h3 h4
      have hsame : ∀ p, p < L.length → Wd.bt ⟨(L ++ [UInt8.ofNat (48 + n % 10)]).toArray⟩ p = Wd.bt ⟨L.toArray⟩ p := fun p hp => by
        rw [bt_list L p hp, bt_list _ p (by simp; omega)]
        simp [hp]
      have hlast : Wd.bt ⟨(L ++ [UInt8.ofNat (48 + n % 10)]).toArray⟩ L.length = 48 + n % 10 := by
        rw [bt_list _ _ (by simp)]
        simp; omega
      have hlen : (L ++ [UInt8.ofNat (48 + n % 10)]).length = L.length + 1 := by simp
      rw [hlen]
      refine ⟨?_, ?_, by omega, ?_⟩
      · intro p hp
        by_cases hpl : p < L.length
        · rw [hsame p hpl]; exact h1 p hpl
        · obtain rfl : p = L.length := by omega
          rw [hlast]; omega
      · rw [Wd.numF, numF_same _ ⟨L.toArray⟩ L.length hsame, h2, hlast]; omega
      · intro _; rw [hsame 0 h3]; exact h4 (by omega)

theorem dec_len : ∀ m n, n < 10 ^ (m + 1) → (Lib.decDigits n).length ≤ m + 1
  | 0, n, h => by rw [Lib.decDigits_one (by simpa using h)]; simp
  | m + 1, n, h => by
    by_cases h10 : n < 10
    · rw [Lib.decDigits_one h10]; simp
    · have := dec_len m (n / 10) (Nat.div_lt_of_lt_mul (by rw [Nat.mul_comm, ← Nat.pow_succ]; exact h))
      rw [Lib.decDigits, dif_neg h10]
      simp; omega

theorem decS_nat (n : Nat) : n ≤ 1000000000 → Wd.decS (n : Int) = Lib.decDigits n := by
  intro h
  rw [← Wd.decS_itoa (n : Int) (by omega) (by omega), Lib.itoa_nonneg]

theorem dec_good (n : Nat) (h : n ≤ 1000000000) : Wd.good ⟨(Wd.decS (n : Int)).toArray⟩ ∧ Wd.numF ⟨(Wd.decS (n : Int)).toArray⟩ (⟨(Wd.decS (n : Int)).toArray⟩ : ByteArray).size = n := by
  rw [decS_nat n h]
  obtain ⟨h1, h2, h3, h4⟩ := dec_facts n
  have hl := dec_len 9 n (by omega)
  have hs : (⟨(Lib.decDigits n).toArray⟩ : ByteArray).size = (Lib.decDigits n).length := rfl
  refine ⟨⟨by rw [hs]; omega, by rw [hs]; omega, by rw [hs]; exact h1, ?_, by rw [hs, h2]; exact h⟩, by rw [hs]; exact h2⟩
  by_cases h0 : 0 < n
  · exact .inr (h4 h0)
  · left
    rw [hs, Lib.decDigits_one (by omega)]
    rfl
end Go.Proofs.YtaalegphjemknaaDoor
