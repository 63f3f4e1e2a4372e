/- Plain facts: a number that was read is the one whose own bytes stand there just when it has no shorter form. -/
import Derived.Test.YtpkgnpckolhjgagPlain2
namespace Go.Proofs.Ytpkgnpckolhjgag
namespace Wd

/-- What k figures from the place i on come to. -/
def valF (s : ByteArray) : Nat → Nat → Nat
  | _, 0 => 0
  | i, k + 1 => bt s i % 128 + 128 * valF s (i + 1) k

/-- k bytes from the place i on. -/
def subF (s : ByteArray) : Nat → Nat → List UInt8
  | _, 0 => []
  | i, k + 1 => UInt8.ofNat (bt s i) :: subF s (i + 1) k

theorem subF_length (s : ByteArray) : ∀ k i, (subF s i k).length = k
  | 0, _ => rfl
  | k + 1, i => by simp [subF, subF_length s k (i + 1)]

theorem valF_snoc (s : ByteArray) : ∀ k i, valF s i (k + 1) = valF s i k + bt s (i + k) % 128 * 128 ^ k
  | 0, i => by simp [valF]
  | k + 1, i => by
    rw [valF, valF_snoc s k (i + 1), valF, Nat.pow_succ, show i + 1 + k = i + (k + 1) from by omega, Nat.mul_add, ← Nat.mul_assoc, Nat.mul_comm 128 (bt s (i + (k + 1)) % 128), Nat.mul_assoc, Nat.mul_comm 128 (128 ^ k), Nat.add_assoc]

theorem valF_zero (s : ByteArray) (k i : Nat) (h : valF s i (k + 1) = 0) : bt s (i + k) % 128 = 0 := by
  rw [valF_snoc] at h
  have h1 : bt s (i + k) % 128 * 128 ^ k = 0 := by omega
  rcases Nat.mul_eq_zero.1 h1 with h2 | h2
  · exact h2
  · have := Nat.pow_pos (n := k) (show 0 < 128 by omega); omega

theorem canonF (s : ByteArray) : ∀ k i f, (∀ j, j < k → 128 ≤ bt s (i + j)) → bt s (i + k) < 128 → k < f → (varF f (valF s i (k + 1)) = subF s i (k + 1) ↔ (0 < bt s (i + k) ∨ k = 0))
  | 0, i, f, _, hb, hf => by
    obtain ⟨g, rfl⟩ : ∃ g, f = g + 1 := ⟨f - 1, by omega⟩
    have hb' : bt s i < 128 := hb
    have hv : valF s i (0 + 1) = bt s i := by simp [valF]; omega
    rw [hv, varF_low g _ hb']
    simp [subF]
  | k + 1, i, f, hj, hb, hf => by
    obtain ⟨g, rfl⟩ : ∃ g, f = g + 1 := ⟨f - 1, by omega⟩
    have hc : 128 ≤ bt s i := hj 0 (by omega)
    have hc2 := bt_lt s i
    have ih := canonF s k (i + 1) g (fun j hjk => by have := hj (j + 1) (by omega); rw [show i + 1 + j = i + (j + 1) from by omega]; exact this) (by rw [show i + 1 + k = i + (k + 1) from by omega]; exact hb) (by omega)
    rw [show i + 1 + k = i + (k + 1) from by omega] at ih
    have hv : valF s i (k + 1 + 1) = bt s i % 128 + 128 * valF s (i + 1) (k + 1) := rfl
    have hs : subF s i (k + 1 + 1) = UInt8.ofNat (bt s i) :: subF s (i + 1) (k + 1) := rfl
    rw [hv, hs]
    by_cases hV : valF s (i + 1) (k + 1) = 0
    · have hz := valF_zero s k (i + 1) hV
      rw [show i + 1 + k = i + (k + 1) from by omega] at hz
      rw [varF_low g _ (by omega)]
      constructor
      · intro h
        have := congrArg List.length h
        simp [subF_length] at this
      · intro h; omega
    · rw [varF_high g _ (by omega), show (bt s i % 128 + 128 * valF s (i + 1) (k + 1)) % 128 + 128 = bt s i from by omega, show (bt s i % 128 + 128 * valF s (i + 1) (k + 1)) / 128 = valF s (i + 1) (k + 1) from by omega]
      constructor
      · intro h
        have h2 := ih.1 (List.cons.inj h).2
        rcases h2 with h2 | h2
        · exact .inl h2
        · subst h2
          have e : valF s (i + 1) (0 + 1) = bt s (i + 1) % 128 := by simp [valF]
          rw [e] at hV
          left; show 0 < bt s (i + 1); omega
      · intro h
        rw [ih.2 (by omega)]

theorem subF_extract (s : ByteArray) (i k : Nat) (h : i + k ≤ s.size) : (s.extract i (i + k)).data.toList = subF s i k := by
  apply List.ext_getElem
  · simp [subF_length]
    have : s.data.size = s.size := rfl
    omega
  · intro n h1 h2
    rw [subF_length] at h2
    have key : ∀ k i n (hn : n < k) (hk : i + k ≤ s.size), (subF s i k)[n]'(by rw [subF_length]; exact hn) = s[i + n]'(by omega) := by
      intro k
      induction k with
      | zero => intro i n hn; omega
      | succ k ih =>
        intro i n hn hk
        cases n with
        | zero =>
          have := bt_eq s i (by omega)
          simp [subF, ← this]
        | succ n =>
          have := ih (i + 1) n (by omega) (by omega)
          simp only [subF, List.getElem_cons_succ, this]
          congr 1; omega
    rw [key k i n h2 h]
    simp
    rfl

end Wd
end Go.Proofs.Ytpkgnpckolhjgag
