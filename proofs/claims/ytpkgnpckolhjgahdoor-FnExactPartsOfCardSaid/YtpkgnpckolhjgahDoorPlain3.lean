/- Plain facts on decimal figures, without any program. -/
import Derived.Test.YtpkgnpckolhjgahDoorPlain2
namespace Go.Proofs.YtpkgnpckolhjgahDoor
namespace Wd

/-- The decimal figures of n ahead of acc; f bounds how many there are. -/
def decA : Nat → Nat → List UInt8 → List UInt8
  | 0, _, acc => acc
  | f + 1, n, acc => if n = 0 then acc else decA f (n / 10) (figB (n % 10) :: acc)
theorem decA_zero (f : Nat) (acc : List UInt8) : decA f 0 acc = acc := by cases f <;> simp [decA]
theorem decA_step (f n : Nat) (acc : List UInt8) (h : n ≠ 0) : decA (f + 1) n acc = decA f (n / 10) (figB (n % 10) :: acc) := by simp [decA, h]

/-- The decimal text of n. -/
def decS (n : Int) : List UInt8 := if n = 0 then [48] else if n < 0 then 45 :: decA 20 n.natAbs [] else decA 20 n.natAbs []

theorem decA_length : ∀ f n acc m, n < 10 ^ m → (decA f n acc).length ≤ acc.length + m
  | 0, n, acc, m, _ => by simp [decA]
  | f + 1, n, acc, m, h => by
    by_cases h0 : n = 0
    · subst h0; rw [decA_zero]; omega
    · rw [decA_step f n acc h0]
      cases m with
      | zero => simp at h; omega
      | succ m =>
        have := decA_length f (n / 10) (figB (n % 10) :: acc) m (Nat.div_lt_of_lt_mul (by rw [Nat.mul_comm, ← Nat.pow_succ]; exact h))
        simp at this
        omega

/-- What the first k decimal figures come to. -/
def numF (s : ByteArray) : Nat → Nat
  | 0 => 0
  | k + 1 => 10 * numF s k + (bt s k - 48)

def digs (s : ByteArray) (k : Nat) : Prop := ∀ p, p < k → 48 ≤ bt s p ∧ bt s p ≤ 57

theorem numF_lt (s : ByteArray) : ∀ k, digs s k → numF s k < 10 ^ k
  | 0, _ => by simp [numF]
  | k + 1, h => by
    have ih := numF_lt s k (fun p hp => h p (by omega))
    have := h k (by omega)
    rw [numF, Nat.pow_succ]
    omega
theorem numF_lead (s : ByteArray) (h0 : bt s 0 = 48) : ∀ k, digs s (k + 1) → numF s (k + 1) < 10 ^ k
  | 0, _ => by simp [numF, h0]
  | k + 1, h => by
    have ih := numF_lead s h0 k (fun p hp => h p (by omega))
    have := h (k + 1) (by omega)
    rw [numF, Nat.pow_succ]
    omega
theorem numF_pos (s : ByteArray) (h0 : bt s 0 ≠ 48) : ∀ k, digs s (k + 1) → 0 < numF s (k + 1)
  | 0, h => by have := h 0 (by omega); simp [numF]; omega
  | k + 1, h => by
    have ih := numF_pos s h0 k (fun p hp => h p (by omega))
    rw [numF]; omega

/-- The bytes from the place k on, n of them. -/
def tl (s : ByteArray) : Nat → Nat → List UInt8
  | _, 0 => []
  | k, n + 1 => UInt8.ofNat (bt s k) :: tl s (k + 1) n
theorem tl_length (s : ByteArray) : ∀ n k, (tl s k n).length = n
  | 0, _ => rfl
  | n + 1, k => by simp [tl, tl_length s n (k + 1)]

theorem figB_digit (s : ByteArray) (k : Nat) (h : 48 ≤ bt s k ∧ bt s k ≤ 57) : figB (bt s k - 48) = UInt8.ofNat (bt s k) := by
  unfold figB
  rw [figI_low _ (by omega)]
  congr 1
  omega

theorem decA_back (s : ByteArray) (L : Nat) (hd : digs s L) (h0 : bt s 0 ≠ 48) : ∀ k f, k ≤ L → k ≤ f → decA f (numF s k) (tl s k (L - k)) = tl s 0 L
  | 0, f, _, _ => by simp [numF, decA_zero]
  | k + 1, f, hk, hf => by
    obtain ⟨g, rfl⟩ : ∃ g, f = g + 1 := ⟨f - 1, by omega⟩
    have hp := numF_pos s h0 k (fun p hp => hd p (by omega))
    have hdk := hd k (by omega)
    rw [decA_step g _ _ (by omega)]
    have e1 : numF s (k + 1) / 10 = numF s k := by rw [numF]; omega
    have e2 : numF s (k + 1) % 10 = bt s k - 48 := by rw [numF]; omega
    rw [e1, e2, figB_digit s k hdk]
    have e3 : UInt8.ofNat (bt s k) :: tl s (k + 1) (L - (k + 1)) = tl s k (L - k) := by
      rw [show L - k = (L - (k + 1)) + 1 from by omega]; rfl
    rw [e3]
    exact decA_back s L hd h0 k g (by omega) (by omega)

theorem tl_all (s : ByteArray) : tl s 0 s.size = s.data.toList := by
  have key : ∀ n k p (hp : p < n) (hk : k + n ≤ s.size), (tl s k n)[p]'(by rw [tl_length]; exact hp) = s[k + p]'(by omega) := by
    intro n
    induction n with
    | zero => intro k p hp; omega
    | succ n ih =>
      intro k p hp hk
      cases p with
      | zero =>
        have := bt_eq s k (by omega)
        simp [tl, ← this]
      | succ p =>
        have := ih (k + 1) p (by omega) (by omega)
        simp only [tl, List.getElem_cons_succ, this]
        congr 1; omega
  apply List.ext_getElem
  · rw [tl_length]; rfl
  · intro p h1 h2
    rw [tl_length] at h1
    rw [key s.size 0 p h1 (by omega)]
    simp
    rfl

/-- Just a number without needless noughts is its own decimal text. -/
theorem dec_canon (s : ByteArray) (hd : digs s s.size) (h10 : s.size ≤ 10) : decS (numF s s.size) = s.data.toList ↔ (s.size ≠ 0 ∧ (s.size = 1 ∨ bt s 0 ≠ 48)) := by
  rw [← tl_all]
  generalize hL : s.size = L at *
  constructor
  · intro h
    have hlen := congrArg List.length h
    rw [tl_length] at hlen
    cases L with
    | zero => simp [numF, decS] at hlen
    | succ k =>
      refine ⟨by omega, ?_⟩
      by_cases h0 : bt s 0 = 48
      · left
        have hb := numF_lead s h0 k hd
        by_cases hz : numF s (k + 1) = 0
        · rw [hz] at hlen; simp [decS] at hlen; omega
        · have := decA_length 20 (numF s (k + 1)) [] k hb
          have e : decS (numF s (k + 1)) = decA 20 (numF s (k + 1)) [] := by
            unfold decS; rw [if_neg (by omega), if_neg (by omega), Int.natAbs_natCast]
          rw [e] at hlen
          simp at this
          omega
      · exact .inr h0
  · rintro ⟨h1, h2⟩
    by_cases h0 : bt s 0 = 48
    · have : L = 1 := by omega
      subst this
      simp [numF, h0, decS, tl]
    · obtain ⟨k, rfl⟩ : ∃ k, L = k + 1 := ⟨L - 1, by omega⟩
      have hp := numF_pos s h0 k hd
      have e : decS (numF s (k + 1)) = decA 20 (numF s (k + 1)) [] := by
        unfold decS; rw [if_neg (by omega), if_neg (by omega), Int.natAbs_natCast]
      rw [e]
      have := decA_back s (k + 1) hd h0 (k + 1) 20 (Nat.le_refl _) (by omega)
      simpa [tl] using this
end Wd
end Go.Proofs.YtpkgnpckolhjgahDoor
