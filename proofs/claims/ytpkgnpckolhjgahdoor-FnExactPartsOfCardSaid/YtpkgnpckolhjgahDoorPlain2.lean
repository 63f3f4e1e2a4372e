/- Plain facts on reading figures, without any program. -/
import Derived.Test.YtpkgnpckolhjgahDoorPlain
namespace Go.Proofs.YtpkgnpckolhjgahDoor
namespace Wd

/-- What a byte stands for as a figure; -1 when it is none. -/
def valI (x : Nat) : Int := if 48 ≤ x ∧ x ≤ 57 then (x : Int) - 48 else if 97 ≤ x ∧ x ≤ 102 then (x : Int) - 87 else -1
theorem valI_bd (x : Nat) : -1 ≤ valI x ∧ valI x < 16 := by unfold valI; split <;> (try split) <;> omega
theorem valI_iff (x j : Nat) (h : j < 16) : figI (j : Int) = (x : Int) ↔ valI x = (j : Int) := by
  unfold figI valI
  by_cases h1 : (j : Int) < 10
  · rw [if_pos h1]
    by_cases h2 : 48 ≤ x ∧ x ≤ 57
    · rw [if_pos h2]; omega
    · rw [if_neg h2]
      by_cases h3 : 97 ≤ x ∧ x ≤ 102
      · rw [if_pos h3]; omega
      · rw [if_neg h3]; omega
  · rw [if_neg h1]
    by_cases h2 : 48 ≤ x ∧ x ≤ 57
    · rw [if_pos h2]; omega
    · rw [if_neg h2]
      by_cases h3 : 97 ≤ x ∧ x ≤ 102
      · rw [if_pos h3]; omega
      · rw [if_neg h3]; omega

/-- The byte at p is a figure to the base c. -/
def isFig (s : ByteArray) (c : Int) (p : Nat) : Prop := 0 ≤ valI (bt s p) ∧ valI (bt s p) < c

/-- What the first k bytes stand for. -/
def valsF (s : ByteArray) : Nat → List UInt8
  | 0 => []
  | k + 1 => valsF s k ++ [UInt8.ofNat (valI (bt s k)).toNat]
theorem valsF_length (s : ByteArray) : ∀ k, (valsF s k).length = k
  | 0 => rfl
  | k + 1 => by simp [valsF, valsF_length s k]
theorem valsF_get (s : ByteArray) : ∀ k p, p < k → (valsF s k)[p]? = some (UInt8.ofNat (valI (bt s p)).toNat)
  | 0, p, h => absurd h (by omega)
  | k + 1, p, h => by
    by_cases hp : p < k
    · rw [valsF, List.getElem?_append_left (by rw [valsF_length]; exact hp), valsF_get s k p hp]
    · have : p = k := by omega
      subst this
      rw [valsF, List.getElem?_append_right (by rw [valsF_length]; omega), valsF_length]
      simp

/-- The bytes that the first 2 m figures stand for. -/
def unF (s : ByteArray) : Nat → List UInt8
  | 0 => []
  | m + 1 => unF s m ++ [UInt8.ofNat (16 * valI (bt s (2 * m)) + valI (bt s (2 * m + 1))).toNat]
theorem unF_length (s : ByteArray) : ∀ k, (unF s k).length = k
  | 0 => rfl
  | k + 1 => by simp [unF, unF_length s k]
end Wd
end Go.Proofs.YtpkgnpckolhjgahDoor
