/- Plain facts on reading a number to the base 128 out of a text, without any program. -/
import Derived.Test.YtpkgnpckolhjgagPlain
namespace Go.Proofs.Ytpkgnpckolhjgag
namespace Wd

/-- The byte at a place; 0 behind the end. -/
def bt (s : ByteArray) (p : Nat) : Nat := if h : p < s.size then (s[p]'h).toNat else 0
theorem bt_eq (s : ByteArray) (p : Nat) (h : p < s.size) : (s[p]'h).toNat = bt s p := by simp [bt, h]
theorem bt_lt (s : ByteArray) (p : Nat) : bt s p < 256 := by unfold bt; split; exact UInt8.toNat_lt _; omega

/-- The number that stands in s from the place p on: f bytes more may belong to it, k have been read and came to n, each further figure counts q times. -/
def rvF (s : ByteArray) : Nat → Nat → Nat → Nat → Nat → Option (Nat × Nat)
  | 0, _, _, _, _ => none
  | f + 1, p, k, q, n =>
    if p < s.size then
      (if bt s p < 128 then (if n + bt s p % 128 * q ≤ 1000000000 ∧ (0 < bt s p ∨ k = 0) then some (n + bt s p % 128 * q, p + 1) else none)
       else rvF s f (p + 1) (k + 1) (q * 128) (n + bt s p % 128 * q))
    else none

theorem rvF_end (s : ByteArray) (f p k q n : Nat) (h : ¬ p < s.size) : rvF s f p k q n = none := by
  cases f <;> simp [rvF, h]
theorem rvF_more (s : ByteArray) (f p k q n : Nat) (h : p < s.size) (hb : ¬ bt s p < 128) : rvF s (f + 1) p k q n = rvF s f (p + 1) (k + 1) (q * 128) (n + bt s p % 128 * q) := by
  simp [rvF, h, hb]
theorem rvF_last (s : ByteArray) (f p k q n : Nat) (h : p < s.size) (hb : bt s p < 128) (hn : n + bt s p % 128 * q ≤ 1000000000) (hk : 0 < bt s p ∨ k = 0) : rvF s (f + 1) p k q n = some (n + bt s p % 128 * q, p + 1) := by
  simp only [rvF, if_pos h, if_pos hb, if_pos (And.intro hn hk)]
theorem rvF_not (s : ByteArray) (f p k q n : Nat) (hb : bt s p < 128) (hn : ¬ (n + bt s p % 128 * q ≤ 1000000000 ∧ (0 < bt s p ∨ k = 0))) : rvF s (f + 1) p k q n = none := by
  by_cases h : p < s.size
  · simp only [rvF, if_pos h, if_pos hb, if_neg hn]
  · exact rvF_end _ _ _ _ _ _ h

theorem rvF_moreB {s : ByteArray} {f p k q n b : Nat} (hB : bt s p = b) (h : p < s.size) (hb : ¬ b < 128) : rvF s (f + 1) p k q n = rvF s f (p + 1) (k + 1) (q * 128) (n + b % 128 * q) := by
  subst hB; exact rvF_more s f p k q n h hb
theorem rvF_lastB {s : ByteArray} {f p k q n b : Nat} (hB : bt s p = b) (h : p < s.size) (hb : b < 128) (hn : n + b % 128 * q ≤ 1000000000) (hk : 0 < b ∨ k = 0) : rvF s (f + 1) p k q n = some (n + b % 128 * q, p + 1) := by
  subst hB; exact rvF_last s f p k q n h hb hn hk
theorem rvF_notB {s : ByteArray} {f p k q n b : Nat} (hB : bt s p = b) (hb : b < 128) (hn : ¬ (n + b % 128 * q ≤ 1000000000 ∧ (0 < b ∨ k = 0))) : rvF s (f + 1) p k q n = none := by
  subst hB; exact rvF_not s f p k q n hb hn

/-- What is read of the number at the place 'at'. -/
def rv (s : ByteArray) (i : Nat) : Option (Nat × Nat) := rvF s 5 i 0 1 0

end Wd
end Go.Proofs.Ytpkgnpckolhjgag
