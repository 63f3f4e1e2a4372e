/- Plain facts on the bytes of a number, without any program: how the low figures of a number to the base 128 are written and read. -/
namespace Go.Proofs.Ytpkgnpckolhjgag
namespace Wd

/-- The bytes of n, the low figure first; f bounds how many there are. -/
def varF : Nat → Nat → List UInt8
  | 0, _ => []
  | f + 1, n => if n < 128 then [UInt8.ofNat n] else UInt8.ofNat (n % 128 + 128) :: varF f (n / 128)

theorem varF_low (f n : Nat) (h : n < 128) : varF (f + 1) n = [UInt8.ofNat n] := by simp [varF, h]
theorem varF_high (f n : Nat) (h : ¬ n < 128) : varF (f + 1) n = UInt8.ofNat (n % 128 + 128) :: varF f (n / 128) := by simp [varF, h]

theorem div_lt_pow (f m : Nat) (h : m < 128 ^ (f + 1)) : m / 128 < 128 ^ f := by
  rw [Nat.pow_succ] at h; exact Nat.div_lt_of_lt_mul (by rw [Nat.mul_comm]; exact h)

end Wd
end Go.Proofs.Ytpkgnpckolhjgag
