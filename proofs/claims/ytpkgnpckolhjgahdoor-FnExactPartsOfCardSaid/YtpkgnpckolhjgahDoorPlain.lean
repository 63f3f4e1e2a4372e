/- Plain facts on figures to the base 16, without any program. -/
namespace Go.Proofs.YtpkgnpckolhjgahDoor
namespace Wd

/-- The byte at a place; 0 behind the end. -/
def bt (s : ByteArray) (p : Nat) : Nat := if h : p < s.size then (s[p]'h).toNat else 0
theorem bt_eq (s : ByteArray) (p : Nat) (h : p < s.size) : (s[p]'h).toNat = bt s p := by simp [bt, h]
theorem bt_lt (s : ByteArray) (p : Nat) : bt s p < 256 := by unfold bt; split; exact UInt8.toNat_lt _; omega

/-- The figure of x as a number. -/
def figI (x : Int) : Int := if x < 10 then 48 + x else 87 + x
theorem figI_low (x : Int) (h : x < 10) : figI x = 48 + x := by simp [figI, h]
theorem figI_high (x : Int) (h : ¬ x < 10) : figI x = 87 + x := by simp [figI, h]
theorem figI_bd (x : Int) (h0 : 0 ≤ x) (h1 : x < 16) : 48 ≤ figI x ∧ figI x ≤ 102 := by unfold figI; split <;> omega

/-- The figure of x as a byte. -/
def figB (x : Nat) : UInt8 := UInt8.ofNat (figI x).toNat
theorem figB_val (x : Nat) (h : x < 16) : ((figB x).toNat : Int) = figI x := by
  have := figI_bd x (by omega) (by omega)
  simp only [figB, UInt8.toNat_ofNat']
  omega

/-- The figures of the first k bytes of s. -/
def hexF (s : ByteArray) : Nat → List UInt8
  | 0 => []
  | k + 1 => hexF s k ++ [figB (bt s k / 16), figB (bt s k % 16)]
theorem hexF_length (s : ByteArray) : ∀ k, (hexF s k).length = 2 * k
  | 0 => rfl
  | k + 1 => by simp [hexF, hexF_length s k]; omega
end Wd
end Go.Proofs.YtpkgnpckolhjgahDoor
