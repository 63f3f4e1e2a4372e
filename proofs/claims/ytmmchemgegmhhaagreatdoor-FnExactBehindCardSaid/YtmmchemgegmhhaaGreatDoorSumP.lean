/- The check sum in plain numbers: halving, four halvings by a table, and that one byte that is another always shows. -/
import Derived.WalkKit
namespace Go.Proofs.YtmmchemgegmhhaaGreatDoor

def hv (s : Nat) : Nat := if s % 2 = 1 then s / 2 ^^^ 3558460437 else s / 2
def hvN : Nat → Nat → Nat
  | 0, s => s
  | k + 1, s => hvN k (hv s)
def sb (s b : Nat) : Nat := hvN 8 (s ^^^ b)
def sumL (s : Nat) (l : List UInt8) : Nat := l.foldl (fun s b => sb s b.toNat) s
def htab : List Nat := [0x00000000, 0x4589ac8d, 0x8b13591a, 0xce9af597, 0xbe152a1f, 0xfb9c8692, 0x35067305, 0x708fdf88, 0xd419cc15, 0x91906098, 0x5f0a950f, 0x1a833982, 0x6a0ce60a, 0x2f854a87, 0xe11fbf10, 0xa496139d]
def four (x : Nat) : List UInt8 := [UInt8.ofNat (x / 16777216), UInt8.ofNat (x / 65536), UInt8.ofNat (x / 256), UInt8.ofNat x]

theorem xor_lt32 {a b : Nat} (ha : a < 4294967296) (hb : b < 4294967296) : a ^^^ b < 4294967296 := Nat.xor_lt_two_pow (n := 32) ha hb

theorem hv_lt {s : Nat} (h : s < 4294967296) : hv s < 4294967296 := by
  unfold hv
  split
  · exact xor_lt32 (by omega) (by decide)
  · omega

theorem hv_xor (a b : Nat) : hv (a ^^^ b) = hv a ^^^ hv b := by
  unfold hv
  have h2 : (a ^^^ b) / 2 = a / 2 ^^^ b / 2 := Nat.xor_div_two
  have hm : (a ^^^ b) % 2 = (a + b) % 2 := by
    have e : (a ^^^ b) % 2 ^ 1 = a % 2 ^ 1 ^^^ b % 2 ^ 1 := Nat.xor_mod_two_pow
    simp only [Nat.pow_one] at e
    rw [e]
    rcases Nat.mod_two_eq_zero_or_one a with ha | ha <;> rcases Nat.mod_two_eq_zero_or_one b with hb | hb <;> rw [ha, hb] <;> simp [Nat.add_mod, ha, hb]
  rw [h2, hm]
  rcases Nat.mod_two_eq_zero_or_one a with ha | ha <;> rcases Nat.mod_two_eq_zero_or_one b with hb | hb <;> simp [Nat.add_mod, ha, hb]
  · rw [Nat.xor_assoc]
  · rw [Nat.xor_assoc, Nat.xor_comm (b / 2), Nat.xor_assoc]
  · rw [Nat.xor_comm (b / 2) 3558460437, ← Nat.xor_assoc, Nat.xor_assoc (a / 2), Nat.xor_self, Nat.xor_zero]

theorem hvN_xor (k : Nat) : ∀ a b, hvN k (a ^^^ b) = hvN k a ^^^ hvN k b := by
  induction k with
  | zero => intro a b; rfl
  | succ k ih => intro a b; show hvN k (hv (a ^^^ b)) = _; rw [hv_xor, ih]; rfl

theorem hvN_lt (k : Nat) : ∀ {s}, s < 4294967296 → hvN k s < 4294967296 := by
  induction k with
  | zero => intro s h; exact h
  | succ k ih => intro s h; exact ih (hv_lt h)

theorem xor_zero_eq {a b : Nat} (h : a ^^^ b = 0) : a = b := by
  have e := congrArg (· ^^^ b) h
  simpa [Nat.xor_assoc] using e

theorem hv_zero {x : Nat} (hx : x < 4294967296) (h : hv x = 0) : x = 0 := by
  unfold hv at h
  split at h
  · have := xor_zero_eq h; omega
  · omega

theorem hvN_zero (k : Nat) : ∀ {x}, x < 4294967296 → hvN k x = 0 → x = 0 := by
  induction k with
  | zero => intro x _ h; exact h
  | succ k ih => intro x hx h; exact hv_zero hx (ih (hv_lt hx) h)

theorem hvN_inj (k : Nat) {s t : Nat} (hs : s < 4294967296) (ht : t < 4294967296) (h : hvN k s = hvN k t) : s = t := by
  have e : hvN k (s ^^^ t) = 0 := by rw [hvN_xor, h, Nat.xor_self]
  exact xor_zero_eq (hvN_zero k (xor_lt32 hs ht) e)

theorem hv_even (q : Nat) : hv (2 * q) = q := by
  unfold hv
  rw [if_neg (by omega)]; omega

theorem hvN_16 (q : Nat) : hvN 4 (16 * q) = q := by
  show hv (hv (hv (hv (16 * q)))) = q
  rw [show 16 * q = 2 * (2 * (2 * (2 * q))) by omega]
  simp only [hv_even]

theorem htab_hv : ∀ r, r < 16 → hvN 4 r = htab.getD r 0 := by decide

theorem split16 (s : Nat) : s = 16 * (s / 16) ^^^ s % 16 := by
  apply Nat.eq_of_testBit_eq
  intro i
  rw [Nat.testBit_xor, show 16 * (s / 16) = 2 ^ 4 * (s / 2 ^ 4) from rfl, show s % 16 = s % 2 ^ 4 from rfl, Nat.testBit_mod_two_pow, Nat.testBit_two_pow_mul, Nat.testBit_div_two_pow]
  by_cases h : 4 ≤ i
  · have e : i - 4 + 4 = i := by omega
    simp [h, e, show ¬ i < 4 by omega]
  · simp [h, show i < 4 by omega]

theorem hvN_4 (s : Nat) : hvN 4 s = s / 16 ^^^ htab.getD (s % 16) 0 := by
  rw [show hvN 4 s = hvN 4 (16 * (s / 16) ^^^ s % 16) from congrArg _ (split16 s), hvN_xor, hvN_16, htab_hv _ (Nat.mod_lt _ (by decide))]

theorem hvN_8 (s : Nat) : hvN 8 s = hvN 4 s / 16 ^^^ htab.getD (hvN 4 s % 16) 0 := by
  rw [← hvN_4]; rfl

theorem htab_lt (r : Nat) : htab.getD r 0 < 4294967296 := by
  by_cases h : r < 16
  · revert h; revert r; decide
  · have e : htab.getD r 0 = 0 := by
      rw [List.getD_eq_getElem?_getD, List.getElem?_eq_none (by show 16 ≤ r; omega)]; rfl
    rw [e]; decide

theorem sb_lt {s b : Nat} (hs : s < 4294967296) (hb : b < 256) : sb s b < 4294967296 := hvN_lt 8 (xor_lt32 hs (by omega))

theorem sb_inj {s t b : Nat} (hs : s < 4294967296) (ht : t < 4294967296) (hb : b < 256) (h : sb s b = sb t b) : s = t := by
  have e := hvN_inj 8 (xor_lt32 hs (show b < 4294967296 by omega)) (xor_lt32 ht (show b < 4294967296 by omega)) h
  have e2 := congrArg (· ^^^ b) e
  simpa [Nat.xor_assoc] using e2

theorem sb_inj' {s b c : Nat} (hs : s < 4294967296) (hb : b < 256) (hc : c < 256) (h : sb s b = sb s c) : b = c := by
  have e := hvN_inj 8 (xor_lt32 hs (show b < 4294967296 by omega)) (xor_lt32 hs (show c < 4294967296 by omega)) h
  have e2 := congrArg (s ^^^ ·) e
  simpa [← Nat.xor_assoc] using e2

theorem byte_lt (b : UInt8) : b.toNat < 256 := b.toNat_lt

theorem sumL_lt (l : List UInt8) : ∀ {s}, s < 4294967296 → sumL s l < 4294967296 := by
  induction l with
  | nil => intro s h; exact h
  | cons b l ih => intro s h; exact ih (sb_lt h (byte_lt b))

theorem sumL_app (s : Nat) (a b : List UInt8) : sumL s (a ++ b) = sumL (sumL s a) b := List.foldl_append

theorem sumL_inj (l : List UInt8) : ∀ {s t}, s < 4294967296 → t < 4294967296 → sumL s l = sumL t l → s = t := by
  induction l with
  | nil => intro s t _ _ h; exact h
  | cons b l ih => intro s t hs ht h; exact sb_inj hs ht (byte_lt b) (ih (sb_lt hs (byte_lt b)) (sb_lt ht (byte_lt b)) h)

/-- One byte that is another makes another sum. -/
theorem sumL_set (l : List UInt8) : ∀ {s} (i : Nat) (h : i < l.length) (c : UInt8), s < 4294967296 → l[i] ≠ c → sumL s (l.set i c) ≠ sumL s l := by
  induction l with
  | nil => intro s i h; exact absurd h (by simp)
  | cons b l ih =>
    intro s i h c hs hc e
    cases i with
    | zero =>
      have := sumL_inj l (sb_lt hs (byte_lt c)) (sb_lt hs (byte_lt b)) e
      exact hc (UInt8.toNat_inj.1 (sb_inj' hs (byte_lt c) (byte_lt b) this)).symm
    | succ i => exact ih i (by simpa using h) c (sb_lt hs (byte_lt b)) (by simpa using hc) e

theorem four_inj {x y : Nat} (hx : x < 4294967296) (hy : y < 4294967296) (h : four x = four y) : x = y := by
  simp only [four, List.cons.injEq, and_true] at h
  obtain ⟨h1, h2, h3, h4⟩ := h
  have g1 := congrArg UInt8.toNat h1
  have g2 := congrArg UInt8.toNat h2
  have g3 := congrArg UInt8.toNat h3
  have g4 := congrArg UInt8.toNat h4
  simp at g1 g2 g3 g4
  omega

/-- A text with its sum behind it. -/
def sealL (l : List UInt8) : List UInt8 := l ++ four (sumL 4294967295 l)

theorem seal_length (l : List UInt8) : (sealL l).length = l.length + 4 := by simp [sealL, four]

/-- A sealed text with one byte that is another is the seal of no beginning of it. -/
theorem sealL_set (l : List UInt8) (i : Nat) (h : i < (sealL l).length) (c : UInt8) (hc : (sealL l)[i] ≠ c) : sealL (((sealL l).set i c).take l.length) ≠ (sealL l).set i c := by
  intro e
  have e0 : ((sealL l).set i c) = sealL (((sealL l).set i c).take l.length) := e.symm
  by_cases hi : i < l.length
  · have e1 : (sealL l).set i c = l.set i c ++ four (sumL 4294967295 l) := by
      simp [sealL, hi]
    rw [e1] at e
    have e2 : (l.set i c ++ four (sumL 4294967295 l)).take l.length = l.set i c := by
      rw [show l.length = (l.set i c).length by simp, List.take_left]
    rw [e2] at e
    have e3 := List.append_cancel_left (show l.set i c ++ four (sumL 4294967295 (l.set i c)) = _ from e)
    have e4 := four_inj (sumL_lt _ (by decide)) (sumL_lt _ (by decide)) e3
    refine sumL_set l i hi c (by decide) ?_ e4
    intro hh; apply hc
    simp [sealL, hi, hh]
  · have e1 : (sealL l).set i c = l ++ (four (sumL 4294967295 l)).set (i - l.length) c := by
      simp [sealL, List.set_append, hi]
    rw [e1] at e
    rw [List.take_left] at e
    have e3 := List.append_cancel_left (show l ++ four (sumL 4294967295 l) = _ from e)
    apply hc
    have hl : i - l.length < (four (sumL 4294967295 l)).length := by rw [seal_length] at h; simp [four]; omega
    have e4 : (four (sumL 4294967295 l))[i - l.length]'hl = ((four (sumL 4294967295 l)).set (i - l.length) c)[i - l.length]'(by simpa using hl) := by
      congr 1
    simp only [List.getElem_set_self] at e4
    rw [← e4]
    simp only [sealL]
    rw [List.getElem_append_right (by omega)]

end Go.Proofs.YtmmchemgegmhhaaGreatDoor
