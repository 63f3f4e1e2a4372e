/- Plain facts on numbers, figures and decimals as bytes, without any program. -/
namespace Go.Proofs.Ytpibnhodlojajaa
namespace Wd
/-- The byte at a place; 0 behind the end. -/
def bt (s : ByteArray) (p : Nat) : Nat := if h : p < s.size then (s[p]'h).toNat else 0
theorem bt_eq (s : ByteArray) (p : Nat) (h : p < s.size) : (s[p]'h).toNat = bt s p := by simp [bt, h]
theorem bt_lt (s : ByteArray) (p : Nat) : bt s p < 256 := by unfold bt; split; exact UInt8.toNat_lt _; omega


/-- The bytes of n, the low figure first; f bounds how many there are. -/
def varF : Nat → Nat → List UInt8
  | 0, _ => []
  | f + 1, n => if n < 128 then [UInt8.ofNat n] else UInt8.ofNat (n % 128 + 128) :: varF f (n / 128)

theorem varF_low (f n : Nat) (h : n < 128) : varF (f + 1) n = [UInt8.ofNat n] := by simp [varF, h]
theorem varF_high (f n : Nat) (h : ¬ n < 128) : varF (f + 1) n = UInt8.ofNat (n % 128 + 128) :: varF f (n / 128) := by simp [varF, h]

theorem div_lt_pow (f m : Nat) (h : m < 128 ^ (f + 1)) : m / 128 < 128 ^ f := by
  rw [Nat.pow_succ] at h; exact Nat.div_lt_of_lt_mul (by rw [Nat.mul_comm]; exact h)


/-- The number that stands in s from the place p on: f bytes more may belong to it, k have been read and came to n, each further figure counts q times. -/
def rvF (s : ByteArray) : Nat → Nat → Nat → Nat → Nat → Option (Nat × Nat)
  | 0, _, _, _, _ => none
  | f + 1, p, k, q, n =>
    if p < s.size then
      (if bt s p < 128 then (if n + bt s p % 128 * q ≤ 1000000000 ∧ (0 < bt s p ∨ k = 0) then some (n + bt s p % 128 * q, p + 1) else none)
       else rvF s f (p + 1) (k + 1) (q * 128) (n + bt s p % 128 * q))
    else none

theorem rvF_end (s : ByteArray) (f p k q n : Nat) (h : ¬ p < s.size) : rvF s f p k q n = none := by
  cases f <;> simp [rvF, h]
theorem rvF_more (s : ByteArray) (f p k q n : Nat) (h : p < s.size) (hb : ¬ bt s p < 128) : rvF s (f + 1) p k q n = rvF s f (p + 1) (k + 1) (q * 128) (n + bt s p % 128 * q) := by
  simp [rvF, h, hb]
theorem rvF_last (s : ByteArray) (f p k q n : Nat) (h : p < s.size) (hb : bt s p < 128) (hn : n + bt s p % 128 * q ≤ 1000000000) (hk : 0 < bt s p ∨ k = 0) : rvF s (f + 1) p k q n = some (n + bt s p % 128 * q, p + 1) := by
  simp only [rvF, if_pos h, if_pos hb, if_pos (And.intro hn hk)]
theorem rvF_not (s : ByteArray) (f p k q n : Nat) (hb : bt s p < 128) (hn : ¬ (n + bt s p % 128 * q ≤ 1000000000 ∧ (0 < bt s p ∨ k = 0))) : rvF s (f + 1) p k q n = none := by
  by_cases h : p < s.size
  · simp only [rvF, if_pos h, if_pos hb, if_neg hn]
  · exact rvF_end _ _ _ _ _ _ h

theorem rvF_moreB {s : ByteArray} {f p k q n b : Nat} (hB : bt s p = b) (h : p < s.size) (hb : ¬ b < 128) : rvF s (f + 1) p k q n = rvF s f (p + 1) (k + 1) (q * 128) (n + b % 128 * q) := by
  subst hB; exact rvF_more s f p k q n h hb
theorem rvF_lastB {s : ByteArray} {f p k q n b : Nat} (hB : bt s p = b) (h : p < s.size) (hb : b < 128) (hn : n + b % 128 * q ≤ 1000000000) (hk : 0 < b ∨ k = 0) : rvF s (f + 1) p k q n = some (n + b % 128 * q, p + 1) := by
  subst hB; exact rvF_last s f p k q n h hb hn hk
theorem rvF_notB {s : ByteArray} {f p k q n b : Nat} (hB : bt s p = b) (hb : b < 128) (hn : ¬ (n + b % 128 * q ≤ 1000000000 ∧ (0 < b ∨ k = 0))) : rvF s (f + 1) p k q n = none := by
  subst hB; exact rvF_not s f p k q n hb hn

/-- What is read of the number at the place 'at'. -/
def rv (s : ByteArray) (i : Nat) : Option (Nat × Nat) := rvF s 5 i 0 1 0


/-- What k figures from the place i on come to. -/
def valF (s : ByteArray) : Nat → Nat → Nat
  | _, 0 => 0
  | i, k + 1 => bt s i % 128 + 128 * valF s (i + 1) k

/-- k bytes from the place i on. -/
def subF (s : ByteArray) : Nat → Nat → List UInt8
  | _, 0 => []
  | i, k + 1 => UInt8.ofNat (bt s i) :: subF s (i + 1) k

theorem subF_length (s : ByteArray) : ∀ k i, (subF s i k).length = k
  | 0, _ => rfl
  | k + 1, i => by simp [subF, subF_length s k (i + 1)]

theorem valF_snoc (s : ByteArray) : ∀ k i, valF s i (k + 1) = valF s i k + bt s (i + k) % 128 * 128 ^ k
  | 0, i => by simp [valF]
  | k + 1, i => by
    rw [valF, valF_snoc s k (i + 1), valF, Nat.pow_succ, show i + 1 + k = i + (k + 1) from by omega, Nat.mul_add, ← Nat.mul_assoc, Nat.mul_comm 128 (bt s (i + (k + 1)) % 128), Nat.mul_assoc, Nat.mul_comm 128 (128 ^ k), Nat.add_assoc]

theorem valF_zero (s : ByteArray) (k i : Nat) (h : valF s i (k + 1) = 0) : bt s (i + k) % 128 = 0 := by
  rw [valF_snoc] at h
  have h1 : bt s (i + k) % 128 * 128 ^ k = 0 := by omega
  rcases Nat.mul_eq_zero.1 h1 with h2 | h2
  · exact h2
  · have := Nat.pow_pos (n := k) (show 0 < 128 by omega); omega

theorem canonF (s : ByteArray) : ∀ k i f, (∀ j, j < k → 128 ≤ bt s (i + j)) → bt s (i + k) < 128 → k < f → (varF f (valF s i (k + 1)) = subF s i (k + 1) ↔ (0 < bt s (i + k) ∨ k = 0))
  | 0, i, f, _, hb, hf => by
    obtain ⟨g, rfl⟩ : ∃ g, f = g + 1 := ⟨f - 1, by omega⟩
    have hb' : bt s i < 128 := hb
    have hv : valF s i (0 + 1) = bt s i := by simp [valF]; omega
    rw [hv, varF_low g _ hb']
    simp [subF]
  | k + 1, i, f, hj, hb, hf => by
    obtain ⟨g, rfl⟩ : ∃ g, f = g + 1 := ⟨f - 1, by omega⟩
    have hc : 128 ≤ bt s i := hj 0 (by omega)
    have hc2 := bt_lt s i
    have ih := canonF s k (i + 1) g (fun j hjk => by have := hj (j + 1) (by omega); rw [show i + 1 + j = i + (j + 1) from by omega]; exact this) (by rw [show i + 1 + k = i + (k + 1) from by omega]; exact hb) (by omega)
    rw [show i + 1 + k = i + (k + 1) from by omega] at ih
    have hv : valF s i (k + 1 + 1) = bt s i % 128 + 128 * valF s (i + 1) (k + 1) := rfl
    have hs : subF s i (k + 1 + 1) = UInt8.ofNat (bt s i) :: subF s (i + 1) (k + 1) := rfl
    rw [hv, hs]
    by_cases hV : valF s (i + 1) (k + 1) = 0
    · have hz := valF_zero s k (i + 1) hV
      rw [show i + 1 + k = i + (k + 1) from by omega] at hz
      rw [varF_low g _ (by omega)]
      constructor
      · intro h
        have := congrArg List.length h
        simp [subF_length] at this
      · intro h; omega
    · rw [varF_high g _ (by omega), show (bt s i % 128 + 128 * valF s (i + 1) (k + 1)) % 128 + 128 = bt s i from by omega, show (bt s i % 128 + 128 * valF s (i + 1) (k + 1)) / 128 = valF s (i + 1) (k + 1) from by omega]
      constructor
      · intro h
        have h2 := ih.1 (List.cons.inj h).2
        rcases h2 with h2 | h2
        · exact .inl h2
        · subst h2
          have e : valF s (i + 1) (0 + 1) = bt s (i + 1) % 128 := by simp [valF]
          rw [e] at hV
          left; show 0 < bt s (i + 1); omega
      · intro h
        rw [ih.2 (by omega)]

theorem subF_extract (s : ByteArray) (i k : Nat) (h : i + k ≤ s.size) : (s.extract i (i + k)).data.toList = subF s i k := by
  apply List.ext_getElem
  · simp [subF_length]
    have : s.data.size = s.size := rfl
    omega
  · intro n h1 h2
    rw [subF_length] at h2
    have key : ∀ k i n (hn : n < k) (hk : i + k ≤ s.size), (subF s i k)[n]'(by rw [subF_length]; exact hn) = s[i + n]'(by omega) := by
      intro k
      induction k with
      | zero => intro i n hn; omega
      | succ k ih =>
        intro i n hn hk
        cases n with
        | zero =>
          have := bt_eq s i (by omega)
          simp [subF, ← this]
        | succ n =>
          have := ih (i + 1) n (by omega) (by omega)
          simp only [subF, List.getElem_cons_succ, this]
          congr 1; omega
    rw [key k i n h2 h]
    simp
    rfl


/-- The figure of x as a number. -/
def figI (x : Int) : Int := if x < 10 then 48 + x else 87 + x
theorem figI_low (x : Int) (h : x < 10) : figI x = 48 + x := by simp [figI, h]
theorem figI_high (x : Int) (h : ¬ x < 10) : figI x = 87 + x := by simp [figI, h]
theorem figI_bd (x : Int) (h0 : 0 ≤ x) (h1 : x < 16) : 48 ≤ figI x ∧ figI x ≤ 102 := by unfold figI; split <;> omega

/-- The figure of x as a byte. -/
def figB (x : Nat) : UInt8 := UInt8.ofNat (figI x).toNat
theorem figB_val (x : Nat) (h : x < 16) : ((figB x).toNat : Int) = figI x := by
  have := figI_bd x (by omega) (by omega)
  simp only [figB, UInt8.toNat_ofNat']
  omega

/-- The figures of the first k bytes of s. -/
def hexF (s : ByteArray) : Nat → List UInt8
  | 0 => []
  | k + 1 => hexF s k ++ [figB (bt s k / 16), figB (bt s k % 16)]
theorem hexF_length (s : ByteArray) : ∀ k, (hexF s k).length = 2 * k
  | 0 => rfl
  | k + 1 => by simp [hexF, hexF_length s k]; omega

/-- What a byte stands for as a figure; -1 when it is none. -/
def valI (x : Nat) : Int := if 48 ≤ x ∧ x ≤ 57 then (x : Int) - 48 else if 97 ≤ x ∧ x ≤ 102 then (x : Int) - 87 else -1
theorem valI_bd (x : Nat) : -1 ≤ valI x ∧ valI x < 16 := by unfold valI; split <;> (try split) <;> omega
theorem valI_iff (x j : Nat) (h : j < 16) : figI (j : Int) = (x : Int) ↔ valI x = (j : Int) := by
  unfold figI valI
  by_cases h1 : (j : Int) < 10
  · rw [if_pos h1]
    by_cases h2 : 48 ≤ x ∧ x ≤ 57
    · rw [if_pos h2]; omega
    · rw [if_neg h2]
      by_cases h3 : 97 ≤ x ∧ x ≤ 102
      · rw [if_pos h3]; omega
      · rw [if_neg h3]; omega
  · rw [if_neg h1]
    by_cases h2 : 48 ≤ x ∧ x ≤ 57
    · rw [if_pos h2]; omega
    · rw [if_neg h2]
      by_cases h3 : 97 ≤ x ∧ x ≤ 102
      · rw [if_pos h3]; omega
      · rw [if_neg h3]; omega

/-- The byte at p is a figure to the base c. -/
def isFig (s : ByteArray) (c : Int) (p : Nat) : Prop := 0 ≤ valI (bt s p) ∧ valI (bt s p) < c

/-- What the first k bytes stand for. -/
def valsF (s : ByteArray) : Nat → List UInt8
  | 0 => []
  | k + 1 => valsF s k ++ [UInt8.ofNat (valI (bt s k)).toNat]
theorem valsF_length (s : ByteArray) : ∀ k, (valsF s k).length = k
  | 0 => rfl
  | k + 1 => by simp [valsF, valsF_length s k]
theorem valsF_get (s : ByteArray) : ∀ k p, p < k → (valsF s k)[p]? = some (UInt8.ofNat (valI (bt s p)).toNat)
  | 0, p, h => absurd h (by omega)
  | k + 1, p, h => by
    by_cases hp : p < k
    · rw [valsF, List.getElem?_append_left (by rw [valsF_length]; exact hp), valsF_get s k p hp]
    · have : p = k := by omega
      subst this
      rw [valsF, List.getElem?_append_right (by rw [valsF_length]; omega), valsF_length]
      simp

/-- The bytes that the first 2 m figures stand for. -/
def unF (s : ByteArray) : Nat → List UInt8
  | 0 => []
  | m + 1 => unF s m ++ [UInt8.ofNat (16 * valI (bt s (2 * m)) + valI (bt s (2 * m + 1))).toNat]
theorem unF_length (s : ByteArray) : ∀ k, (unF s k).length = k
  | 0 => rfl
  | k + 1 => by simp [unF, unF_length s k]

/-- The decimal figures of n ahead of acc; f bounds how many there are. -/
def decA : Nat → Nat → List UInt8 → List UInt8
  | 0, _, acc => acc
  | f + 1, n, acc => if n = 0 then acc else decA f (n / 10) (figB (n % 10) :: acc)
theorem decA_zero (f : Nat) (acc : List UInt8) : decA f 0 acc = acc := by cases f <;> simp [decA]
theorem decA_step (f n : Nat) (acc : List UInt8) (h : n ≠ 0) : decA (f + 1) n acc = decA f (n / 10) (figB (n % 10) :: acc) := by simp [decA, h]

/-- The decimal text of n. -/
def decS (n : Int) : List UInt8 := if n = 0 then [48] else if n < 0 then 45 :: decA 20 n.natAbs [] else decA 20 n.natAbs []

theorem decA_length : ∀ f n acc m, n < 10 ^ m → (decA f n acc).length ≤ acc.length + m
  | 0, n, acc, m, _ => by simp [decA]
  | f + 1, n, acc, m, h => by
    by_cases h0 : n = 0
    · subst h0; rw [decA_zero]; omega
    · rw [decA_step f n acc h0]
      cases m with
      | zero => simp at h; omega
      | succ m =>
        have := decA_length f (n / 10) (figB (n % 10) :: acc) m (Nat.div_lt_of_lt_mul (by rw [Nat.mul_comm, ← Nat.pow_succ]; exact h))
        simp at this
        omega

/-- What the first k decimal figures come to. -/
def numF (s : ByteArray) : Nat → Nat
  | 0 => 0
  | k + 1 => 10 * numF s k + (bt s k - 48)

def digs (s : ByteArray) (k : Nat) : Prop := ∀ p, p < k → 48 ≤ bt s p ∧ bt s p ≤ 57

theorem numF_lt (s : ByteArray) : ∀ k, digs s k → numF s k < 10 ^ k
  | 0, _ => by simp [numF]
  | k + 1, h => by
    have ih := numF_lt s k (fun p hp => h p (by omega))
    have := h k (by omega)
    rw [numF, Nat.pow_succ]
    omega
theorem numF_lead (s : ByteArray) (h0 : bt s 0 = 48) : ∀ k, digs s (k + 1) → numF s (k + 1) < 10 ^ k
  | 0, _ => by simp [numF, h0]
  | k + 1, h => by
    have ih := numF_lead s h0 k (fun p hp => h p (by omega))
    have := h (k + 1) (by omega)
    rw [numF, Nat.pow_succ]
    omega
theorem numF_pos (s : ByteArray) (h0 : bt s 0 ≠ 48) : ∀ k, digs s (k + 1) → 0 < numF s (k + 1)
  | 0, h => by have := h 0 (by omega); simp [numF]; omega
  | k + 1, h => by
    have ih := numF_pos s h0 k (fun p hp => h p (by omega))
    rw [numF]; omega

/-- The bytes from the place k on, n of them. -/
def tl (s : ByteArray) : Nat → Nat → List UInt8
  | _, 0 => []
  | k, n + 1 => UInt8.ofNat (bt s k) :: tl s (k + 1) n
theorem tl_length (s : ByteArray) : ∀ n k, (tl s k n).length = n
  | 0, _ => rfl
  | n + 1, k => by simp [tl, tl_length s n (k + 1)]

theorem figB_digit (s : ByteArray) (k : Nat) (h : 48 ≤ bt s k ∧ bt s k ≤ 57) : figB (bt s k - 48) = UInt8.ofNat (bt s k) := by
  unfold figB
  rw [figI_low _ (by omega)]
  congr 1
  omega

theorem decA_back (s : ByteArray) (L : Nat) (hd : digs s L) (h0 : bt s 0 ≠ 48) : ∀ k f, k ≤ L → k ≤ f → decA f (numF s k) (tl s k (L - k)) = tl s 0 L
  | 0, f, _, _ => by simp [numF, decA_zero]
  | k + 1, f, hk, hf => by
    obtain ⟨g, rfl⟩ : ∃ g, f = g + 1 := ⟨f - 1, by omega⟩
    have hp := numF_pos s h0 k (fun p hp => hd p (by omega))
    have hdk := hd k (by omega)
    rw [decA_step g _ _ (by omega)]
    have e1 : numF s (k + 1) / 10 = numF s k := by rw [numF]; omega
    have e2 : numF s (k + 1) % 10 = bt s k - 48 := by rw [numF]; omega
    rw [e1, e2, figB_digit s k hdk]
    have e3 : UInt8.ofNat (bt s k) :: tl s (k + 1) (L - (k + 1)) = tl s k (L - k) := by
      rw [show L - k = (L - (k + 1)) + 1 from by omega]; rfl
    rw [e3]
    exact decA_back s L hd h0 k g (by omega) (by omega)

theorem tl_all (s : ByteArray) : tl s 0 s.size = s.data.toList := by
  have key : ∀ n k p (hp : p < n) (hk : k + n ≤ s.size), (tl s k n)[p]'(by rw [tl_length]; exact hp) = s[k + p]'(by omega) := by
    intro n
    induction n with
    | zero => intro k p hp; omega
    | succ n ih =>
      intro k p hp hk
      cases p with
      | zero =>
        have := bt_eq s k (by omega)
        simp [tl, ← this]
      | succ p =>
        have := ih (k + 1) p (by omega) (by omega)
        simp only [tl, List.getElem_cons_succ, this]
        congr 1; omega
  apply List.ext_getElem
  · rw [tl_length]; rfl
  · intro p h1 h2
    rw [tl_length] at h1
    rw [key s.size 0 p h1 (by omega)]
    simp
    rfl

/-- Just a number without needless noughts is its own decimal text. -/
theorem dec_canon (s : ByteArray) (hd : digs s s.size) (h10 : s.size ≤ 10) : decS (numF s s.size) = s.data.toList ↔ (s.size ≠ 0 ∧ (s.size = 1 ∨ bt s 0 ≠ 48)) := by
  rw [← tl_all]
  generalize hL : s.size = L at *
  constructor
  · intro h
    have hlen := congrArg List.length h
    rw [tl_length] at hlen
    cases L with
    | zero => simp [numF, decS] at hlen
    | succ k =>
      refine ⟨by omega, ?_⟩
      by_cases h0 : bt s 0 = 48
      · left
        have hb := numF_lead s h0 k hd
        by_cases hz : numF s (k + 1) = 0
        · rw [hz] at hlen; simp [decS] at hlen; omega
        · have := decA_length 20 (numF s (k + 1)) [] k hb
          have e : decS (numF s (k + 1)) = decA 20 (numF s (k + 1)) [] := by
            unfold decS; rw [if_neg (by omega), if_neg (by omega), Int.natAbs_natCast]
          rw [e] at hlen
          simp at this
          omega
      · exact .inr h0
  · rintro ⟨h1, h2⟩
    by_cases h0 : bt s 0 = 48
    · have : L = 1 := by omega
      subst this
      simp [numF, h0, decS, tl]
    · obtain ⟨k, rfl⟩ : ∃ k, L = k + 1 := ⟨L - 1, by omega⟩
      have hp := numF_pos s h0 k hd
      have e : decS (numF s (k + 1)) = decA 20 (numF s (k + 1)) [] := by
        unfold decS; rw [if_neg (by omega), if_neg (by omega), Int.natAbs_natCast]
      rw [e]
      have := decA_back s (k + 1) hd h0 (k + 1) 20 (Nat.le_refl _) (by omega)
      simpa [tl] using this
end Wd
end Go.Proofs.Ytpibnhodlojajaa
