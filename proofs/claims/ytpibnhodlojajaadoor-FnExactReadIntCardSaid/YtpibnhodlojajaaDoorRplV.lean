/- What a line tells as a number: the program's way and the specification's, where no ten figures stand in a row. -/
import Derived.Test.YtpibnhodlojajaaDoorRplS3
import Derived.Test.YtpibnhodlojajaaDoorDecP
import Derived.Lib.AtoiTie
namespace Go.Proofs.YtpibnhodlojajaaDoor
open Go.RowKit

def figR (b : Nat) : Bool := decide (48 ≤ b) && decide (b ≤ 57)
theorem figR_yes {b : Nat} (h : 48 ≤ b ∧ b ≤ 57) : figR b = true := by unfold figR; simp; omega
theorem figR_is {b : Nat} (h : figR b = true) : 48 ≤ b ∧ b ≤ 57 := by unfold figR at h; simpa using h
/-- No ten figures stand in a row. -/
def NoTen (s : ByteArray) : Prop := ∀ i, i + 10 ≤ s.size → ∃ p, i ≤ p ∧ p < i + 10 ∧ figR (Wd.bt s p) = false
theorem noTen_cut {s : ByteArray} (h : NoTen s) (a b : Nat) : NoTen (s.extract a b) := by
  intro i hi
  rw [ByteArray.size_extract] at hi
  obtain ⟨p, h1, h2, h3⟩ := h (a + i) (by omega)
  refine ⟨p - a, by omega, by omega, ?_⟩
  have hp : p - a < (s.extract a b).size := by rw [ByteArray.size_extract]; omega
  have e : Wd.bt (s.extract a b) (p - a) = Wd.bt s p := by
    rw [← Wd.bt_eq _ _ hp, ← Wd.bt_eq s p (by omega), ByteArray.getElem_extract]
    congr 2
    omega
  rw [e]
  exact h3

theorem decFrom_app (b : List UInt8) : ∀ (a : List UInt8) (acc : Nat), Lib.decFrom acc (a ++ b) = match Lib.decFrom acc a with | some m => Lib.decFrom m b | none => none
  | [], acc => by simp [Lib.decFrom]
  | c :: a, acc => by
    simp only [List.cons_append, Lib.decFrom]
    cases Lib.digitVal c with
    | none => rfl
    | some d => exact decFrom_app b a _
theorem decFrom_digits : ∀ n, Lib.decFrom 0 (Lib.decDigits n) = some n := by
  intro n
  induction n using Nat.strongRecOn with
  | _ n ih =>
    have hd : ∀ m, m < 10 → Lib.digitVal (UInt8.ofNat (48 + m)) = some m := fun m hm => by
      unfold Lib.digitVal
      have : (UInt8.ofNat (48 + m)).toNat = 48 + m := by simp; omega
      rw [this, if_pos (by omega)]
      congr 1
      omega
    by_cases h : n < 10
    · rw [Lib.decDigits_one h]
      simp only [Lib.decFrom, hd n h]
      simp
    · have e : Lib.decDigits n = Lib.decDigits (n / 10) ++ [UInt8.ofNat (48 + n % 10)] := by
        conv => lhs; rw [Lib.decDigits, dif_neg h]
      rw [e, decFrom_app, ih (n / 10) (by omega)]
      simp only [Lib.decFrom, hd (n % 10) (by omega)]
      congr 1
      omega
theorem digits_ne (n : Nat) : Lib.decDigits n ≠ [] := fun e => by
  have := (dec_facts n).2.2.1
  rw [e] at this
  simp at this
theorem decNat_digits (n : Nat) : Lib.decNat (Lib.decDigits n) = some n := by
  unfold Lib.decNat
  rw [if_neg (by simpa using digits_ne n)]
  exact decFrom_digits n
theorem digits_head (n : Nat) : ∃ b r, Lib.decDigits n = b :: r ∧ 48 ≤ b.toNat ∧ b.toNat ≤ 57 := by
  cases h : Lib.decDigits n with
  | nil => exact absurd h (digits_ne n)
  | cons b r =>
    have hf := (dec_facts n).1 0 (dec_facts n).2.2.1
    rw [h, bt_list (b :: r) 0 (by simp)] at hf
    exact ⟨b, r, rfl, hf⟩
theorem atoi_itoa (v : Int) : Lib.atoi (Lib.itoa v) = some v := by
  by_cases h : v < 0
  · obtain ⟨m, hm⟩ := Int.eq_ofNat_of_zero_le (show 0 ≤ -v by omega)
    have e : Lib.itoa v = 45 :: Lib.decDigits m := by
      unfold Lib.itoa
      rw [if_pos h]
      congr 2
      omega
    rw [e]
    simp only [Lib.atoi, decNat_digits]
    simp
    omega
  · obtain ⟨m, rfl⟩ := Int.eq_ofNat_of_zero_le (show 0 ≤ v by omega)
    rw [Lib.itoa_nonneg]
    obtain ⟨b, r, hb, h1, h2⟩ := digits_head m
    have hd := decNat_digits m
    rw [hb] at hd ⊢
    have n45 : (b == 45) = false := by rw [beq_eq_false_iff_ne]; intro e; subst e; revert h1; decide
    have n43 : (b == 43) = false := by rw [beq_eq_false_iff_ne]; intro e; subst e; revert h1; decide
    simp only [Lib.atoi, n45, n43, hd]
    simp
theorem decS_itoa2 (v : Int) (h0 : -9223372036854775808 ≤ v) (h1 : v ≤ 9223372036854775807) : (numB v).data.toList = Lib.itoa v := (Wd.decS_itoa v h0 h1).symm
theorem itoa_len (v : Int) (h0 : -1000000000 ≤ v) (h1 : v ≤ 1000000000) : (Lib.itoa v).length ≤ 11 := by
  by_cases h : v < 0
  · have e : Lib.itoa v = 45 :: Lib.decDigits v.natAbs := by unfold Lib.itoa; rw [if_pos h]
    have := dec_len 9 v.natAbs (by omega)
    rw [e, List.length_cons]
    omega
  · have e : Lib.itoa v = Lib.decDigits v.toNat := by unfold Lib.itoa; rw [if_neg h]
    have := dec_len 9 v.toNat (by omega)
    rw [e]
    omega
/-- A number's text tells it. -/
theorem valI_num (v : Int) (h0 : -1000000000 ≤ v) (h1 : v ≤ 1000000000) : valI (numB v) = some v := by
  unfold valI
  rw [decS_itoa2 v (by omega) (by omega), Lib.atoiAll_short _ (by have := itoa_len v h0 h1; omega), atoi_itoa]
  simp only [Lib.NumEnd.ofOption]
  rfl
theorem valI_text {l : ByteArray} {v : Int} (h : valI l = some v) : l = numB v ∧ -9223372036854775808 ≤ v ∧ v ≤ 9223372036854775807 := by
  unfold valI at h
  split at h
  · rename_i u hu
    split at h
    · rename_i hl
      obtain rfl : u = v := by simpa using h
      exact ⟨hl, Lib.atoiAll_bounds hu⟩
    · cases h
  · cases h
  · cases h
theorem valS_text {l : ByteArray} {v : Int} (h : valS l = some v) : l = numB v ∧ -1000000000 ≤ v ∧ v ≤ 1000000000 := by
  unfold valS at h
  cases hd : decV l with
  | some n =>
    rw [hd] at h
    obtain rfl : (n : Int) = v := by simpa using h
    have := decV_text hd
    exact ⟨this.1, by omega, by omega⟩
  | none =>
    rw [hd] at h
    simp only at h
    split at h
    · rename_i hc
      split at h
      · rename_i n hn
        obtain rfl : -(n : Int) = v := by simpa using h
        have e := tail_text hc.1 hc.2.1 hn
        have hb := (decV_text hn).2.1
        have h0 : n ≠ 0 := fun e0 => by subst e0; exact hc.2.2 e
        refine ⟨?_, by omega, by omega⟩
        rw [e]
        have e1 : Wd.decS (n : Int) = Lib.decDigits n := decS_nat n hb
        have e2 : Wd.decS (-(n : Int)) = 45 :: Lib.decDigits n := by
          rw [← Wd.decS_itoa _ (by omega) (by omega)]
          unfold Lib.itoa
          rw [if_pos (by omega)]
          congr 2
          omega
        show _ = (⟨(Wd.decS (-(n : Int))).toArray⟩ : ByteArray)
        rw [e1, e2]
      · cases h
    · cases h
/-- Nine figures at most, and no needless nought: a number. -/
theorem decV_digits (m : Nat) (h : m ≤ 1000000000) : decV ⟨(Lib.decDigits m).toArray⟩ = some m := by
  obtain ⟨h1, h2, h3, h4⟩ := dec_facts m
  have hl := dec_len 9 m (by omega)
  have hs : (⟨(Lib.decDigits m).toArray⟩ : ByteArray).size = (Lib.decDigits m).length := rfl
  have hl0 : (Lib.decDigits m).length = 1 ∨ Wd.bt ⟨(Lib.decDigits m).toArray⟩ 0 ≠ 48 := by
    by_cases h0 : 0 < m
    · exact .inr (h4 h0)
    · left
      rw [Lib.decDigits_one (by omega)]
      rfl
  have hg : Wd.good ⟨(Lib.decDigits m).toArray⟩ := ⟨by rw [hs]; omega, by rw [hs]; omega, by rw [hs]; exact h1, by rw [hs]; exact hl0, by rw [hs, h2]; exact h⟩
  unfold decV
  rw [if_pos hg, hs, h2]
theorem few_small (m k : Nat) (h : (Lib.decDigits m).length ≤ k) : m < 10 ^ k := by
  obtain ⟨h1, h2, -⟩ := dec_facts m
  have := Wd.numF_lt _ _ h1
  rw [h2] at this
  exact Nat.lt_of_lt_of_le this (Nat.pow_le_pow_right (by omega) h)
theorem val_same {l : ByteArray} (hn : NoTen l) : valS l = valI l := by
  cases hI : valI l with
  | some v =>
    obtain ⟨hl, hb0, hb1⟩ := valI_text hI
    have hL := decS_itoa2 v hb0 hb1
    by_cases h : v < 0
    · obtain ⟨m, hm⟩ := Int.eq_ofNat_of_zero_le (show 0 ≤ -v by omega)
      have e : Lib.itoa v = 45 :: Lib.decDigits m := by
        unfold Lib.itoa
        rw [if_pos h]
        congr 2
        omega
      have el : l = ⟨(45 :: Lib.decDigits m).toArray⟩ := by rw [hl, ← e, ← hL, back_txt]
      have hz : l.size = (Lib.decDigits m).length + 1 := by rw [el]; rfl
      have hd := (dec_facts m).1
      have hb : ∀ p, p < (Lib.decDigits m).length → Wd.bt l (p + 1) = Wd.bt ⟨(Lib.decDigits m).toArray⟩ p := fun p hp => by
        rw [el, bt_list _ (p + 1) (by simp; omega), bt_list _ p hp]
        simp
      have hs : (Lib.decDigits m).length ≤ 9 := by
        rcases Nat.lt_or_ge (Lib.decDigits m).length 10 with h9 | h9
        · omega
        · obtain ⟨p, p1, p2, p3⟩ := hn 1 (by omega)
          have := hb (p - 1) (by omega)
          rw [show p - 1 + 1 = p by omega] at this
          rw [this, figR_yes (hd (p - 1) (by omega))] at p3
          cases p3
      have hm9 := few_small m 9 hs
      have ht : l.extract 1 l.size = ⟨(Lib.decDigits m).toArray⟩ := by
        refine bt_ext (by rw [ByteArray.size_extract, hz]; show _ = (Lib.decDigits m).length; omega) fun p hp => ?_
        have hp' : p < (Lib.decDigits m).length := hp
        rw [bt_ex l 1 l.size p (by omega) (Nat.le_refl _), Nat.add_comm, hb p hp']
      have h45 : Wd.bt l 0 = 45 := by rw [el, bt_list _ 0 (by simp)]; rfl
      have hne : l ≠ ⟨#[45, 48]⟩ := fun e0 => by
        have h1 : (45 :: Lib.decDigits m) = [45, 48] := by
          have h2 := congrArg (fun x : ByteArray => x.data.toList) (el.symm.trans e0)
          simpa using h2
        have h3 : Lib.decDigits m = [48] := by simpa using h1
        have h4 := decFrom_digits m
        rw [h3] at h4
        have : Lib.decFrom 0 [48] = some 0 := by decide
        rw [this] at h4
        have : m = 0 := by simpa using h4.symm
        omega
      have hp := (dec_facts m).2.2.1
      unfold valS
      rw [decV_minus h45]
      simp only
      rw [if_pos ⟨by omega, h45, hne⟩, ht, decV_digits m (by omega)]
      simp only
      congr 1
      omega
    · obtain ⟨m, rfl⟩ := Int.eq_ofNat_of_zero_le (show 0 ≤ v by omega)
      rw [Lib.itoa_nonneg] at hL
      have el : l = ⟨(Lib.decDigits m).toArray⟩ := by rw [hl, ← hL, back_txt]
      have hd := (dec_facts m).1
      have hs : (Lib.decDigits m).length ≤ 9 := by
        rcases Nat.lt_or_ge (Lib.decDigits m).length 10 with h9 | h9
        · omega
        · obtain ⟨p, p1, p2, p3⟩ := hn 0 (by rw [el]; show 0 + 10 ≤ (Lib.decDigits m).length; omega)
          rw [el, figR_yes (hd p (by omega))] at p3
          cases p3
      have hm9 := few_small m 9 hs
      have hv : decV l = some m := by rw [el]; exact decV_digits m (by omega)
      unfold valS
      rw [hv]
  | none =>
    cases hS : valS l with
    | none => rfl
    | some v =>
      obtain ⟨hl, h0, h1⟩ := valS_text hS
      have := valI_num v h0 h1
      rw [← hl, hI] at this
      cases this
/-- Where no ten figures stand in a row, both tell the same replies. -/
theorem rpl_same {s : ByteArray} (h : NoTen s) : rpl valS s = rpl valI s := rplF_same (fun a b => val_same (noTen_cut h a b)) _ _
end Go.Proofs.YtpibnhodlojajaaDoor
