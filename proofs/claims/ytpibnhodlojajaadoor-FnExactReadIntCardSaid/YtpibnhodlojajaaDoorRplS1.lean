/- The specification's reader of replies: lines, and numbers on them. -/
import Derived.Test.YtpibnhodlojajaaDoorRplP
import Derived.Test.YtpibnhodlojajaaDoorReadDec
import Derived.Test.YtpibnhodlojajaaDoorCutAt
namespace Go.Proofs.YtpibnhodlojajaaDoor
open Go.RowKit

instance (s : ByteArray) : Decidable (Wd.good s) := by unfold Wd.good Wd.digs; infer_instance
/-- The number whose decimal text a line is. -/
def decV (l : ByteArray) : Option Nat := if Wd.good l then some (Wd.numF l l.size) else none
/-- The same, and numbers below nought. -/
def valS (l : ByteArray) : Option Int :=
  match decV l with
  | some n => some (n : Int)
  | none => if 1 < l.size ∧ Wd.bt l 0 = 45 ∧ l ≠ ⟨#[45, 48]⟩ then (match decV (l.extract 1 l.size) with | some n => some (-(n : Int)) | none => none) else none
theorem decV_minus {l : ByteArray} (h : Wd.bt l 0 = 45) : decV l = none := by
  unfold decV
  rw [if_neg]
  intro hg
  have := (hg.2.2.1 0 (by have := hg.1; omega)).1
  omega
theorem decV_text {l : ByteArray} {n : Nat} (h : decV l = some n) : l = ⟨(Wd.decS (n : Int)).toArray⟩ ∧ n ≤ 1000000000 ∧ l.size ≤ 10 := by
  unfold decV at h
  split at h
  · rename_i hg
    simp at h
    subst h
    have e := (Wd.dec_canon l hg.2.2.1 hg.2.1).2 ⟨hg.1, hg.2.2.2.1⟩
    exact ⟨by rw [e], hg.2.2.2.2, hg.2.1⟩
  · cases h
theorem tail_text {l : ByteArray} {n : Nat} (hz : 1 < l.size) (h0 : Wd.bt l 0 = 45) (h : decV (l.extract 1 l.size) = some n) : l = ⟨(45 :: Wd.decS (n : Int)).toArray⟩ := by
  have e := (decV_text h).1
  have hs : (l.extract 1 l.size).size = l.size - 1 := by rw [ByteArray.size_extract]; omega
  have hc : (⟨(45 :: Wd.decS (n : Int)).toArray⟩ : ByteArray) = ⟨#[45]⟩ ++ l.extract 1 l.size := by rw [e]; exact (cat_list [45] _).symm
  rw [hc]
  have h1 : (⟨#[45]⟩ : ByteArray).size = 1 := rfl
  refine bt_ext (by rw [ByteArray.size_append]; omega) fun p hp => ?_
  rw [ByteArray.size_append] at hp
  by_cases hp0 : p = 0
  · subst hp0
    rw [bt_left (by decide), h0]
    rfl
  · obtain ⟨q, rfl⟩ : ∃ q, p = (⟨#[45]⟩ : ByteArray).size + q := ⟨p - 1, by omega⟩
    rw [bt_right (by omega), bt_ex l 1 l.size q (by omega) (by omega)]
    rfl
theorem val_ways (l : ByteArray) : (∃ n : Nat, decV l = some n ∧ valS l = some (n : Int) ∧ l ≠ ⟨#[45, 49]⟩) ∨ (decV l = none ∧ ∃ n : Nat, 1 ≤ n ∧ valS l = some (-(n : Int)) ∧ (n = 1 ↔ l = ⟨#[45, 49]⟩)) ∨ (decV l = none ∧ valS l = none ∧ l ≠ ⟨#[45, 49]⟩) := by
  unfold valS
  cases hd : decV l with
  | some n =>
    refine .inl ⟨n, rfl, rfl, fun e => ?_⟩
    rw [decV_minus (by rw [e]; rfl)] at hd
    cases hd
  | none =>
    simp only
    by_cases hc : 1 < l.size ∧ Wd.bt l 0 = 45 ∧ l ≠ ⟨#[45, 48]⟩
    · rw [if_pos hc]
      cases ht : decV (l.extract 1 l.size) with
      | some n =>
        have e := tail_text hc.1 hc.2.1 ht
        refine .inr (.inl ⟨by trivial, n, ?_, rfl, ?_⟩)
        · rcases Nat.eq_zero_or_pos n with h0 | h0
          · subst h0
            exact absurd e hc.2.2
          · exact h0
        · constructor
          · rintro rfl
            exact e
          · intro h1
            have hx : l.extract 1 l.size = ⟨#[49]⟩ := by rw [h1]; rfl
            rw [hx] at ht
            have : decV ⟨#[49]⟩ = some 1 := by decide
            rw [this] at ht
            simpa using ht.symm
      | none =>
        refine .inr (.inr ⟨by trivial, rfl, fun e => ?_⟩)
        rw [e] at ht
        have : decV ((⟨#[45, 49]⟩ : ByteArray).extract 1 (⟨#[45, 49]⟩ : ByteArray).size) = some 1 := by decide
        rw [this] at ht
        cases ht
    · rw [if_neg hc]
      refine .inr (.inr ⟨by trivial, rfl, fun e => hc ?_⟩)
      rw [e]
      decide

/-- What l12Line tells. -/
def crI (s : ByteArray) (i : Nat) : Int := if crE s i < s.size then (crE s i : Int) else -1
/-- What l12Whole tells. -/
def decI (l : ByteArray) : Int := match decV l with | some n => (n : Int) | none => -1
theorem decI_bnd (l : ByteArray) : -1 ≤ decI l ∧ decI l ≤ 1000000000 := by
  unfold decI
  cases h : decV l with
  | none => simp
  | some n => have := (decV_text h).2.1; simp; omega
theorem decI_some (l : ByteArray) : decide (0 ≤ decI l) = (decV l).isSome := by
  unfold decI
  cases decV l <;> simp

end Go.Proofs.YtpibnhodlojajaaDoor
