/- The number that a decimal text tells: the program's reader, and the law on ReadDecimal. -/
import Derived.Test.YtmmchemgegmhhaaGreatDoorReadDec
namespace Go.Proofs.YtmmchemgegmhhaaGreatDoor
open Go.RowKit

theorem val_dig (x : Nat) : (0 ≤ Wd.valI x ∧ Wd.valI x < 10) ↔ (48 ≤ x ∧ x ≤ 57) := by
  unfold Wd.valI
  by_cases h2 : 48 ≤ x ∧ x ≤ 57
  · rw [if_pos h2]; omega
  · rw [if_neg h2]
    by_cases h3 : 97 ≤ x ∧ x ≤ 102
    · rw [if_pos h3]; omega
    · rw [if_neg h3]; omega
theorem val_of_dig (x : Nat) (h : 48 ≤ x ∧ x ≤ 57) : Wd.valI x = (x : Int) - 48 := by unfold Wd.valI; rw [if_pos h]
theorem digs_iff (s : ByteArray) (k : Nat) : Wd.digs s k ↔ ∀ p, p < k → Wd.isFig s ((10 : Nat) : Int) p :=
  ⟨fun h p hp => (val_dig _).2 (h p hp), fun h p hp => (val_dig _).1 (h p hp)⟩

theorem notEmpty (s : ByteArray) (h : s.size ≠ 0) : s.toList.isEmpty = false := by
  rw [ByteArray.toList_eq]
  cases hl : s.data.toList with
  | nil => exact absurd (by have := congrArg List.length hl; simpa using this) h
  | cons a l => rfl

/-- What the reader answers of figures alone. -/
def decAns (s : ByteArray) : Value := if Wd.numF s s.size ≤ 1000000000 then .tuple #[.int .i64 (Wd.numF s s.size), .bool true] else .tuple #[.int .i64 0, .bool false]

theorem specDec_yes (s : ByteArray) (w : World) (hg : Wd.good s) :
    Calls Tryz.prog 189 #[.string s] w fun e w' => e = .returned (.tuple #[.int .i64 (Wd.numF s s.size), .bool true]) ∧ Below w.heap.size w w' := by
  refine (specDec_in s w hg.2.1).mono ?_
  rintro e w' ⟨hb, ⟨_, he⟩ | ⟨hno, _⟩⟩
  · exact ⟨he, hb⟩
  · exact absurd hg hno
theorem specDec_no (s : ByteArray) (w : World) (ws : s.size ≤ 1048576) (hno : ¬ Wd.good s) :
    Calls Tryz.prog 189 #[.string s] w fun e w' => e = .returned (.tuple #[.int .i64 0, .bool false]) ∧ Below w.heap.size w w' := by
  by_cases h : 10 < s.size
  · exact (specDec_long s w ws h).mono fun e w' ⟨he, hw⟩ => ⟨he, hw ▸ Below.refl _ _⟩
  · refine (specDec_in s w (by omega)).mono ?_
    rintro e w' ⟨hb, ⟨hg, _⟩ | ⟨_, he⟩⟩
    · exact absurd hg hno
    · exact ⟨he, hb⟩
end Go.Proofs.YtmmchemgegmhhaaGreatDoor
