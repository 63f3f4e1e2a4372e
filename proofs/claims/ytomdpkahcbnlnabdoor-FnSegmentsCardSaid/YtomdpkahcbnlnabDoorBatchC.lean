/- The specification's reader of batches: its cursor. -/
import Derived.Test.YtomdpkahcbnlnabDoorOne
import Derived.Deep.RegionHeld3
namespace Go.Proofs.YtomdpkahcbnlnabDoor
open Go.RowKit

/-- A number is read. -/
def varC (t : ByteArray) (i : Nat) (bad : Bool) : Nat × Nat × Bool :=
  match bad, Wd.rv t i with
  | false, some (n, p) => (n, p, false)
  | _, _ => (0, i, true)
/-- A piece is taken. -/
def takeC (t : ByteArray) (n i : Nat) (bad : Bool) : ByteArray × Nat × Bool :=
  if bad = true ∨ t.size < i + n then (⟨#[]⟩, i, true) else (t.extract i (i + n), i + n, false)
/-- A short text is read. -/
def shortC (t : ByteArray) (i : Nat) (bad : Bool) : ByteArray × Nat × Bool := takeC t (varC t i bad).1 (varC t i bad).2.1 (varC t i bad).2.2

theorem varC_le {t : ByteArray} {i : Nat} (bad : Bool) (h : i ≤ t.size) : (varC t i bad).2.1 ≤ t.size ∧ (varC t i bad).1 ≤ 1000000000 := by
  unfold varC
  split
  · rename_i n p hr
    have := Wd.rv_bounds t i n p hr
    exact ⟨this.2.2, this.1⟩
  · exact ⟨h, Nat.zero_le _⟩
theorem takeC_le {t : ByteArray} {n i : Nat} (bad : Bool) (h : i ≤ t.size) : (takeC t n i bad).2.1 ≤ t.size ∧ (takeC t n i bad).1.size ≤ t.size := by
  unfold takeC
  split
  · exact ⟨h, Nat.zero_le _⟩
  · rename_i hc
    rw [ByteArray.size_extract]
    exact ⟨show i + n ≤ t.size by omega, by omega⟩

end Go.Proofs.YtomdpkahcbnlnabDoor
