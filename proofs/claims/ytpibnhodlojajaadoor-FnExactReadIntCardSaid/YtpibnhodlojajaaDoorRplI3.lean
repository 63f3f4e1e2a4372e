/- The program's reader of replies: texts with their length, arrays, replies. -/
import Derived.Test.YtpibnhodlojajaaDoorRplI2
namespace Go.Proofs.YtpibnhodlojajaaDoor
open Go.RowKit

/-- The number on the line from a place on. -/
def numO (s : ByteArray) (i : Nat) : Option Int := if s.size ≤ crE s i then none else valI (s.extract i (crE s i))
theorem numO_bnd {s : ByteArray} {i : Nat} {v : Int} (h : numO s i = some v) : crE s i < s.size ∧ -9223372036854775808 ≤ v ∧ v ≤ 9223372036854775807 := by
  unfold numO at h
  split at h
  · cases h
  · refine ⟨by omega, ?_⟩
    unfold valI at h
    split at h
    · rename_i u hu
      split at h
      · obtain rfl : u = v := by simpa using h
        exact Lib.atoiAll_bounds hu
      · cases h
    · cases h
    · cases h

def bulkR (s : ByteArray) (i : Nat) : Option Nat := match numO s i with | none => none | some v => if v < -1 then none else if v = -1 then some (crE s i + 2) else bulkE s (crE s i + 2) v.toNat

/-- An array of replies: F tells where a reply in it ends (nothing may stand in it: none). -/
def arrR (s : ByteArray) (F : Option (Nat → Option Nat)) (i : Nat) : Option Nat := match numO s i with | none => none | some v => if v < 0 then none else match F with | none => none | some f => rpN f v.toNat (crE s i + 2)

end Go.Proofs.YtpibnhodlojajaaDoor
