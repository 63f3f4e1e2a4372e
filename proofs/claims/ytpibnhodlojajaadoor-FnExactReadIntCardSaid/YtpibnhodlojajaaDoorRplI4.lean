/- The program's ReplyAt and Replies. -/
import Derived.Test.YtpibnhodlojajaaDoorRplI3
import Derived.Test.YtpibnhodlojajaaDoorClone
import Derived.Deep.RegionLaw
namespace Go.Proofs.YtpibnhodlojajaaDoor
open Go.RowKit

def fOf (s : ByteArray) : Nat → Option (Nat → Option Nat)
  | 0 => none
  | d + 1 => some (rpAt valI s d)
theorem rpHd_cases (s : ByteArray) (A : Nat → Nat → Option Nat) (F : Option (Nat → Option Nat)) (hA : ∀ n p, A n p = match F with | none => none | some f => rpN f n p) (i : Nat) : rpHd valI s A i =
    if Wd.bt s i = 43 ∨ Wd.bt s i = 45 then (if s.size ≤ crE s (i + 1) then none else some (crE s (i + 1) + 2))
    else if Wd.bt s i = 58 then (match numO s (i + 1) with | none => none | some _ => some (crE s (i + 1) + 2))
    else if Wd.bt s i = 36 then bulkR s (i + 1)
    else if Wd.bt s i = 42 then arrR s F (i + 1)
    else none := by
  unfold rpHd bulkR arrR numO
  by_cases h1 : s.size ≤ crE s (i + 1)
  · simp only [h1, if_true, ite_self]
  · simp only [h1, if_false]
    cases valI (s.extract (i + 1) (crE s (i + 1))) with
    | none => simp
    | some v =>
      simp only [hA]
      cases F <;> rfl
theorem rpAt_cases (s : ByteArray) (d i : Nat) (hi : i < s.size) : rpAt valI s d i =
    if Wd.bt s i = 43 ∨ Wd.bt s i = 45 then (if s.size ≤ crE s (i + 1) then none else some (crE s (i + 1) + 2))
    else if Wd.bt s i = 58 then (match numO s (i + 1) with | none => none | some _ => some (crE s (i + 1) + 2))
    else if Wd.bt s i = 36 then bulkR s (i + 1)
    else if Wd.bt s i = 42 then arrR s (fOf s d) (i + 1)
    else none := by
  cases d with
  | zero =>
    rw [rpAt, if_neg (by omega)]
    exact rpHd_cases s _ (fOf s 0) (fun _ _ => rfl) i
  | succ d =>
    rw [rpAt, if_neg (by omega)]
    exact rpHd_cases s _ (fOf s (d + 1)) (fun _ _ => rfl) i

theorem one_eq {x : ByteArray} {c : UInt8} (hz : x.size = 1) (h : Wd.bt x 0 = c.toNat) : (x.toList == [c]) = true := by
  have e : x = ⟨#[c]⟩ := by
    refine bt_ext hz fun q hq => ?_
    have hq' : q < 1 := hq
    obtain rfl : q = 0 := by omega
    rw [h]; rfl
  rw [e, ByteArray.toList_eq]
  exact beq_self_eq_true _
theorem one_ne {x : ByteArray} {c : UInt8} (h : Wd.bt x 0 ≠ c.toNat) : (x.toList == [c]) = false := by
  rw [beq_eq_false_iff_ne]
  intro e
  rw [ByteArray.toList_eq] at e
  have e2 : x = ⟨#[c]⟩ := ByteArray.ext (Array.toList_inj.1 e)
  rw [e2] at h
  exact h rfl

end Go.Proofs.YtpibnhodlojajaaDoor
