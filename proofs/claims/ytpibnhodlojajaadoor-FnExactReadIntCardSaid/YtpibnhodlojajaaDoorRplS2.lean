/- The specification's reader of replies: replies, and rows of them. -/
import Derived.Test.YtpibnhodlojajaaDoorRplS1
import Derived.Test.YtpibnhodlojajaaDoorRplI5
namespace Go.Proofs.YtpibnhodlojajaaDoor
open Go.RowKit

/-- A place, or none, as a number. -/
def encO (o : Option Nat) : Int := match o with | some j => (j : Int) | none => -1
theorem encO_ge (o : Option Nat) : decide (0 ≤ encO o) = o.isSome := by cases o <;> simp [encO]
def bulkS (s : ByteArray) (e : Nat) (l : ByteArray) : Option Nat := match valS l with | none => none | some v => if v < -1 then none else if v = -1 then some (e + 2) else bulkE s (e + 2) v.toNat
def arrS (A : Nat → Nat → Option Nat) (e : Nat) (l : ByteArray) : Option Nat := match valS l with | none => none | some v => if v < 0 then none else A v.toNat (e + 2)
theorem bulkS_one (s : ByteArray) (e : Nat) : bulkS s e ⟨#[45, 49]⟩ = some (e + 2) := by
  rcases val_ways ⟨#[45, 49]⟩ with ⟨n, h1, h2, h3⟩ | ⟨h1, n, h2, h3, h4⟩ | ⟨h1, h2, h3⟩
  · exact absurd rfl h3
  · have := h4.2 rfl
    subst this
    unfold bulkS
    rw [h3]
    rfl
  · exact absurd rfl h3
theorem bulkS_dec (s : ByteArray) (e : Nat) (l : ByteArray) (hl : l ≠ ⟨#[45, 49]⟩) : bulkS s e l = match decV l with | some n => bulkE s (e + 2) n | none => none := by
  rcases val_ways l with ⟨n, h1, h2, h3⟩ | ⟨h1, n, h2, h3, h4⟩ | ⟨h1, h2, h3⟩
  · unfold bulkS
    rw [h1, h2]
    simp only
    rw [if_neg (by omega), if_neg (by omega)]
    rfl
  · have hn : n ≠ 1 := fun e => hl (h4.1 e)
    unfold bulkS
    rw [h1, h3]
    simp only
    rw [if_pos (by omega)]
  · unfold bulkS
    rw [h1, h2]
theorem arrS_dec (A : Nat → Nat → Option Nat) (e : Nat) (l : ByteArray) : arrS A e l = match decV l with | some n => A n (e + 2) | none => none := by
  rcases val_ways l with ⟨n, h1, h2, h3⟩ | ⟨h1, n, h2, h3, h4⟩ | ⟨h1, h2, h3⟩
  · unfold arrS
    rw [h1, h2]
    simp only
    rw [if_neg (by omega)]
    rfl
  · unfold arrS
    rw [h1, h3]
    simp only
    rw [if_pos (by omega)]
  · unfold arrS
    rw [h1, h2]

def gOf (s : ByteArray) : Nat → Option (Nat → Option Nat)
  | 0 => none
  | d + 1 => some (rpAt valS s d)
def aOf (F : Option (Nat → Option Nat)) (n p : Nat) : Option Nat := match F with | none => none | some f => rpN f n p
theorem rpS_cases (s : ByteArray) (d i : Nat) (hi : i < s.size) (e : Nat) (he : crE s (i + 1) = e) (hes : e < s.size) (l : ByteArray) (hl : s.extract (i + 1) e = l) : rpAt valS s d i =
    if Wd.bt s i = 43 ∨ Wd.bt s i = 45 then some (e + 2)
    else if Wd.bt s i = 58 then (if (valS l).isSome = true then some (e + 2) else none)
    else if Wd.bt s i = 36 then bulkS s e l
    else if Wd.bt s i = 42 then arrS (aOf (gOf s d)) e l
    else none := by
  have key : ∀ A : Nat → Nat → Option Nat, (∀ n p, A n p = aOf (gOf s d) n p) → rpHd valS s A i = if Wd.bt s i = 43 ∨ Wd.bt s i = 45 then some (e + 2)
    else if Wd.bt s i = 58 then (if (valS l).isSome = true then some (e + 2) else none)
    else if Wd.bt s i = 36 then bulkS s e l
    else if Wd.bt s i = 42 then arrS (aOf (gOf s d)) e l
    else none := by
    intro A hA
    obtain rfl : A = aOf (gOf s d) := funext fun n => funext fun p => hA n p
    unfold rpHd bulkS arrS
    rw [he, if_neg (by omega), hl]
    cases valS l with
    | none => simp
    | some v => simp
  cases d with
  | zero =>
    rw [rpAt, if_neg (by omega)]
    exact key _ (fun _ _ => rfl)
  | succ d =>
    rw [rpAt, if_neg (by omega)]
    exact key _ (fun _ _ => rfl)
theorem rpS_none (V : ByteArray → Option Int) (s : ByteArray) (d i : Nat) (h : s.size ≤ i ∨ s.size ≤ crE s (i + 1)) : rpAt V s d i = none := by
  cases d <;> (rw [rpAt]; by_cases h1 : s.size ≤ i; · rw [if_pos h1]) <;> (rw [if_neg h1]; unfold rpHd; rw [if_pos (by omega)])

end Go.Proofs.YtpibnhodlojajaaDoor
