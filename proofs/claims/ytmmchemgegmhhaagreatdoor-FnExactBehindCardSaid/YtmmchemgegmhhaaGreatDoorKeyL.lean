/- Texts as keys of a map. -/
import Derived.Test.YtmmchemgegmhhaaGreatDoorBase
import Derived.Maps.OwnSet
import Derived.Lib.Strings
import Derived.Sort.Walk0
namespace Go.Proofs.YtmmchemgegmhhaaGreatDoor
open Go.RowKit Go.Maps

/-- A name as a key. -/
def kl (s : ByteArray) : Lit := .string s.data.toList
theorem kl_inj {a b : ByteArray} (h : kl a = kl b) : a = b := by
  unfold kl at h
  cases a; cases b
  simp at h
  simp [h]
theorem kl_ne {a b : ByteArray} (h : a ≠ b) : kl a ≠ kl b := fun e => h (kl_inj e)
theorem kl_key (s : ByteArray) : WideAt.IsKeyLit (kl s) := by
  unfold kl
  exact trivial
theorem toList_ne {a b : ByteArray} : (a.toList == b.toList) = false ↔ a ≠ b := by
  rw [beq_eq_false_iff_ne]
  constructor
  · intro h e; exact h (by rw [e])
  · intro h e; exact h (by rw [Lib.toList_data, Lib.toList_data] at e; cases a; cases b; simp at e; simp [e])
theorem less_trans {a b c : List UInt8} (h1 : Op.bytesLess a b = true) (h2 : Op.bytesLess b c = true) : Op.bytesLess a c = true := by
  rw [Go.Proofs.bytesLess_eq, decide_eq_true_eq] at *
  exact List.lt_trans h1 h2
theorem less_irrefl (a : List UInt8) : Op.bytesLess a a = false := by
  rw [Go.Proofs.bytesLess_eq, decide_eq_false_iff_not]
  exact List.lt_irrefl a
theorem less_total {a b : List UInt8} (h1 : Op.bytesLess a b = false) (h2 : a ≠ b) : Op.bytesLess b a = true := by
  rw [Go.Proofs.bytesLess_eq] at *
  rw [decide_eq_true_eq]
  rw [decide_eq_false_iff_not] at h1
  exact Decidable.byContradiction fun h => h2 (List.le_antisymm (List.not_lt.1 h) (List.not_lt.1 h1))
end Go.Proofs.YtmmchemgegmhhaaGreatDoor
