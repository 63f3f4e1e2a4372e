/- Acts, one behind the other, plainly; acts in memory. -/
import Derived.Test.YtmmchemgegmhhaaGreatDoorActP
namespace Go.Proofs.YtmmchemgegmhhaaGreatDoor
open Go.RowKit

/-- DoActs: the files behind the acts that are true, and how many these are. -/
def actsF : List FileD → List ActD → List FileD × Nat
  | fs, [] => (fs, 0)
  | fs, A :: r => match actD fs A with
    | none => (fs, 0)
    | some g => ((actsF g r).1, (actsF g r).2 + 1)
theorem actsF_no {fs : List FileD} {qs : List ActD} {k : Nat} (h : k < qs.length) (hA : actD fs qs[k] = none) : actsF fs (qs.drop k) = (fs, 0) := by
  rw [List.drop_eq_getElem_cons h, actsF, hA]
theorem actsF_yes {fs g : List FileD} {qs : List ActD} {k : Nat} (h : k < qs.length) (hA : actD fs qs[k] = some g) : actsF fs (qs.drop k) = ((actsF g (qs.drop (k + 1))).1, (actsF g (qs.drop (k + 1))).2 + 1) := by
  rw [List.drop_eq_getElem_cons h, actsF, hA]
theorem actsF_end {fs : List FileD} {qs : List ActD} {k : Nat} (h : qs.length ≤ k) : actsF fs (qs.drop k) = (fs, 0) := by
  rw [List.drop_eq_nil_of_le h, actsF]
theorem actD_ok {fs g : List FileD} {A : ActD} (h : actD fs A = some g) : diskOkD g = true := by
  unfold actD at h
  split at h
  · cases hr : rawD fs A with
    | none => rw [hr] at h; cases h
    | some x =>
      rw [hr] at h
      have h2 : (if diskOkD x = true then some x else none) = some g := h
      split at h2
      · cases h2; assumption
      · cases h2
  · cases h

/-- Acts in memory. -/
def ActsAt (w : World) (ao : Option Addr) (qs : List ActD) : Prop := ∀ j (h : j < qs.length), ∃ b off : Nat, ao = some ⟨b, off, none⟩ ∧ b < w.heap.size ∧
  w.cell? ⟨b, off + j * 4, none⟩ = some (.int .i64 qs[j].kind) ∧ w.cell? ⟨b, off + j * 4 + 1, none⟩ = some (.string qs[j].name) ∧ w.cell? ⟨b, off + j * 4 + 2, none⟩ = some (.string qs[j].text) ∧ w.cell? ⟨b, off + j * 4 + 3, none⟩ = some (.string qs[j].toN)
theorem actsAt_keep {w w' : World} {ao : Option Addr} {qs : List ActD} (h : ActsAt w ao qs) (hb : Below w.heap.size w w') : ActsAt w' ao qs := by
  intro j hj
  obtain ⟨b, off, h1, h2, h3, h4, h5, h6⟩ := h j hj
  exact ⟨b, off, h1, Nat.lt_of_lt_of_le h2 hb.size, (hb.cell (p := ⟨b, off + j * 4, none⟩) h2).trans h3, (hb.cell (p := ⟨b, off + j * 4 + 1, none⟩) h2).trans h4, (hb.cell (p := ⟨b, off + j * 4 + 2, none⟩) h2).trans h5, (hb.cell (p := ⟨b, off + j * 4 + 3, none⟩) h2).trans h6⟩
end Go.Proofs.YtmmchemgegmhhaaGreatDoor
