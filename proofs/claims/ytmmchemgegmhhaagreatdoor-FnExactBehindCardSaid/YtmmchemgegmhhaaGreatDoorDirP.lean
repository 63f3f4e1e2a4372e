/- Right directories, plainly. -/
import Derived.Test.YtmmchemgegmhhaaGreatDoorSpotL
namespace Go.Proofs.YtmmchemgegmhhaaGreatDoor
open Go.RowKit

/-- A right spot. -/
def spotOkD (A : SpotD) : Bool := decide ((1 ≤ A.key.size ∧ A.key.size ≤ 20) ∧ (0 ≤ A.seg ∧ A.seg ≤ 99) ∧ (0 ≤ A.pos ∧ A.pos ≤ 20000) ∧ (0 ≤ A.seq ∧ A.seq ≤ 1000000000))
/-- Spots in order behind a key, each right. -/
def okSpt : Option ByteArray → List SpotD → Bool
  | _, [] => true
  | none, A :: r => spotOkD A && okSpt (some A.key) r
  | some p, A :: r => spotOkD A && (Op.bytesLess p.toList A.key.toList && okSpt (some A.key) r)
/-- A right directory. -/
def dirOkD (fs : List SpotD) : Bool := decide (fs.length ≤ 200) && okSpt none fs
/-- The key ahead of the place k. -/
def prevSpt (fs : List SpotD) : Nat → Option ByteArray
  | 0 => none
  | k + 1 => fs[k]?.map SpotD.key

theorem okSpt_bad {fs : List SpotD} {k : Nat} (h : k < fs.length) (hF : spotOkD fs[k] = false) : okSpt (prevSpt fs k) (fs.drop k) = false := by
  rw [List.drop_eq_getElem_cons h]
  cases prevSpt fs k <;> simp [okSpt, hF]
theorem okSpt_first {fs : List SpotD} (h : 0 < fs.length) (hF : spotOkD fs[0] = true) : okSpt (prevSpt fs 0) (fs.drop 0) = okSpt (prevSpt fs 1) (fs.drop 1) := by
  rw [List.drop_eq_getElem_cons h]
  simp [okSpt, prevSpt, hF, h]
theorem okSpt_less {fs : List SpotD} {k : Nat} (h : k < fs.length) (hk : 0 < k) (hF : Op.bytesLess fs[k - 1].key.toList fs[k].key.toList = false) : okSpt (prevSpt fs k) (fs.drop k) = false := by
  obtain ⟨j, rfl⟩ : ∃ j, k = j + 1 := ⟨k - 1, by omega⟩
  rw [List.drop_eq_getElem_cons h]
  have e1 : prevSpt fs (j + 1) = some fs[j].key := by simp [prevSpt, show j < fs.length from by omega]
  simp at hF
  rw [e1]
  simp [okSpt, hF]
theorem okSpt_more {fs : List SpotD} {k : Nat} (h : k < fs.length) (hk : 0 < k) (hF : spotOkD fs[k] = true) (hL : Op.bytesLess fs[k - 1].key.toList fs[k].key.toList = true) : okSpt (prevSpt fs k) (fs.drop k) = okSpt (prevSpt fs (k + 1)) (fs.drop (k + 1)) := by
  obtain ⟨j, rfl⟩ : ∃ j, k = j + 1 := ⟨k - 1, by omega⟩
  rw [List.drop_eq_getElem_cons h]
  have e1 : prevSpt fs (j + 1) = some fs[j].key := by simp [prevSpt, show j < fs.length from by omega]
  have e2 : prevSpt fs (j + 1 + 1) = some fs[j + 1].key := by simp [prevSpt, h]
  simp at hL
  rw [e1, e2]
  simp [okSpt, hF, hL]
theorem okSpt_end {fs : List SpotD} {k : Nat} (h : fs.length ≤ k) : okSpt (prevSpt fs k) (fs.drop k) = true := by
  rw [List.drop_eq_nil_of_le h]
  cases prevSpt fs k <;> simp [okSpt]
end Go.Proofs.YtmmchemgegmhhaaGreatDoor
