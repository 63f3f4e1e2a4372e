/- Right batches, plainly (written by tools/gen_batch.py). -/
import Derived.Test.YtbenmgokhklnjaaChangeL
namespace Go.Proofs.Ytbenmgokhklnjaa
open Go.RowKit

/-- A right change. -/
def changeOkD (A : ChangeD) : Bool := (decide (1 ≤ A.key.size) && decide (A.key.size ≤ 20)) && (decide (A.value.size ≤ 2000) && !(A.gone && !decide (A.value.size = 0)))

/-- Changes in order behind a key, each right. -/
def okChg : Option ByteArray → List ChangeD → Bool
  | _, [] => true
  | none, A :: r => changeOkD A && okChg (some A.key) r
  | some p, A :: r => changeOkD A && (Op.bytesLess p.toList A.key.toList && okChg (some A.key) r)

/-- A right batch. -/
def batchOkD (q : Int) (fs : List ChangeD) : Bool := (decide (0 ≤ q) && decide (q ≤ 1000000000)) && ((decide (1 ≤ fs.length) && decide (fs.length ≤ 40)) && okChg none fs)

/-- The key ahead of the place k. -/
def prevChg (fs : List ChangeD) : Nat → Option ByteArray
  | 0 => none
  | k + 1 => fs[k]?.map ChangeD.key

theorem okChg_bad {fs : List ChangeD} {k : Nat} (h : k < fs.length) (hF : changeOkD fs[k] = false) : okChg (prevChg fs k) (fs.drop k) = false := by
  rw [List.drop_eq_getElem_cons h]
  cases prevChg fs k <;> simp [okChg, hF]
theorem okChg_first {fs : List ChangeD} (h : 0 < fs.length) (hF : changeOkD fs[0] = true) : okChg (prevChg fs 0) (fs.drop 0) = okChg (prevChg fs 1) (fs.drop 1) := by
  rw [List.drop_eq_getElem_cons h]
  simp [okChg, prevChg, hF, h]
theorem okChg_less {fs : List ChangeD} {k : Nat} (h : k < fs.length) (hk : 0 < k) (hF : Op.bytesLess fs[k - 1].key.toList fs[k].key.toList = false) : okChg (prevChg fs k) (fs.drop k) = false := by
  obtain ⟨j, rfl⟩ : ∃ j, k = j + 1 := ⟨k - 1, by omega⟩
  rw [List.drop_eq_getElem_cons h]
  have e1 : prevChg fs (j + 1) = some fs[j].key := by simp [prevChg, show j < fs.length from by omega]
  simp at hF
  rw [e1]
  simp [okChg, hF]
theorem okChg_more {fs : List ChangeD} {k : Nat} (h : k < fs.length) (hk : 0 < k) (hF : changeOkD fs[k] = true) (hL : Op.bytesLess fs[k - 1].key.toList fs[k].key.toList = true) : okChg (prevChg fs k) (fs.drop k) = okChg (prevChg fs (k + 1)) (fs.drop (k + 1)) := by
  obtain ⟨j, rfl⟩ : ∃ j, k = j + 1 := ⟨k - 1, by omega⟩
  rw [List.drop_eq_getElem_cons h]
  have e1 : prevChg fs (j + 1) = some fs[j].key := by simp [prevChg, show j < fs.length from by omega]
  have e2 : prevChg fs (j + 1 + 1) = some fs[j + 1].key := by simp [prevChg, h]
  simp at hL
  rw [e1, e2]
  simp [okChg, hF, hL]
theorem okChg_end {fs : List ChangeD} {k : Nat} (h : fs.length ≤ k) : okChg (prevChg fs k) (fs.drop k) = true := by
  rw [List.drop_eq_nil_of_le h]
  cases prevChg fs k <;> simp [okChg]
end Go.Proofs.Ytbenmgokhklnjaa
