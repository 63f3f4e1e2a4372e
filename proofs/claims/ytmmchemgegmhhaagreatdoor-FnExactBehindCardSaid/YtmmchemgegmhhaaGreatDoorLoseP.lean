/- What the power leaves of files, plainly. -/
import Derived.Test.YtmmchemgegmhhaaGreatDoorDiskP
namespace Go.Proofs.YtmmchemgegmhhaaGreatDoor
open Go.RowKit

/-- How much of a file stays. -/
def staysI (F : FileD) (n : Int) : Int := if n > (F.text.size : Int) then (if (F.text.size : Int) < F.kept then F.kept else (F.text.size : Int)) else if n < F.kept then F.kept else n
def lostF (F : FileD) (n : Int) : FileD := ⟨F.name, F.text.extract 0 (staysI F n).toNat, staysI F n⟩

/-- What is left of files; ls: what is told of the rest. -/
def lostD : List FileD → List Int → List FileD
  | [], _ => []
  | F :: r, [] => lostF F 0 :: lostD r []
  | F :: r, n :: l => lostF F n :: lostD r l

theorem lostD_length : ∀ (fs : List FileD) (ls : List Int), (lostD fs ls).length = fs.length
  | [], _ => rfl
  | F :: r, [] => by simp [lostD, lostD_length r []]
  | F :: r, n :: l => by simp [lostD, lostD_length r l]
theorem lostD_get : ∀ (fs : List FileD) (ls : List Int) (k : Nat) (h : k < fs.length), (lostD fs ls)[k]? = some (lostF fs[k] (ls.getD k 0))
  | [], _, _, h => absurd h (by simp)
  | F :: r, [], 0, _ => by simp [lostD]
  | F :: r, n :: l, 0, _ => by simp [lostD]
  | F :: r, [], k + 1, h => by
    have := lostD_get r [] k (by simpa using h)
    simpa [lostD] using this
  | F :: r, n :: l, k + 1, h => by
    have := lostD_get r l k (by simpa using h)
    simpa [lostD] using this
theorem lostD_take (fs : List FileD) (ls : List Int) (k : Nat) (h : k < fs.length) : (lostD fs ls).take (k + 1) = (lostD fs ls).take k ++ [lostF fs[k] (ls.getD k 0)] := by
  rw [List.take_add_one, lostD_get fs ls k h]; rfl
theorem lostD_takeLen (fs : List FileD) (ls : List Int) (k : Nat) (h : k ≤ fs.length) : ((lostD fs ls).take k).length = k := by
  rw [List.length_take, lostD_length]; omega

theorem okFrom_mem : ∀ (fs : List FileD) (p : Option ByteArray), okFrom p fs = true → ∀ F ∈ fs, fileOkD F = true
  | [], _, _, _, h => absurd h List.not_mem_nil
  | G :: r, none, h, F, hF => by
    simp only [okFrom, Bool.and_eq_true] at h
    rcases List.mem_cons.1 hF with rfl | hF
    · exact h.1
    · exact okFrom_mem r _ h.2 F hF
  | G :: r, some p, h, F, hF => by
    simp only [okFrom, Bool.and_eq_true] at h
    rcases List.mem_cons.1 hF with rfl | hF
    · exact h.1
    · exact okFrom_mem r _ h.2.2 F hF

theorem ok_file {F : FileD} (h : fileOkD F = true) : 1 ≤ F.name.size ∧ F.name.size ≤ 8 ∧ F.text.size ≤ 20000 ∧ 0 ≤ F.kept ∧ F.kept ≤ F.text.size := by
  simp only [fileOkD, nameOkD, Bool.and_eq_true, decide_eq_true_eq] at h
  omega
theorem disk_files {fs : List FileD} (h : diskOkD fs = true) : fs.length ≤ 30 ∧ ∀ F ∈ fs, 1 ≤ F.name.size ∧ F.name.size ≤ 8 ∧ F.text.size ≤ 20000 ∧ 0 ≤ F.kept ∧ F.kept ≤ F.text.size := by
  simp only [diskOkD, Bool.and_eq_true, decide_eq_true_eq] at h
  exact ⟨h.1, fun F hF => ok_file (okFrom_mem fs none h.2 F hF)⟩

theorem stays_bd {F : FileD} (n : Int) (h0 : 0 ≤ F.kept) (h1 : F.kept ≤ F.text.size) : 0 ≤ staysI F n ∧ F.kept ≤ staysI F n ∧ staysI F n ≤ F.text.size := by
  unfold staysI; split
  · split <;> omega
  · split <;> omega
end Go.Proofs.YtmmchemgegmhhaaGreatDoor
