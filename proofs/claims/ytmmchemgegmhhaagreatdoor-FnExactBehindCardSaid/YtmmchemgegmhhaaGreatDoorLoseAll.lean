/- LoseDisk of the program and of the specification, at every disk. -/
import Derived.Test.YtmmchemgegmhhaaGreatDoorLoseS
import Derived.Test.YtmmchemgegmhhaaGreatDoorLoseI
namespace Go.Proofs.YtmmchemgegmhhaaGreatDoor
open Go.RowKit

/-- What LoseDisk answers. -/
def loseR (fs : List FileD) (ls : List Int) : List FileD := if diskOkD fs = true then lostD fs ls else []
theorem loseR_len (fs : List FileD) (ls : List Int) (h : fs.length ≤ 1048576) : (loseR fs ls).length ≤ 1048576 := by
  unfold loseR; split
  · rw [lostD_length]; exact h
  · simp

theorem specLose_all (fs : List FileD) (ao : Option Addr) (cap : Nat) (ls : List Int) (al : Option Addr) (capl : Nat) (w : World) (hl : fs.length ≤ 1048576) (hfs : FilesAt w ao fs) (hls : IntsAt w al ls) (hsz : ∀ F ∈ fs, F.name.size ≤ 1048576 ∧ F.text.size ≤ 1048576) :
    Calls Tryz.prog 116 #[.agg #[.slice ao fs.length cap], .slice al ls.length capl] w fun e w' => ∃ v, e = .returned (.tuple #[.agg #[v], .bool (diskOkD fs)]) ∧ RowF w' w.heap.size v (loseR fs ls) ∧ Below w.heap.size w w' := by
  cases hok : diskOkD fs
  · refine (specLose_no fs ao cap _ w hl hfs hsz hok).mono ?_
    rintro e w' ⟨rfl, b⟩
    exact ⟨_, rfl, .inl ⟨rfl, by rw [loseR, if_neg (by rw [hok]; decide)]⟩, b⟩
  · refine (specLose_yes fs ao cap ls al capl w hfs hls hok).mono ?_
    rintro e w' ⟨v, rfl, hr, b⟩
    exact ⟨v, rfl, by rw [loseR, if_pos hok]; exact hr, b⟩
theorem lose_all (fs : List FileD) (ao : Option Addr) (cap : Nat) (ls : List Int) (al : Option Addr) (capl : Nat) (w : World) (hl : fs.length ≤ 1048576) (hfs : FilesAt w ao fs) (hls : IntsAt w al ls) (hsz : ∀ F ∈ fs, F.name.size ≤ 1048576 ∧ F.text.size ≤ 1048576) :
    Calls Tryz.prog 123 #[.agg #[.slice ao fs.length cap], .slice al ls.length capl] w fun e w' => ∃ v, e = .returned (.tuple #[.agg #[v], .bool (diskOkD fs)]) ∧ RowF w' w.heap.size v (loseR fs ls) ∧ Below w.heap.size w w' := by
  cases hok : diskOkD fs
  · refine (lose_no fs ao cap _ w hl hfs hsz hok).mono ?_
    rintro e w' ⟨rfl, b⟩
    exact ⟨_, rfl, .inl ⟨rfl, by rw [loseR, if_neg (by rw [hok]; decide)]⟩, b⟩
  · refine (lose_yes fs ao cap ls al capl w hfs hls hok).mono ?_
    rintro e w' ⟨v, rfl, hr, b⟩
    exact ⟨v, rfl, by rw [loseR, if_pos hok]; exact hr, b⟩
end Go.Proofs.YtmmchemgegmhhaaGreatDoor
