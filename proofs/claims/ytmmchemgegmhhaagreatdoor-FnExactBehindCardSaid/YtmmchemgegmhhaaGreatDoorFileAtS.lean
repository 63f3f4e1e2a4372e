/- The specification's FileAt, two ways. -/
import Derived.Test.YtmmchemgegmhhaaGreatDoorFileAt
import Derived.Test.YtmmchemgegmhhaaGreatDoorDiskS
namespace Go.Proofs.YtmmchemgegmhhaaGreatDoor
open Go.RowKit

theorem specFileAt_none' (fs : List FileD) (ao : Option Addr) (cap : Nat) (nm : ByteArray) (w : World) (hl : fs.length ≤ 1048576) (hfs : FilesAt w ao fs) (h : fileD fs nm = none) :
    Calls Tryz.prog 62 #[.agg #[.slice ao fs.length cap], .string nm] w fun e w' => e = .returned (.tuple #[.string ⟨#[]⟩, .bool false]) ∧ Below w.heap.size w w' := by
  refine (specFileAt_any fs ao cap nm w hl hfs).mono ?_
  rintro e w' ⟨⟨-, rfl⟩ | ⟨F, hF, -⟩, hb⟩
  · exact ⟨rfl, hb⟩
  · rw [h] at hF; cases hF
theorem specFileAt_some' (fs : List FileD) (ao : Option Addr) (cap : Nat) (nm : ByteArray) (w : World) (F : FileD) (hl : fs.length ≤ 1048576) (hfs : FilesAt w ao fs) (h : fileD fs nm = some F) :
    Calls Tryz.prog 62 #[.agg #[.slice ao fs.length cap], .string nm] w fun e w' => e = .returned (.tuple #[.string F.text, .bool true]) ∧ Below w.heap.size w w' := by
  refine (specFileAt_any fs ao cap nm w hl hfs).mono ?_
  rintro e w' ⟨⟨hn, -⟩ | ⟨G, hG, -, rfl⟩, hb⟩
  · rw [h] at hn; cases hn
  · rw [h] at hG; cases hG; exact ⟨rfl, hb⟩
end Go.Proofs.YtmmchemgegmhhaaGreatDoor
