/- Files as the laws hold them: how great they are. -/
import Derived.Test.YtgalhnbfdgpfpaaBase
namespace Go.Proofs.Ytgalhnbfdgpfpaa
open Go.RowKit

/-- A file: its name, its text, how much of it is kept. -/
structure FileD where
  name : ByteArray
  text : ByteArray
  kept : Int

/-- A row of files in memory. -/
def FilesAt (w : World) (ao : Option Addr) (fs : List FileD) : Prop := ∀ j (h : j < fs.length), ∃ b off : Nat, ao = some ⟨b, off, none⟩ ∧ b < w.heap.size ∧
  w.cell? ⟨b, off + j * 3, none⟩ = some (.string fs[j].name) ∧ w.cell? ⟨b, off + j * 3 + 1, none⟩ = some (.string fs[j].text) ∧ w.cell? ⟨b, off + j * 3 + 2, none⟩ = some (.int .i64 fs[j].kept)

theorem filesAt_keep {w w' : World} {ao : Option Addr} {fs : List FileD} (h : FilesAt w ao fs) (hb : Below w.heap.size w w') : FilesAt w' ao fs := by
  intro j hj
  obtain ⟨b, off, h1, h2, h3, h4, h5⟩ := h j hj
  exact ⟨b, off, h1, Nat.lt_of_lt_of_le h2 hb.size, (hb.cell (p := ⟨b, off + j * 3, none⟩) h2).trans h3, (hb.cell (p := ⟨b, off + j * 3 + 1, none⟩) h2).trans h4, (hb.cell (p := ⟨b, off + j * 3 + 2, none⟩) h2).trans h5⟩

/-- What a file leaves of a measure; below 0: it is too great. -/
def szF (F : FileD) (n : Int) : Int := if n < F.name.size then -1 else if n < F.name.size + F.text.size then -1 else n - F.name.size - F.text.size

end Go.Proofs.Ytgalhnbfdgpfpaa
