/- Files as the laws hold them: how great they are. -/
import Derived.Test.YtmmchemgegmhhaaGreatDoorBase
namespace Go.Proofs.YtmmchemgegmhhaaGreatDoor
open Go.RowKit

/-- A file: its name, its text, how much of it is kept. -/
structure FileD where
  name : ByteArray
  text : ByteArray
  kept : Int

/-- A row of files in memory. -/
def FilesAt (w : World) (ao : Option Addr) (fs : List FileD) : Prop := ∀ j (h : j < fs.length), ∃ b off : Nat, ao = some ⟨b, off, none⟩ ∧ b < w.heap.size ∧
  w.cell? ⟨b, off + j * 3, none⟩ = some (.string fs[j].name) ∧ w.cell? ⟨b, off + j * 3 + 1, none⟩ = some (.string fs[j].text) ∧ w.cell? ⟨b, off + j * 3 + 2, none⟩ = some (.int .i64 fs[j].kept)

theorem filesAt_keep {w w' : World} {ao : Option Addr} {fs : List FileD} (h : FilesAt w ao fs) (hb : Below w.heap.size w w') : FilesAt w' ao fs := by
  intro j hj
  obtain ⟨b, off, h1, h2, h3, h4, h5⟩ := h j hj
  exact ⟨b, off, h1, Nat.lt_of_lt_of_le h2 hb.size, (hb.cell (p := ⟨b, off + j * 3, none⟩) h2).trans h3, (hb.cell (p := ⟨b, off + j * 3 + 1, none⟩) h2).trans h4, (hb.cell (p := ⟨b, off + j * 3 + 2, none⟩) h2).trans h5⟩

/-- What a file leaves of a measure; below 0: it is too great. -/
def szF (F : FileD) (n : Int) : Int := if n < F.name.size then -1 else if n < F.name.size + F.text.size then -1 else n - F.name.size - F.text.size

set_option maxRecDepth 100000 in
set_option maxHeartbeats 400000 in
theorem szFile_any (F : FileD) (n : Int) (w : World) (h0 : 0 ≤ n) (h1 : n ≤ 1048576) (hN : F.name.size ≤ maxLen) (hX : F.text.size ≤ maxLen) :
    Calls Tryz.prog 143 #[.agg #[.string F.name, .string F.text, .int .i64 F.kept], .int .i64 n] w fun e w' => e = .returned (.int .i64 (szF F n)) ∧ Below w.heap.size w w' := by
  obtain ⟨a, b, k⟩ := F
  simp only [szF] at hN hX ⊢
  unfold maxLen at hN hX
  by_cases h2 : n < a.size
  · have h2' : decide (n - (a.size : Int) < 0) = true := by simp; omega
    rw [if_pos h2]
    go_enter Tryz.func143, Tryz.ntmps143
    go_wp2
    go_ret
    exact ⟨rfl, (Below.refl _ w).alloc (Nat.le_refl _) _⟩
  · have h2' : decide (n - (a.size : Int) < 0) = false := by simp; omega
    rw [if_neg h2]
    by_cases h3 : n < a.size + b.size
    · have h3' : decide (n - (a.size : Int) - (b.size : Int) < 0) = true := by simp; omega
      rw [if_pos h3]
      go_enter Tryz.func143, Tryz.ntmps143
      go_wp2
      go_ret
      exact ⟨rfl, (Below.refl _ w).alloc (Nat.le_refl _) _⟩
    · have h3' : decide (n - (a.size : Int) - (b.size : Int) < 0) = false := by simp; omega
      rw [if_neg h3]
      go_enter Tryz.func143, Tryz.ntmps143
      go_wp2
      go_ret
      exact ⟨rfl, (Below.refl _ w).alloc (Nat.le_refl _) _⟩
end Go.Proofs.YtmmchemgegmhhaaGreatDoor
