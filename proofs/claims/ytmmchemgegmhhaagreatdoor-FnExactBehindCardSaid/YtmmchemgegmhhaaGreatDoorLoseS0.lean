/- The specification's LoseDisk. -/
import Derived.Test.YtmmchemgegmhhaaGreatDoorLoseP
import Derived.Test.YtmmchemgegmhhaaGreatDoorDiskS
import Derived.Test.YtmmchemgegmhhaaGreatDoorDiskK
import Derived.Test.YtmmchemgegmhhaaGreatDoorRowF
import Derived.Deep.RegionLaw
import Derived.Deep.LoopGhost
import Derived.Deep.Cut
import Derived.Deep.CutRange
namespace Go.Proofs.YtmmchemgegmhhaaGreatDoor
open Go.RowKit

/-- A row of numbers in memory. -/
def IntsAt (w : World) (ao : Option Addr) (ls : List Int) : Prop := ∀ j (h : j < ls.length), ∃ b off : Nat, ao = some ⟨b, off, none⟩ ∧ b < w.heap.size ∧ w.cell? ⟨b, off + j, none⟩ = some (.int .i64 ls[j]) ∧ -9223372036854775808 ≤ ls[j] ∧ ls[j] ≤ 9223372036854775807
theorem intsAt_keep {w w' : World} {ao : Option Addr} {ls : List Int} (h : IntsAt w ao ls) (hb : Below w.heap.size w w') : IntsAt w' ao ls := by
  intro j hj
  obtain ⟨b, off, h1, h2, h3, h4⟩ := h j hj
  exact ⟨b, off, h1, Nat.lt_of_lt_of_le h2 hb.size, (hb.cell (p := ⟨b, off + j, none⟩) h2).trans h3, h4⟩

theorem grownBy_step {wb wr w3 : World} {o : Nat} (hg : wb.grownBy wr (some o)) (hb : Below (o + 1) wr w3) (hs : wb.heap.size = o + 1) : wb.grownBy w3 (some o) :=
  ⟨hb.os.trans hg.os, hb.tape.trans hg.tape, hb.output.trans hg.output, Nat.le_trans hg.size hb.size, fun i hi hr => (hb.block i (by omega)).trans (hg.block i hi hr)⟩

theorem cut_to (s : ByteArray) (n : Int) (h0 : 0 ≤ n) (h1 : n ≤ s.size) : ∀ W : World, (Instr.slice 9 (.string s) none (some (.int .i64 n)) none).run Tryz.prog W = .ok (.string (s.extract 0 n.toNat)) W := by
  intro W
  rw [run_slice_string_to_if W 9 s .i64 n Tryz.underlying9, if_pos ⟨h0, h1⟩]
end Go.Proofs.YtmmchemgegmhhaaGreatDoor
