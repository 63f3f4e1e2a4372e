/- The text whose figures these are: the program's reader, and the law on Unhex. -/
import Derived.Test.YtpibnhodlojajaaDoorUnhex
namespace Go.Proofs.YtpibnhodlojajaaDoor
open Go.RowKit

/-- The value at a place of a row of figures. -/
theorem vals_cell {s : ByteArray} {w : World} {B g n cap : Nat} (hown : w.ownsRow B 5 1 (.slice (some ⟨g, 0, none⟩) n cap) n ((Wd.valsF s n).map bv)) (p : Nat) (hp : p < n) (hf : 0 ≤ Wd.valI (Wd.bt s p)) :
    w.cell? ⟨g, p, none⟩ = some (.int .u8 (Wd.valI (Wd.bt s p))) := by
  have := hown.cellAt p (by omega)
  rw [this, List.getElem?_map, Wd.valsF_get s n p hp]
  have hv := Wd.valI_bd (Wd.bt s p)
  have e : (((UInt8.ofNat (Wd.valI (Wd.bt s p)).toNat).toNat : Nat) : Int) = Wd.valI (Wd.bt s p) := by simp only [UInt8.toNat_ofNat']; omega
  simp only [Option.map_some, bv, e]

end Go.Proofs.YtpibnhodlojajaaDoor
