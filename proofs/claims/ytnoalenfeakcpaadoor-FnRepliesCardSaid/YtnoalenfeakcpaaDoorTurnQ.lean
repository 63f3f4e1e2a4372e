/- The bytes of a draw stay; a law that is handed too much. -/
import Derived.Test.YtnoalenfeakcpaaDoorDraw
namespace Go.Proofs.YtnoalenfeakcpaaDoor
open Go.RowKit

theorem code_keep {w0 w : World} {ao : Option Addr} {len : Nat} (h : Code w0 ao len) (hb : Below w0.heap.size w0 w) : Code w ao len := by
  intro j hj
  obtain ⟨b, off, z, h1, h2, h3, h4⟩ := h j hj
  exact ⟨b, off, z, h1, Nat.lt_of_lt_of_le h2 hb.size, (hb.cell (p := ⟨b, off + j, none⟩) h2).trans h3, h4⟩

theorem big_any (w : World) (ao : Option Addr) (len cap : Nat) :
    Calls Tryd.prog 13 #[.slice ao len cap] w fun e w' => e = .returned (.bool (decide (1048576 < (len : Int)))) ∧ w' = w := by
  go_enter Tryd.func13, Tryd.ntmps13
  go_wp2
  go_ret
  exact ⟨rfl, rfl⟩
end Go.Proofs.YtnoalenfeakcpaaDoor
