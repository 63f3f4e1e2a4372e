/- What each byte of a text stands for: the program's reader of figures. -/
import Derived.Test.YtpibnhodlojajaaDoorHex
import Derived.Deep.LoopGhost
import Derived.WalkMore
import Derived.WalkSmall
namespace Go.Proofs.YtpibnhodlojajaaDoor
open Go.RowKit

/-- What the reader of figures leaves. -/
def FigsLeft (s : ByteArray) (c : Int) (w : World) (e : Ending) (w' : World) : Prop :=
  Below w.heap.size w w' ∧ (((∀ p, p < s.size → Wd.isFig s c p) ∧ ∃ v, e = .returned (.tuple #[v, .bool true]) ∧ w'.ownsRow w.heap.size 5 1 v (Wd.valsF s s.size).length ((Wd.valsF s s.size).map bv)) ∨
    ((∃ p, p < s.size ∧ ¬ Wd.isFig s c p) ∧ e = .returned (.tuple #[.slice none 0 0, .bool false])))

theorem figs_run64 (z : Nat) (h1 : z < 16) : ∀ W : World, (Instr.index 9 (.string ⟨#[48, 49, 50, 51, 52, 53, 54, 55, 56, 57, 97, 98, 99, 100, 101, 102]⟩) (.int .i64 (z : Int))).run Tryd.prog W = .ok (.int .u8 (Wd.figI (z : Int))) W := by
  intro W
  have hs : (hexFig.size : Int) = 16 := rfl
  have := run_index_string W 9 hexFig .i64 (z : Int) Tryd.underlying9
  rw [dif_pos ⟨by omega, by omega⟩] at this
  refine this.trans ?_
  exact congrArg (fun z => Result.ok (Value.int .u8 z) W) (hexFig_at z (by omega))

end Go.Proofs.YtpibnhodlojajaaDoor
