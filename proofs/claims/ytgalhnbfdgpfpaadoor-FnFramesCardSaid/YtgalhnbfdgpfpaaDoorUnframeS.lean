/- The records of the frames that a file begins with: the specification's. -/
import Derived.Test.YtgalhnbfdgpfpaaDoorFrameS
import Derived.Test.YtgalhnbfdgpfpaaDoorReadS
import Derived.Test.YtgalhnbfdgpfpaaDoorAppStr
import Derived.Test.YtgalhnbfdgpfpaaDoorCutAt
namespace Go.Proofs.YtgalhnbfdgpfpaaDoor
open Go.RowKit

/-- What is left by a call: the records in memory of its own, and the place behind the last. -/
def FramesLeft (s : ByteArray) (w : World) (e : Ending) (w' : World) : Prop :=
  ∃ v, e = .returned (.tuple #[v, .int .i64 (endOf (unf s) : Nat)]) ∧ w'.ownsRow w.heap.size 9 1 v (recs s (unf s)).length ((recs s (unf s)).map sv) ∧ Below w.heap.size w w'

theorem unf_long (s : ByteArray) (h : 20000 < s.size) : unf s = [] := by unfold unf; rw [if_neg (by omega)]
theorem unf_in (s : ByteArray) (h : s.size ≤ 20000) : unf s = frs s (s.size + 1) 0 := by unfold unf; rw [if_pos h]

/-- Where no frame stands any more, all have come. -/
theorem frames_done {s : ByteArray} {pre : List (Nat × Nat)} {f i : Nat} (hs : s.size ≤ 20000) (h : frs s (s.size + 1) 0 = pre ++ frs s f i) (hn : frB s i = none) : unf s = pre := by
  rw [unf_in s hs, h, frs_none s f i hn, List.append_nil]

theorem frames_left {s : ByteArray} {w wr : World} {v : Value} {pre : List (Nat × Nat)} {i : Int} (hu : unf s = pre) (hi : i = (endOf pre : Nat)) (hown : wr.ownsRow w.heap.size 9 1 v (recs s pre).length ((recs s pre).map sv)) (hb : Below w.heap.size w wr) :
    FramesLeft s w (.returned (.tuple #[v, .int .i64 i])) wr := by
  subst hi hu
  exact ⟨v, rfl, hown, hb⟩

end Go.Proofs.YtgalhnbfdgpfpaaDoor
