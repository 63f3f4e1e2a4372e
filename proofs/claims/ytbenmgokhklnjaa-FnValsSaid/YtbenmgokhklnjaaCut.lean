/- A piece of a text. -/
import Derived.Test.YtbenmgokhklnjaaBase
namespace Go.Proofs.Ytbenmgokhklnjaa
open Go.RowKit

theorem cut_len (s : ByteArray) (p n : Nat) (h : p + n ≤ s.size) : ∀ W : World, (Instr.slice 9 (.string s) (some (.int .i64 (p : Int))) (some (.int .i64 ((p : Int) + (n : Int)))) none).run Try.prog W = .ok (.string (s.extract p (p + n))) W := by
  intro W
  have := run_slice_string (P := Try.prog) W 9 s .i64 .i64 (p : Int) ((p : Int) + (n : Int)) Try.underlying9 (by omega) (by omega) (by omega)
  rw [this, Int.toNat_natCast, show ((p : Int) + (n : Int)).toNat = p + n from by omega]

end Go.Proofs.Ytbenmgokhklnjaa
