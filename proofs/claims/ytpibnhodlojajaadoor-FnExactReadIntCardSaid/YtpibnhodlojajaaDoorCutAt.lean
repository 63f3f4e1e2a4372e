/- A piece of a text, by two places. -/
import Derived.Test.YtpibnhodlojajaaDoorBase
namespace Go.Proofs.YtpibnhodlojajaaDoor
open Go.RowKit

theorem cut_at (s : ByteArray) (a b : Nat) (ai bi : Int) (R : ByteArray) (ha : ai = a) (hb : bi = b) (h1 : a ≤ b) (h2 : b ≤ s.size) (hR : s.extract a b = R) :
    ∀ W : World, (Instr.slice 9 (.string s) (some (.int .i64 ai)) (some (.int .i64 bi)) none).run Tryd.prog W = .ok (.string R) W := by
  intro W
  subst ha hb hR
  have := run_slice_string (P := Tryd.prog) W 9 s .i64 .i64 (a : Int) (b : Int) Tryd.underlying9 (by omega) (by omega) (by omega)
  rw [this, Int.toNat_natCast, Int.toNat_natCast]

theorem txt_eq {a b : ByteArray} (h : a = b) : (a.toList == b.toList) = true := by rw [h]; exact beq_self_eq_true _
theorem txt_ne {a b : ByteArray} (h : a ≠ b) : (a.toList == b.toList) = false := by
  rw [beq_eq_false_iff_ne, ByteArray.toList_eq, ByteArray.toList_eq]
  intro e
  exact h (ByteArray.ext (Array.toList_inj.1 e))
end Go.Proofs.YtpibnhodlojajaaDoor
