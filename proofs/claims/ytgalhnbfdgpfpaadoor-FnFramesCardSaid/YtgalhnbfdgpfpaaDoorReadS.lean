/- The specification's reader of a number answers as 'Wd.rv' says. -/
import Derived.Test.YtgalhnbfdgpfpaaDoorRv
import Derived.Test.YtgalhnbfdgpfpaaDoorVarS
import Derived.Deep.RegionHeld3
import Derived.BigQuiet
import Derived.WalkSmall
namespace Go.Proofs.YtgalhnbfdgpfpaaDoor
open Go.RowKit

theorem cut_run (s : ByteArray) (i P : Nat) (h1 : i ≤ P + 1) (h2 : P < s.size) : ∀ W : World, (Instr.slice 9 (.string s) (some (.int .i64 (i : Int))) (some (.int .i64 ((P : Int) + 1))) none).run Tryd.prog W = .ok (.string (s.extract i (P + 1))) W := by
  intro W
  have := run_slice_string (P := Tryd.prog) W 9 s .i64 .i64 (i : Int) ((P : Int) + 1) Tryd.underlying9 (by omega) (by omega) (by omega)
  rw [this, Int.toNat_natCast, show ((P : Int) + 1).toNat = P + 1 from by omega]

theorem canon_test (s : ByteArray) (i P k m b Q : Nat) (hPk : P = i + k) (hm : m = Wd.valF s i k) (hall : ∀ j, j < k → 128 ≤ Wd.bt s (i + j)) (hB : Wd.bt s P = b) (hb : b < 128) (hlt : P < s.size) (hk : k < 5) (hQ : Q = 128 ^ k) :
    ∀ N, N = m + b % 128 * Q → (Wd.varF 5 N == (s.extract i (P + 1)).toList) = decide (0 < b ∨ k = 0) := by
  intro N hN
  subst hPk hm hB hQ
  have e1 : N = Wd.valF s i (k + 1) := by rw [hN, Wd.valF_snoc]
  have e2 : (s.extract i (i + k + 1)).toList = Wd.subF s i (k + 1) := by
    rw [show i + k + 1 = i + (k + 1) from by omega, ByteArray.toList_eq, Wd.subF_extract s i (k + 1) (by omega)]
  rw [e1, e2, Bool.eq_iff_iff, beq_iff_eq, decide_eq_true_iff]
  exact Wd.canonF s k i 5 hall hb (by omega)

theorem val_more (s : ByteArray) (i P k m b : Nat) (hPk : P = i + k) (hm : m = Wd.valF s i k) (hB : Wd.bt s P = b) : m + b % 128 * 128 ^ k = Wd.valF s i (k + 1) := by
  subst hPk hm hB; rw [Wd.valF_snoc]
theorem all_more (s : ByteArray) (i P k b : Nat) (hPk : P = i + k) (hall : ∀ j, j < k → 128 ≤ Wd.bt s (i + j)) (hB : Wd.bt s P = b) (hb : 128 ≤ b) : ∀ j, j < k + 1 → 128 ≤ Wd.bt s (i + j) := by
  intro j hj
  by_cases h : j < k
  · exact hall j h
  · have : j = k := by omega
    subst this hPk; omega

end Go.Proofs.YtgalhnbfdgpfpaaDoor
