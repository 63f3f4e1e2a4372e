/- The figures of a text: both writers, and the law on Hex. -/
import Derived.Test.YtpibnhodlojajaaDoorFig
namespace Go.Proofs.YtpibnhodlojajaaDoor
open Go.RowKit

theorem two_figs (b : Nat) (h : b < 256) : (#[.int .u8 (Wd.figI ((b : Int) / 16)), .int .u8 (Wd.figI ((b : Int) % 16))] : Array Value).toList = [Wd.figB (b / 16), Wd.figB (b % 16)].map bv := by
  have h1 := Wd.figB_val (b / 16) (by omega)
  have h2 := Wd.figB_val (b % 16) (by omega)
  simp only [Int.natCast_ediv, Int.natCast_emod] at h1 h2
  simp [bv, h1, h2]

theorem idx_run (s : ByteArray) (k b : Nat) (hlt : k < s.size) (hb : (s[k]'hlt).toNat = b) : ∀ W : World, (Instr.index 9 (.string s) (.int .i64 (k : Int))).run Tryd.prog W = .ok (.int .u8 (b : Int)) W := by
  intro W
  rw [run_index_string W 9 s .i64 (k : Int) Tryd.underlying9, dif_pos ⟨by omega, by omega⟩]
  simp only [Int.toNat_natCast, hb]

/-- The figures as the program has them. -/
def hexFig : ByteArray := ⟨#[48, 49, 50, 51, 52, 53, 54, 55, 56, 57, 97, 98, 99, 100, 101, 102]⟩
theorem hexFig_at : ∀ (n : Nat) (h : n < 16), ((hexFig[n]'h).toNat : Int) = Wd.figI (n : Int) := by decide
theorem figs_run (z : Int) (h0 : 0 ≤ z) (h1 : z < 16) : ∀ W : World, (Instr.index 9 (.string ⟨#[48, 49, 50, 51, 52, 53, 54, 55, 56, 57, 97, 98, 99, 100, 101, 102]⟩) (.int .u8 z)).run Tryd.prog W = .ok (.int .u8 (Wd.figI z)) W := by
  intro W
  obtain ⟨n, rfl⟩ := Int.eq_ofNat_of_zero_le h0
  have hs : (hexFig.size : Int) = 16 := rfl
  have := run_index_string W 9 hexFig .u8 (n : Int) Tryd.underlying9
  rw [dif_pos ⟨by omega, by omega⟩] at this
  refine this.trans ?_
  have e := hexFig_at n (by omega)
  exact congrArg (fun z => Result.ok (Value.int .u8 z) W) e

end Go.Proofs.YtpibnhodlojajaaDoor
