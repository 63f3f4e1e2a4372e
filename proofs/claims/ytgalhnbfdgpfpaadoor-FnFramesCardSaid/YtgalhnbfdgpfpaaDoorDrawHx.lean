/- A drawn text, as DrawHex tells it. -/
import Derived.Test.YtgalhnbfdgpfpaaDoorDraw4
namespace Go.Proofs.YtgalhnbfdgpfpaaDoor
open Go.RowKit

theorem drawHex_any (w : World) (ao : Option Addr) (len cap : Nat) (hlen : len ≤ 1048576) (hcode : Code w ao len) :
    Calls Tryd.prog 12 #[.slice ao len cap] w fun e w' => ∃ l : List UInt8, e = .returned (.string ⟨l.toArray⟩) ∧ l.length ≤ 20001 ∧ Below w.heap.size w w' := by
  have HC := hide hcode
  clear hcode
  go_enter Tryd.func12, Tryd.ntmps12
  go_wp2_with fail
  refine (new_any _ ao len cap hlen HC.out).mono ?_
  rintro e w1 ⟨g, rfl, hc1⟩
  have HU1 := hide hc1
  clear hc1
  go_wp2_with fail
  refine (once_any w _ g ao len cap _ hlen (by omega) HC.out HU1.out).mono ?_
  rintro e w2 ⟨b, rfl, hc2, g2⟩
  have HU2 := hide hc2
  clear hc2 g2
  cases b with
  | true =>
    go_wp2_with fail
    refine (below_any w _ g ao len cap _ hlen (by omega) HC.out HU2.out).mono ?_
    rintro e w3 ⟨x, rfl, hx, _, hc3, g3⟩
    have hx' := hx (by omega)
    have HU3 := hide hc3
    clear hc3 g3 hx
    go_wp2_with fail
    rw [show (20000 + (x : Int)) = ((20000 + x : Nat) : Int) from by omega]
    refine (long_any (20000 + x) 200 _ (by omega) (by omega)).mono ?_
    rintro e w4 ⟨l, rfl, hl, hb4⟩
    have HL := hide hl
    clear hl
    go_wp2
    go_ret
    exact ⟨l, rfl, by have := HL.out; omega, HU3.out.1.trans (hb4.mono HU3.out.1.size)⟩
  | false =>
    go_wp2_with fail
    refine (below_any w _ g ao len cap _ hlen (by omega) HC.out HU2.out).mono ?_
    rintro e w3 ⟨x, rfl, hx, _, hc3, g3⟩
    have hx' := hx (by omega)
    have HU3 := hide hc3
    clear hc3 g3 hx
    go_wp2_with fail
    refine (text_any w _ g ao len cap _ hlen (by omega) HC.out HU3.out).mono ?_
    rintro e w4 ⟨l, rfl, hl, hc4, g4⟩
    have HL := hide hl
    clear hl
    go_wp2
    go_ret
    exact ⟨l, rfl, by have := HL.out; omega, hc4.1⟩
end Go.Proofs.YtgalhnbfdgpfpaaDoor
