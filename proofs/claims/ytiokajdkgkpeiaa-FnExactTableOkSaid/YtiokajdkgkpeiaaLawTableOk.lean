/- The law of TableOk. -/
import Derived.Test.YtiokajdkgkpeiaaTabS0
import Derived.Test.YtiokajdkgkpeiaaTabI0
namespace Go.Proofs.Ytiokajdkgkpeiaa
open Go.RowKit

set_option maxRecDepth 100000 in
set_option maxHeartbeats 1600000 in
theorem lawTableOk (es : List EntD) (ao : Option Addr) (cap : Nat) (w : World) (hl0 : es.length ≤ maxLen) (hes : EntriesAt w ao es) (hsz0 : ∀ e ∈ es, EntS maxLen e) :
    Calls Try.prog 4 #[.slice ao es.length cap] w fun e w' => e = .returned (.bool true) ∧ Below w.heap.size w w' := by
  have HT := hide hes
  have HS := hide hsz0
  clear hes hsz0
  obtain ⟨R, HR⟩ : ∃ R : Bool, Hid (R = true ↔ TabR es) := by classical exact ⟨decide (TabR es), by show _ ↔ _; simp⟩
  have HN := hide (szEs_small (es := es) (n := 1048576) (by omega) (by omega))
  have HSZ := hide (szEntryS_any es ao cap 1048576 w (by decide) (by decide) hl0 HT.out HS.out)
  generalize szEs es 1048576 = r at HN HSZ
  go_enter Try.func4, Try.ntmps4
  go_wp2_with fail
  refine HSZ.out.mono ?_
  rintro e w1 ⟨rfl, b1⟩
  have W1 := hide b1
  clear b1
  by_cases hneg : r < 0
  · have hneg' : decide (r < 0) = true := by simp; omega
    go_wp2
    go_ret
    exact ⟨rfl, W1.out⟩
  have hneg' : decide (r < 0) = false := by simp; omega
  obtain ⟨hl1, hs1⟩ := HN.out (by omega)
  have HS1 := hide hs1
  clear hs1
  have HTO := hide (fun W (hW : Below w.heap.size w W) => toEntryS_any es ao cap W hl1 (entriesAt_keep HT.out hW) HS1.out)
  go_wp2_with fail
  refine (HTO.out _ W1.out).mono ?_
  rintro e w2 ⟨⟨v2, rfl, r2⟩, b2⟩
  obtain ⟨a2, c2, rfl, h2⟩ := rowEnt_at r2
  have HX2 := hide h2
  have W2 := hide (W1.out.trans (b2.mono W1.out.size))
  clear r2 b2 h2
  go_wp2_with fail
  refine (specTableOk_any es a2 c2 _ R HR.out hl1 HX2.out HS1.out).mono ?_
  rintro e w3 ⟨rfl, b3⟩
  have W3 := hide (W2.out.trans (b3.mono W2.out.size))
  clear b3
  go_wp2_with fail
  refine (HTO.out _ W3.out).mono ?_
  rintro e w4 ⟨⟨v4, rfl, r4⟩, b4⟩
  obtain ⟨a4, c4, rfl, h4⟩ := rowEnt_at r4
  have HX4 := hide h4
  have W4 := hide (W3.out.trans (b4.mono W3.out.size))
  clear r4 b4 h4
  go_wp2_with fail
  refine (implTableOk_any es a4 c4 _ R HR.out hl1 HX4.out HS1.out).mono ?_
  rintro e w5 ⟨rfl, b5⟩
  have W5 := hide (W4.out.trans (b5.mono W4.out.size))
  have HX5 := hide (entriesAt_keep HX4.out b5)
  clear b5
  have hRR : (R == R) = true := beq_self_eq_true _
  go_wp2_with fail
  refine (HTO.out _ W5.out).mono ?_
  rintro e w6 ⟨⟨v6, rfl, r6⟩, b6⟩
  obtain ⟨a6, c6, rfl, h6⟩ := rowEnt_at r6
  have HX6 := hide h6
  have HX56 := hide (entriesAt_keep HX5.out b6)
  have W6 := hide (W5.out.trans (b6.mono W5.out.size))
  clear r6 b6 h6
  go_wp2_with fail
  refine (eqEntryS_same es a4 a6 c4 c6 _ hl1 (fun e he => (HS1.out e he).2.2.1) HX56.out HX6.out).mono ?_
  rintro e w7 ⟨rfl, b7⟩
  have W7 := hide (W6.out.trans (b7.mono W6.out.size))
  clear b7
  go_wp2
  go_ret
  exact ⟨rfl, W7.out⟩
end Go.Proofs.Ytiokajdkgkpeiaa
