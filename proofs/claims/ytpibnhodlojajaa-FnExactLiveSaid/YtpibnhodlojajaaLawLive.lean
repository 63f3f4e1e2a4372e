/- The law of Live. -/
import Derived.Test.YtpibnhodlojajaaLvI
import Derived.Test.YtpibnhodlojajaaEntM
namespace Go.Proofs.Ytpibnhodlojajaa
open Go.RowKit

theorem sumI_live (now : Int) : ∀ es : List EntD, sumI (liveDs now es) ≤ sumI es
  | [] => Nat.le_refl _
  | e :: r => by
    have := sumI_live now r
    unfold liveDs at this ⊢
    rw [List.filter_cons]
    split
    · simp only [sumI]; omega
    · simp only [sumI]; omega

set_option maxRecDepth 100000 in
set_option maxHeartbeats 3200000 in
theorem lawLive (es : List EntD) (ao : Option Addr) (cap : Nat) (now : Int) (w : World) (hl0 : es.length ≤ maxLen) (hes : EntriesAt w ao es) (hsz0 : ∀ e ∈ es, EntS maxLen e) (_hn : (Lit.int .i64 now).wf = true) :
    Calls Try.prog 3 #[.slice ao es.length cap, .int .i64 now] w fun e w' => e = .returned (.bool true) ∧ Below w.heap.size w w' := by
  have HT := hide hes
  have HS := hide hsz0
  clear hes hsz0
  have HN := hide (szEs_small (es := es) (n := 1048576) (by omega) (by omega))
  have HSU := hide (szEs_sum (es := es) (n := 1048576))
  have HSZ := hide (szEntryS_any es ao cap 1048576 w (by decide) (by decide) hl0 HT.out HS.out)
  generalize szEs es 1048576 = r at HN HSZ HSU
  go_enter Try.func3, Try.ntmps3
  go_wp2_with fail
  refine HSZ.out.mono ?_
  rintro e w1 ⟨rfl, b1⟩
  have W1 := hide b1
  clear b1
  by_cases hneg : r < 0
  · have hneg' : decide (r < 0) = true := by simp; omega
    go_wp2
    go_ret
    exact ⟨rfl, W1.out⟩
  have hneg' : decide (r < 0) = false := by simp; omega
  obtain ⟨hl1, hs1⟩ := HN.out (by omega)
  have hsum : 4 * es.length + sumI es ≤ 6000000 := by have := HSU.out (by omega); omega
  have HS1 := hide hs1
  have HIC : Hid (∀ e ∈ es, e.val.items.length ≤ 1048576) := fun e he => (HS1.out e he).2.2.1
  have HIL : Hid (∀ e ∈ liveDs now es, e.val.items.length ≤ 1048576) := fun e he => (HS1.out e (List.mem_filter.1 he).1).2.2.1
  have hsumL : 4 * (liveDs now es).length + sumI (liveDs now es) ≤ 6000000 := by have := sumI_live now es; have := liveDs_len now es; omega
  have hLl : (liveDs now es).length ≤ 1048576 := Nat.le_trans (liveDs_len now es) hl1
  clear hs1
  have HTO := hide (fun W (hW : Below w.heap.size w W) => toEntryS_any es ao cap W hl1 (entriesAt_keep HT.out hW) HS1.out)
  have HSP := hide (fun a c W h => specLive_any es now a c W hl1 h HS1.out)
  have HIM := hide (fun a c W h => implLive_any es now a c W hl1 h HS1.out)
  generalize liveDs now es = L at HSP HIM HIL hsumL hLl
  have HEQ := hide (fun a a2 c c2 W (h1 : EntriesAt W a L) (h2 : EntriesAt W a2 L) => eqEntryS_same L a a2 c c2 W hLl HIL.out h1 h2)
  obtain ⟨KE, HKE⟩ : ∃ KE : Int, Hid (((markEEnd 1 es : Nat) : Int) = KE) := ⟨_, rfl⟩
  have hKE : decide (KE < 0) = false := by have := HKE.out; simp; omega
  obtain ⟨KM, HKM⟩ : ∃ KM : Int, Hid (((markEEnd 1 L : Nat) : Int) = KM) := ⟨_, rfl⟩
  have hKM : decide (KM < 0) = false := by have := HKM.out; simp; omega
  have hKK : (!(KM == KM)) = false := by simp
  go_wp2_with fail
  refine (HTO.out _ W1.out).mono ?_
  rintro e w2 ⟨⟨v2, rfl, r2⟩, b2⟩
  obtain ⟨a2, c2, rfl, h2⟩ := rowEnt_at r2
  have HX2 := hide h2
  have W2 := hide (W1.out.trans (b2.mono W1.out.size))
  clear r2 b2 h2
  go_wp2_with fail
  refine (HSP.out _ _ _ HX2.out).mono ?_
  rintro e w3 ⟨⟨v3, rfl, r3⟩, b3⟩
  obtain ⟨a3, c3, rfl, h3⟩ := rowEnt_at r3
  have R3 := hide r3
  have W3 := hide (W2.out.trans (b3.mono W2.out.size))
  clear b3 r3 HX2 h3
  go_wp2_with fail
  refine (HTO.out _ W3.out).mono ?_
  rintro e w4 ⟨⟨v4, rfl, r4⟩, b4⟩
  obtain ⟨a4, c4, rfl, h4⟩ := rowEnt_at r4
  have R4 := hide r4
  have HX4 := hide h4
  have B34 := hide b4
  have W4 := hide (W3.out.trans (b4.mono W3.out.size))
  have hs4 : w3.heap.size ≤ w4.heap.size := b4.size
  clear r4 h4 b4
  go_wp2_with fail
  refine (HIM.out _ _ _ HX4.out).mono ?_
  rintro e w5 ⟨⟨v5, rfl, r5⟩, b5⟩
  obtain ⟨a5, c5, rfl, h5⟩ := rowEnt_at r5
  have R5 := hide r5
  have HX5 := hide h5
  have B45 := hide b5
  have B35 := hide (B34.out.trans (b5.mono hs4))
  have W5 := hide (W4.out.trans (b5.mono W4.out.size))
  have hs5 : w4.heap.size ≤ w5.heap.size := b5.size
  clear r5 b5 h5
  have HX3 := hide (rowEnt_rows (rowEnt_below R3.out B35.out)).2
  go_wp2_with fail
  refine (HEQ.out _ _ _ _ _ HX5.out (rowEnt_rows (rowEnt_below R3.out B35.out)).2).mono ?_
  rintro e w6 ⟨rfl, b6⟩
  have B56 := hide b6
  have B46 := hide (B45.out.trans (b6.mono B45.out.size))
  have W6 := hide (W5.out.trans (b6.mono W5.out.size))
  clear b6
  go_wp2_with fail
  refine (HTO.out _ W6.out).mono ?_
  rintro e w7 ⟨⟨v7, rfl, r7⟩, b7⟩
  obtain ⟨a7, c7, rfl, h7⟩ := rowEnt_at r7
  have HX7 := hide h7
  have B57 := hide (B56.out.trans (b7.mono B56.out.size))
  have B47 := hide (B46.out.trans (b7.mono B46.out.size))
  have W7 := hide (W6.out.trans (b7.mono W6.out.size))
  clear r7 h7 b7
  go_wp2_with fail
  refine (eqEntryS_same es a4 a7 c4 c7 _ hl1 HIC.out (entriesAt_keep HX4.out B47.out) HX7.out).mono ?_
  rintro e w8 ⟨rfl, b8⟩
  have B58 := hide (B57.out.trans (b8.mono B57.out.size))
  have B48 := hide (B47.out.trans (b8.mono B47.out.size))
  have B38 := hide (B34.out.trans (B48.out.mono hs4))
  have W8 := hide (W7.out.trans (b8.mono W7.out.size))
  have hs8 : w5.heap.size ≤ w8.heap.size := B58.out.size
  clear b8
  go_wp2_with fail
  refine (markEntryS_row _ es w3.heap.size 1 _ hsum HIC.out (by omega) (by omega) (rowEnt_below R4.out B48.out) w4.heap.size (topE_below (topE_of R4.out) (Nat.le_refl _) B48.out)).mono ?_
  rintro e w9 ⟨rfl, -, b9, t9⟩
  rw [HKE.out]
  have B39 := hide (B38.out.trans b9)
  have W9 := hide (W8.out.trans (b9.mono W3.out.size))
  have hs9 : w8.heap.size ≤ w9.heap.size := b9.size
  have R39 := hide (rowEnt_below R3.out B39.out)
  have R59 : Hid (RowEnt w9 w4.heap.size (.slice a5 L.length c5) L) := rowEnt_keep R5.out (fun b h1 h2 => (t9 b h1 (by omega)).trans (B58.out.block b h2))
  clear b9 t9
  go_wp2_with fail
  refine (HEQ.out _ _ _ _ _ (rowEnt_rows R59.out).2 (rowEnt_rows R39.out).2).mono ?_
  rintro e w10 ⟨rfl, b10⟩
  have B3A := hide (B39.out.trans (b10.mono B39.out.size))
  have W10 := hide (W9.out.trans (b10.mono W9.out.size))
  have R5A := hide (rowEnt_below R59.out b10)
  have hs10 : w9.heap.size ≤ w10.heap.size := b10.size
  clear b10
  go_wp2_with fail
  refine (markEntryS_row _ L w4.heap.size 1 _ hsumL HIL.out (by omega) (by omega) R5A.out _ (topE_of R5A.out)).mono ?_
  rintro e w11 ⟨rfl, r11, b11, -⟩
  rw [HKM.out]
  have K11 := hide (rowEnt_rows r11).2
  have B3B := hide (B3A.out.trans (b11.mono hs4))
  have W11 := hide (W10.out.trans (b11.mono W4.out.size))
  have R3B := hide (rowEnt_below R3.out B3B.out)
  clear r11 b11
  go_wp2_with fail
  refine (heldEntryS_any a5 c5 L 1 _ hsumL HIL.out (by omega) (by omega) K11.out).mono ?_
  rintro e w12 ⟨rfl, b12⟩
  rw [HKM.out]
  have X12 := hide b12
  have W12 := hide (W11.out.trans (b12.mono W11.out.size))
  clear b12
  go_wp2_with fail
  refine (HTO.out _ W12.out).mono ?_
  rintro e w13 ⟨⟨v13, rfl, r13⟩, b13⟩
  obtain ⟨a13, c13, rfl, h13⟩ := rowEnt_at r13
  have HX13 := hide h13
  have X13 := hide (X12.out.trans (b13.mono X12.out.size))
  clear r13 h13 b13
  go_wp2_with fail
  refine (HIM.out _ _ _ HX13.out).mono ?_
  rintro e w14 ⟨⟨v14, rfl, r14⟩, b14⟩
  obtain ⟨a14, c14, rfl, h14⟩ := rowEnt_at r14
  have HX14 := hide h14
  have X14 := hide (X13.out.trans (b14.mono X13.out.size))
  clear r14 b14 h14
  go_wp2_with fail
  refine (HEQ.out _ _ _ _ _ HX14.out (entriesAt_keep (rowEnt_rows R3B.out).2 X14.out)).mono ?_
  rintro e w15 ⟨rfl, b15⟩
  have X15 := hide (X14.out.trans (b15.mono X14.out.size))
  clear b15
  go_wp2_with fail
  refine (heldEntryS_any a5 c5 L 1 _ hsumL HIL.out (by omega) (by omega) (entriesAt_keep K11.out X15.out)).mono ?_
  rintro e w16 ⟨rfl, b16⟩
  rw [HKM.out]
  have X16 := hide (X15.out.trans (b16.mono X15.out.size))
  clear b16
  go_wp2
  go_ret
  exact ⟨rfl, W11.out.trans (X16.out.mono W11.out.size)⟩
end Go.Proofs.Ytpibnhodlojajaa
