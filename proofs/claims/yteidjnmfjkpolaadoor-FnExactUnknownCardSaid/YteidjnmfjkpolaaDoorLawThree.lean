/- The laws on ArityOk, Writes and Unknown: both sides tell the same, and the argument reads as it read before. -/
import Derived.Test.YteidjnmfjkpolaaDoorL13P
import Derived.Test.YteidjnmfjkpolaaDoorTxtOf
namespace Go.Proofs.YteidjnmfjkpolaaDoor
open Go.RowKit

set_option maxRecDepth 100000 in
set_option maxHeartbeats 1000000 in
theorem lawArityOk (ts : List ByteArray) (ao : Option Addr) (cap : Nat) (w : World) (hl : ts.length ≤ maxLen) (hts : TextsAt w ao ts) (hz : ∀ x ∈ ts, x.size ≤ maxLen) :
    Calls Tryd.prog 4 #[.slice ao ts.length cap] w fun e w' => e = .returned (.bool true) ∧ Below w.heap.size w w' := by
  have SZ := hide (szStringS_any ts ao cap 1048576 w (by omega) (by omega) hl hts hz)
  have HT := hide hts
  obtain ⟨N, HN⟩ : ∃ N, Hid (szTx ts 1048576 = N) := ⟨_, rfl⟩
  rw [HN.out] at SZ
  clear hts hz hl
  by_cases hneg : N < 0
  · have hneg' : decide (N < 0) = true := by simp; omega
    go_enter Tryd.func4, Tryd.ntmps4
    go_wp2_with fail
    refine SZ.out.mono ?_
    rintro e w1 ⟨rfl, b1⟩
    go_wp2
    go_ret
    exact ⟨rfl, b1⟩
  · have hneg' : decide (N < 0) = false := by simp; omega
    have hsm := szTx_small (ts := ts) (n := 1048576) (by omega) (by rw [HN.out]; omega) (by omega)
    have hl := hsm.1
    have HZ := hide hsm.2
    clear hsm
    have TS := hide (fun W (h : Below w.heap.size w W) => toStringS_any ts ao cap W hl (textsAt_keep HT.out h))
    have SP := hide (fun W (a : Option Addr) (c : Nat) (h : TextsAt W a ts) => specArity_any ts a c W hl h HZ.out)
    have IM := hide (fun W (a : Option Addr) (c : Nat) (h : TextsAt W a ts) => implArityOk_any ts a c W hl h HZ.out)
    obtain ⟨R, HR⟩ : ∃ R, Hid (okS ts = R) := ⟨_, rfl⟩
    rw [HR.out] at SP IM
    have he : (R == R) = true := beq_self_eq_true _
    clear HR HN
    go_enter Tryd.func4, Tryd.ntmps4
    go_wp2_with fail
    refine SZ.out.mono ?_
    rintro e w1 ⟨rfl, b1⟩
    have B1 := hide b1
    have z1 := b1.size
    clear b1 SZ
    go_wp2_with fail
    refine (TS.out _ B1.out).mono ?_
    rintro e w2 ⟨⟨v2, rfl, r2⟩, b2⟩
    obtain ⟨a2, c2, rfl, t2⟩ := rowText_at r2
    have T2 := hide t2
    have B2 := hide (B1.out.trans (b2.mono z1))
    have z2 := B2.out.size
    clear r2 t2 b2
    go_wp2_with fail
    refine (SP.out _ a2 c2 T2.out).mono ?_
    rintro e w3 ⟨rfl, b3⟩
    have B3 := hide (B2.out.trans (b3.mono z2))
    have z3 := B3.out.size
    clear b3
    go_wp2_with fail
    refine (TS.out _ B3.out).mono ?_
    rintro e w4 ⟨⟨v4, rfl, r4⟩, b4⟩
    obtain ⟨a4, c4, rfl, t4⟩ := rowText_at r4
    have T4 := hide t4
    have B4 := hide (B3.out.trans (b4.mono z3))
    have z4 := B4.out.size
    clear r4 t4 b4
    go_wp2_with fail
    refine (IM.out _ a4 c4 T4.out).mono ?_
    rintro e w5 ⟨rfl, b5⟩
    have T5 := hide (textsAt_keep T4.out b5)
    have B5 := hide (B4.out.trans (b5.mono z4))
    have z5 := B5.out.size
    clear b5
    go_wp2_with fail
    refine (TS.out _ B5.out).mono ?_
    rintro e w6 ⟨⟨v6, rfl, r6⟩, b6⟩
    obtain ⟨a6, c6, rfl, t6⟩ := rowText_at r6
    have EQ := hide (eqStringS_same ts a4 a6 c4 c6 w6 (by unfold maxLen; omega) (textsAt_keep T5.out b6) t6)
    have B6 := hide (B5.out.trans (b6.mono z5))
    have z6 := B6.out.size
    clear r6 t6 b6
    go_wp2_with fail
    refine EQ.out.mono ?_
    rintro e w7 ⟨rfl, b7⟩
    go_wp2
    go_ret
    exact ⟨rfl, B6.out.trans (b7.mono z6)⟩

set_option maxRecDepth 100000 in
set_option maxHeartbeats 1000000 in
theorem lawWrites (ts : List ByteArray) (ao : Option Addr) (cap : Nat) (w : World) (hl : ts.length ≤ maxLen) (hts : TextsAt w ao ts) (hz : ∀ x ∈ ts, x.size ≤ maxLen) :
    Calls Tryd.prog 5 #[.slice ao ts.length cap] w fun e w' => e = .returned (.bool true) ∧ Below w.heap.size w w' := by
  have SZ := hide (szStringS_any ts ao cap 1048576 w (by omega) (by omega) hl hts hz)
  have HT := hide hts
  obtain ⟨N, HN⟩ : ∃ N, Hid (szTx ts 1048576 = N) := ⟨_, rfl⟩
  rw [HN.out] at SZ
  clear hts hz hl
  by_cases hneg : N < 0
  · have hneg' : decide (N < 0) = true := by simp; omega
    go_enter Tryd.func5, Tryd.ntmps5
    go_wp2_with fail
    refine SZ.out.mono ?_
    rintro e w1 ⟨rfl, b1⟩
    go_wp2
    go_ret
    exact ⟨rfl, b1⟩
  · have hneg' : decide (N < 0) = false := by simp; omega
    have hsm := szTx_small (ts := ts) (n := 1048576) (by omega) (by rw [HN.out]; omega) (by omega)
    have hl := hsm.1
    have HZ := hide hsm.2
    clear hsm
    have TS := hide (fun W (h : Below w.heap.size w W) => toStringS_any ts ao cap W hl (textsAt_keep HT.out h))
    have SP := hide (fun W (a : Option Addr) (c : Nat) (h : TextsAt W a ts) => specWrites_any ts a c W hl h HZ.out)
    have IM := hide (fun W (a : Option Addr) (c : Nat) (h : TextsAt W a ts) => implWrites_any ts a c W hl h HZ.out)
    obtain ⟨R, HR⟩ : ∃ R, Hid (writesS ts = R) := ⟨_, rfl⟩
    rw [HR.out] at SP IM
    have he : (R == R) = true := beq_self_eq_true _
    clear HR HN
    go_enter Tryd.func5, Tryd.ntmps5
    go_wp2_with fail
    refine SZ.out.mono ?_
    rintro e w1 ⟨rfl, b1⟩
    have B1 := hide b1
    have z1 := b1.size
    clear b1 SZ
    go_wp2_with fail
    refine (TS.out _ B1.out).mono ?_
    rintro e w2 ⟨⟨v2, rfl, r2⟩, b2⟩
    obtain ⟨a2, c2, rfl, t2⟩ := rowText_at r2
    have T2 := hide t2
    have B2 := hide (B1.out.trans (b2.mono z1))
    have z2 := B2.out.size
    clear r2 t2 b2
    go_wp2_with fail
    refine (SP.out _ a2 c2 T2.out).mono ?_
    rintro e w3 ⟨rfl, b3⟩
    have B3 := hide (B2.out.trans (b3.mono z2))
    have z3 := B3.out.size
    clear b3
    go_wp2_with fail
    refine (TS.out _ B3.out).mono ?_
    rintro e w4 ⟨⟨v4, rfl, r4⟩, b4⟩
    obtain ⟨a4, c4, rfl, t4⟩ := rowText_at r4
    have T4 := hide t4
    have B4 := hide (B3.out.trans (b4.mono z3))
    have z4 := B4.out.size
    clear r4 t4 b4
    go_wp2_with fail
    refine (IM.out _ a4 c4 T4.out).mono ?_
    rintro e w5 ⟨rfl, b5⟩
    have T5 := hide (textsAt_keep T4.out b5)
    have B5 := hide (B4.out.trans (b5.mono z4))
    have z5 := B5.out.size
    clear b5
    go_wp2_with fail
    refine (TS.out _ B5.out).mono ?_
    rintro e w6 ⟨⟨v6, rfl, r6⟩, b6⟩
    obtain ⟨a6, c6, rfl, t6⟩ := rowText_at r6
    have EQ := hide (eqStringS_same ts a4 a6 c4 c6 w6 (by unfold maxLen; omega) (textsAt_keep T5.out b6) t6)
    have B6 := hide (B5.out.trans (b6.mono z5))
    have z6 := B6.out.size
    clear r6 t6 b6
    go_wp2_with fail
    refine EQ.out.mono ?_
    rintro e w7 ⟨rfl, b7⟩
    go_wp2
    go_ret
    exact ⟨rfl, B6.out.trans (b7.mono z6)⟩

set_option maxRecDepth 100000 in
set_option maxHeartbeats 1000000 in
theorem lawUnknown (ts : List ByteArray) (ao : Option Addr) (cap : Nat) (w : World) (hl : ts.length ≤ maxLen) (hts : TextsAt w ao ts) (hz : ∀ x ∈ ts, x.size ≤ maxLen) :
    Calls Tryd.prog 6 #[.slice ao ts.length cap] w fun e w' => e = .returned (.bool true) ∧ Below w.heap.size w w' := by
  have SZ := hide (szStringS_any ts ao cap 1048576 w (by omega) (by omega) hl hts hz)
  have HT := hide hts
  obtain ⟨N, HN⟩ : ∃ N, Hid (szTx ts 1048576 = N) := ⟨_, rfl⟩
  rw [HN.out] at SZ
  clear hts hz hl
  by_cases hneg : N < 0
  · have hneg' : decide (N < 0) = true := by simp; omega
    go_enter Tryd.func6, Tryd.ntmps6
    go_wp2_with fail
    refine SZ.out.mono ?_
    rintro e w1 ⟨rfl, b1⟩
    go_wp2
    go_ret
    exact ⟨rfl, b1⟩
  · have hneg' : decide (N < 0) = false := by simp; omega
    have hsm := szTx_small (ts := ts) (n := 1048576) (by omega) (by rw [HN.out]; omega) (by omega)
    have hl := hsm.1
    have HZ := hide hsm.2
    clear hsm
    have TS := hide (fun W (h : Below w.heap.size w W) => toStringS_any ts ao cap W hl (textsAt_keep HT.out h))
    have SP := hide (fun W (a : Option Addr) (c : Nat) (h : TextsAt W a ts) => specUnknown_any ts a c W hl h HZ.out)
    have IM := hide (fun W (a : Option Addr) (c : Nat) (h : TextsAt W a ts) => implUnknown_any ts a c W hl h HZ.out)
    obtain ⟨R, HR⟩ : ∃ R, Hid (unkS ts = R) := ⟨_, rfl⟩
    rw [HR.out] at SP IM
    have he : (R.toList == R.toList) = true := beq_self_eq_true _
    clear HR HN
    go_enter Tryd.func6, Tryd.ntmps6
    go_wp2_with fail
    refine SZ.out.mono ?_
    rintro e w1 ⟨rfl, b1⟩
    have B1 := hide b1
    have z1 := b1.size
    clear b1 SZ
    go_wp2_with fail
    refine (TS.out _ B1.out).mono ?_
    rintro e w2 ⟨⟨v2, rfl, r2⟩, b2⟩
    obtain ⟨a2, c2, rfl, t2⟩ := rowText_at r2
    have T2 := hide t2
    have B2 := hide (B1.out.trans (b2.mono z1))
    have z2 := B2.out.size
    clear r2 t2 b2
    go_wp2_with fail
    refine (SP.out _ a2 c2 T2.out).mono ?_
    rintro e w3 ⟨rfl, b3⟩
    have B3 := hide (B2.out.trans (b3.mono z2))
    have z3 := B3.out.size
    clear b3
    go_wp2_with fail
    refine (TS.out _ B3.out).mono ?_
    rintro e w4 ⟨⟨v4, rfl, r4⟩, b4⟩
    obtain ⟨a4, c4, rfl, t4⟩ := rowText_at r4
    have T4 := hide t4
    have B4 := hide (B3.out.trans (b4.mono z3))
    have z4 := B4.out.size
    clear r4 t4 b4
    go_wp2_with fail
    refine (IM.out _ a4 c4 T4.out).mono ?_
    rintro e w5 ⟨rfl, b5⟩
    have T5 := hide (textsAt_keep T4.out b5)
    have B5 := hide (B4.out.trans (b5.mono z4))
    have z5 := B5.out.size
    clear b5
    go_wp2_with fail
    refine (TS.out _ B5.out).mono ?_
    rintro e w6 ⟨⟨v6, rfl, r6⟩, b6⟩
    obtain ⟨a6, c6, rfl, t6⟩ := rowText_at r6
    have EQ := hide (eqStringS_same ts a4 a6 c4 c6 w6 (by unfold maxLen; omega) (textsAt_keep T5.out b6) t6)
    have B6 := hide (B5.out.trans (b6.mono z5))
    have z6 := B6.out.size
    clear r6 t6 b6
    go_wp2_with fail
    refine EQ.out.mono ?_
    rintro e w7 ⟨rfl, b7⟩
    go_wp2
    go_ret
    exact ⟨rfl, B6.out.trans (b7.mono z6)⟩
end Go.Proofs.YteidjnmfjkpolaaDoor
