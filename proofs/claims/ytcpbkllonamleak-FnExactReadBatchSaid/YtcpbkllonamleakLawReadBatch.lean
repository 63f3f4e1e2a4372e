/- The law of ReadBatch, but for the program's own function. -/
import Derived.Test.YtcpbkllonamleakBatchL
import Derived.Test.YtcpbkllonamleakBatchS3
import Derived.Test.YtcpbkllonamleakBatchQ
import Derived.Test.YtcpbkllonamleakTwoCells
import Derived.Deep.CutRange
namespace Go.Proofs.Ytcpbkllonamleak
open Go.RowKit

theorem rdChanges_len (t : ByteArray) : (rdChanges t).length ≤ 40 := by
  cases h : rdOk t
  · unfold rdChanges
    rw [h]
    exact Nat.zero_le _
  · have h1 := (rd_text h).1
    unfold textOkD at h1
    simp only [Bool.and_eq_true] at h1
    exact (batchOkD_bounds h1.1).2.2.2
theorem two_grown {w w' : World} {p : Nat} {row : Option Nat} {a b : Value} (h : w.cell? ⟨p, 0, none⟩ = some a ∧ w.cell? ⟨p, 1, none⟩ = some b) (hg : w.grownBy w' row) (hlt : p < w.heap.size) (hne : some p ≠ row) : w'.cell? ⟨p, 0, none⟩ = some a ∧ w'.cell? ⟨p, 1, none⟩ = some b :=
  ⟨(hg.cell_far ⟨p, 0, none⟩ hlt hne).trans h.1, (hg.cell_far ⟨p, 1, none⟩ hlt hne).trans h.2⟩

set_option maxRecDepth 100000 in
set_option maxHeartbeats 1600000 in
theorem lawReadBatch_of (HI0 : ∀ (t : ByteArray) (w : World), t.size ≤ 1048576 → Calls Try.prog 15 #[.string t] w fun e w' => (∃ v, e = .returned (.tuple #[.agg #[.int .i64 (rdSeq t), v], .bool (rdOk t)]) ∧ RowChange w' w.heap.size v (rdChanges t)) ∧ Below w.heap.size w w')
    (t : ByteArray) (w : World) (hz : t.size ≤ maxLen) :
    Calls Try.prog 5 #[.string t] w fun e w' => e = .returned (.bool true) ∧ Below w.heap.size w w' := by
  unfold maxLen at hz
  by_cases hbig : 1048576 < t.size
  · have hbig' : decide ((1048576 : Int) < (t.size : Int)) = true := by simp; omega
    go_enter Try.func5, Try.ntmps5
    go_wp2
    go_ret
    exact ⟨rfl, Below.refl _ _⟩
  · have hbig' : decide ((1048576 : Int) < (t.size : Int)) = false := by simp; omega
    have HI := hide (fun W => HI0 t W (by omega))
    have HSp := hide (fun W => specReadBatch_any t W (by omega))
    have hn := rdChanges_len t
    clear HI0
    generalize rdSeq t = s at HI HSp
    generalize rdChanges t = fs at HI HSp hn
    generalize rdOk t = ok at HI HSp
    have hss : (!(s == s)) = false := by simp
    have hoo : (!(ok == ok)) = false := by simp
    obtain ⟨R, HR⟩ : ∃ R : Int, Hid (((1 + 3 * fs.length : Nat) : Int) = R) := ⟨_, rfl⟩
    have hR : decide (R < 0) = false := by have := HR.out; simp; omega
    have hRR : (!(R == R)) = false := by simp
    go_enter Try.func5, Try.ntmps5
    go_wp2_with fail
    refine (HSp.out _).mono ?_
    rintro e w1 ⟨⟨v1, rfl, r1⟩, b1⟩
    obtain ⟨a1, c1, rfl, -⟩ := rowChange_at r1
    have R1 := hide r1
    have B1 := hide b1
    have hww : w.heap.size ≤ w1.heap.size := B1.out.size
    clear r1 b1
    obtain ⟨wA, hwA⟩ : ∃ wA, wA = w1.alloc (.cells #[.int .i64 s, (.slice a1 fs.length c1)] 29) := ⟨_, rfl⟩
    have BA : Hid (Below w1.heap.size w1 wA) := by rw [hwA]; exact (Below.refl _ w1).alloc (Nat.le_refl _) _
    have hAs : wA.heap.size = w1.heap.size + 1 := by rw [hwA]; simp
    have TA : Hid (wA.cell? ⟨w1.heap.size, 0, none⟩ = some (.int .i64 s) ∧ wA.cell? ⟨w1.heap.size, 1, none⟩ = some (.slice a1 fs.length c1)) := by rw [hwA]; exact two_new _ _ _ _
    have hAs' := hide hAs
    go_wp2_with fail
    rw [← hwA]
    clear hwA hAs
    refine (HI.out _).mono ?_
    rintro e w2 ⟨⟨v2, rfl, r2⟩, b2⟩
    obtain ⟨a2, c2, rfl, -⟩ := rowChange_at r2
    have R2 := hide r2
    have B2 := hide b2
    clear r2 b2
    obtain ⟨wB, hwB⟩ : ∃ wB, wB = w2.alloc (.cells #[.int .i64 s, (.slice a2 fs.length c2)] 29) := ⟨_, rfl⟩
    have BB : Hid (Below w2.heap.size w2 wB) := by rw [hwB]; exact (Below.refl _ w2).alloc (Nat.le_refl _) _
    have hBs : wB.heap.size = w2.heap.size + 1 := by rw [hwB]; simp
    have TB : Hid (wB.cell? ⟨w2.heap.size, 0, none⟩ = some (.int .i64 s) ∧ wB.cell? ⟨w2.heap.size, 1, none⟩ = some (.slice a2 fs.length c2)) := by rw [hwB]; exact two_new _ _ _ _
    have hsA : w1.heap.size < w2.heap.size := by have := B2.out.size; have := hAs'.out; omega
    have TA2 : Hid (wB.cell? ⟨w1.heap.size, 0, none⟩ = some (.int .i64 s) ∧ wB.cell? ⟨w1.heap.size, 1, none⟩ = some (.slice a1 fs.length c1)) := two_keep (two_keep TA.out B2.out (by have := hAs'.out; omega)) BB.out hsA
    have R1B : Hid (RowChange wB w.heap.size (.slice a1 fs.length c1) fs) := rowChange_below (rowChange_below (rowChange_below R1.out BA.out) B2.out) BB.out
    have R2B : Hid (RowChange wB wA.heap.size (.slice a2 fs.length c2) fs) := rowChange_below R2.out BB.out
    have hg1 : ∀ g, (Value.slice a1 fs.length c1).ownBlock = some g → g < w1.heap.size := fun g h => (rowChange_lt R1.out g h).2
    have hg2 : ∀ g, (Value.slice a2 fs.length c2).ownBlock = some g → w1.heap.size + 1 ≤ g ∧ g < w2.heap.size := fun g h => by have := rowChange_lt R2.out g h; have := hAs'.out; omega
    have WB : Hid (Below w.heap.size w wB) := ((B1.out.trans (BA.out.mono B1.out.size)).trans (B2.out.mono (Nat.le_trans B1.out.size BA.out.size))).trans (BB.out.mono (Nat.le_trans B1.out.size (by omega)))
    have HG1 := hide hg1
    have HG2 := hide hg2
    have HBs := hide hBs
    have K1 := hide (rowChange_rows R1B.out)
    have K2 := hide (rowChange_rows R2B.out)
    go_upto_region 5 with fail
    rw [← hwB]
    clear hwB hBs hg1 hg2 TA R1 R2 BA B1 B2 BB
    obtain ⟨hp0, hp1⟩ := TA2.out
    obtain ⟨hq0, hq1⟩ := TB.out
    have QE : Hid (∀ W, Below wB.heap.size wB W → Calls Try.prog 11 #[.agg #[.int .i64 s, (.slice a2 fs.length c2)], .agg #[.int .i64 s, (.slice a1 fs.length c1)]] W fun e w' => e = .returned (.bool true) ∧ Below W.heap.size W w') := fun W hW => eqBatch_same s fs a2 a1 c2 c1 W (by unfold maxLen; omega) (changesAt_keep K2.out hW) (changesAt_keep K1.out hW)
    go_wp2_with fail
    refine (QE.out _ (Below.refl _ _)).mono ?_
    rintro e w3 ⟨rfl, b3⟩
    have B3 := hide b3
    clear b3 hp0 hp1 hq0 hq1
    have hs3 : wB.heap.size ≤ w3.heap.size := B3.out.size
    have TP3 := hide (two_keep TA2.out B3.out (by have := HBs.out; omega))
    have TQ3 := hide (two_keep TB.out B3.out (by have := HBs.out; omega))
    obtain ⟨hq0, hq1⟩ := TQ3.out
    go_wp2_with fail
    refine (markBatch_row s (.slice a2 fs.length c2) fs wA.heap.size 1 _ (by omega) (by omega) (by omega) (rowChange_below R2B.out B3.out)).mono ?_
    rintro e w4 ⟨rfl, r4, g4⟩
    rw [HR.out]
    have R4 := hide r4
    have G4 := hide g4
    clear r4 g4 hq0 hq1
    have hs4 : w3.heap.size ≤ w4.heap.size := G4.out.size
    have TP4 := hide (two_grown TP3.out G4.out (by have := HBs.out; omega) (fun e => by have := (HG2.out _ e.symm).1; omega))
    have TQ4 := hide (two_grown TQ3.out G4.out (by have := HBs.out; omega) (fun e => by have := (HG2.out _ e.symm).2; omega))
    have R14 : Hid (RowChange w4 w.heap.size (.slice a1 fs.length c1) fs) := rowChange_grown (rowChange_below R1B.out B3.out) G4.out (fun g hg e => by have h1 := HG1.out g hg; have h2 := (HG2.out g e.symm).1; omega)
    have W4 : Hid (Below w.heap.size w w4) := (WB.out.trans (B3.out.mono WB.out.size)).grown G4.out (Nat.le_trans WB.out.size hs3) (fun g hg => by have := (HG2.out g hg).1; omega)
    obtain ⟨hq0, hq1⟩ := TQ4.out
    go_wp2_with fail
    refine (heldBatch_row s (.slice a2 fs.length c2) fs.length wA.heap.size 1 _ (by omega) (by omega) (by omega) R4.out).mono ?_
    rintro e w5 ⟨rfl, b5⟩
    rw [HR.out]
    have B5 := hide b5
    clear b5 hq0 hq1
    go_wp2_with fail
    refine (HI.out _).mono ?_
    rintro e w6 ⟨⟨v3, rfl, r6⟩, b6⟩
    obtain ⟨a3, c3, rfl, -⟩ := rowChange_at r6
    have R6 := hide r6
    have B6 := hide b6
    clear r6 b6
    obtain ⟨wC, hwC⟩ : ∃ wC, wC = w6.alloc (.cells #[.int .i64 s, (.slice a3 fs.length c3)] 29) := ⟨_, rfl⟩
    have BC : Hid (Below w6.heap.size w6 wC) := by rw [hwC]; exact (Below.refl _ w6).alloc (Nat.le_refl _) _
    have hCs : wC.heap.size = w6.heap.size + 1 := by rw [hwC]; simp
    have TC : Hid (wC.cell? ⟨w6.heap.size, 0, none⟩ = some (.int .i64 s) ∧ wC.cell? ⟨w6.heap.size, 1, none⟩ = some (.slice a3 fs.length c3)) := by rw [hwC]; exact two_new _ _ _ _
    have BD : Hid (Below w4.heap.size w4 wC) := (B5.out.trans (B6.out.mono B5.out.size)).trans (BC.out.mono (Nat.le_trans B5.out.size B6.out.size))
    have hlt4 : w2.heap.size < w4.heap.size := by have := HBs.out; omega
    have TPC := hide (two_keep TP4.out BD.out (by omega))
    have TQC := hide (two_keep TQ4.out BD.out hlt4)
    have QF : Hid (Calls Try.prog 11 #[.agg #[.int .i64 s, (.slice a3 fs.length c3)], .agg #[.int .i64 s, (.slice a1 fs.length c1)]] wC fun e w' => e = .returned (.bool true) ∧ Below wC.heap.size wC w') := eqBatch_same s fs a3 a1 c3 c1 wC (by unfold maxLen; omega) (rowChange_rows (rowChange_below R6.out BC.out)) (rowChange_rows (rowChange_below R14.out BD.out))
    have HCs := hide hCs
    go_upto_region 16 with fail
    rw [← hwC]
    clear hwC hCs
    obtain ⟨hp0, hp1⟩ := TPC.out
    obtain ⟨hq0, hq1⟩ := TC.out
    go_wp2_with fail
    refine QF.out.mono ?_
    rintro e w7 ⟨rfl, b7⟩
    have B7 := hide (BD.out.trans (b7.mono BD.out.size))
    clear b7 hp0 hp1 hq0 hq1
    obtain ⟨hq0, hq1⟩ := two_keep TQ4.out B7.out hlt4
    go_wp2_with fail
    refine (heldBatch_row s (.slice a2 fs.length c2) fs.length wA.heap.size 1 _ (by omega) (by omega) (by omega) (rowChange_below R4.out B7.out)).mono ?_
    rintro e w8 ⟨rfl, b8⟩
    rw [HR.out]
    have B8 := hide (B7.out.trans (b8.mono B7.out.size))
    clear b8
    go_wp2
    go_ret
    exact ⟨rfl, W4.out.trans (B8.out.mono W4.out.size)⟩
end Go.Proofs.Ytcpbkllonamleak
