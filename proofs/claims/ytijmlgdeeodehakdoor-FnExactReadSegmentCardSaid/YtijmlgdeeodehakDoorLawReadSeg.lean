/- The law on ReadSegment: the program answers as the specification, and what it answers is its own. -/
import Derived.Test.YtijmlgdeeodehakDoorSegI2
import Derived.Test.YtijmlgdeeodehakDoorBatchMk
namespace Go.Proofs.YtijmlgdeeodehakDoor
open Go.RowKit

theorem rdChanges_le (t : ByteArray) : (rdChanges t).length ≤ 40 := by
  cases h : rdOk t
  · unfold rdChanges
    rw [h]
    exact Nat.zero_le _
  · have h1 := (rd_text h).1
    unfold textOkD at h1
    simp only [Bool.and_eq_true] at h1
    exact (batchOkD_bounds h1.1).2.2.2
theorem ris_chs (s : ByteArray) : ∀ (l : List (Nat × Nat)) (last : Int) (e : Nat), ∀ b ∈ (ris s l last e).1, b.chs.length ≤ 40
  | [], _, _, _, h => absurd h List.not_mem_nil
  | x :: r, last, e, b, h => by
    by_cases hc : rdOk (s.extract x.1 x.2) = true ∧ last < rdSeq (s.extract x.1 x.2)
    · rw [ris_more hc.1 hc.2] at h
      rcases List.mem_cons.1 h with rfl | h
      · exact rdChanges_le _
      · exact ris_chs s r _ _ b h
    · rw [ris_no hc] at h
      exact absurd h List.not_mem_nil
theorem segBatches_bounds (n : Int) (s : ByteArray) : (segBatches n s).length ≤ 20001 ∧ ∀ b ∈ segBatches n s, b.chs.length ≤ 40 := by
  cases hr : segRead n s with
  | none =>
    rw [(seg_none hr).2.1]
    exact ⟨Nat.zero_le _, fun b h => absurd h List.not_mem_nil⟩
  | some q =>
    obtain ⟨f, bs, e⟩ := q
    rw [(seg_some hr).2.1]
    cases hu : unf s with
    | nil => rw [segRead_nil hu] at hr; simp at hr
    | cons x r =>
      cases hh : hdFrom n (s.extract x.1 x.2) with
      | none => rw [segRead_head hu hh] at hr; simp at hr
      | some f' =>
        rw [segRead_some hu hh] at hr
        simp only [Option.some.injEq, Prod.mk.injEq] at hr
        have hb : bs = (ris s r (-1) x.2).1 := by rw [hr.2]
        rw [hb]
        have h1 := ris_len s r (-1) x.2
        have h2 := unf_len s
        rw [hu, List.length_cons] at h2
        exact ⟨by omega, ris_chs s r _ _⟩

set_option maxRecDepth 100000 in
set_option maxHeartbeats 1600000 in
theorem readSegment_small (n : Int) (s : ByteArray) (w : World) (hs : s.size ≤ 1048576) (hT : SumTab w) :
    Calls Tryd.prog 5 #[.int .i64 n, .string s] w fun e w' => e = .returned (.bool true) ∧ Below w.heap.size w w' := by
  have hs' : decide (1048576 < (s.size : Int)) = false := by simp; omega
  have HT := hide hT
  obtain ⟨hbl, hbc⟩ := segBatches_bounds n s
  have HSp := hide (fun W => specReadSegment_any n s W hs)
  have HI := hide (fun W hW => implReadSegment_any n s W hs hW)
  clear hT
  unfold SegLeft at HSp HI
  generalize segFrom n s = f at HSp HI
  generalize segEnd n s = en at HSp HI
  generalize segOk n s = ok at HSp HI
  generalize segBatches n s = bs at HSp HI hbl hbc
  have HBC := hide hbc
  clear hbc
  have hff : (!((f : Int) == (f : Int))) = false := by simp
  have hee : (!((en : Int) == (en : Int))) = false := by simp
  have hoo : (!(ok == ok)) = false := by simp
  have hm := markBEnd_le bs 1 HBC.out
  obtain ⟨R, HR⟩ : ∃ R : Int, Hid (((markBEnd 1 bs : Nat) : Int) = R) := ⟨_, rfl⟩
  have hR : decide (R < 0) = false := by have := HR.out; simp; omega
  have hRR : (!(R == R)) = false := by simp
  clear hm
  go_enter Tryd.func5, Tryd.ntmps5
  go_wp2_with fail
  refine (HSp.out _).mono ?_
  rintro e w1 ⟨⟨v1, rfl, r1⟩, b1⟩
  obtain ⟨a1, c1, rfl, -⟩ := rowBatch_at r1
  have R1 := hide r1
  have B1 := hide b1
  clear r1 b1
  go_wp2_with fail
  refine (HI.out _ (sumTab_later B1.out HT.out)).mono ?_
  rintro e w2 ⟨⟨v2, rfl, r2⟩, b2⟩
  obtain ⟨a2, c2, rfl, -⟩ := rowBatch_at r2
  have R2 := hide r2
  have B2 := hide b2
  clear r2 b2
  have hs1 : w.heap.size ≤ w1.heap.size := B1.out.size
  have hs2 : w1.heap.size ≤ w2.heap.size := B2.out.size
  have T2 := hide (sumTab_later B2.out (sumTab_later B1.out HT.out))
  go_wp2_with fail
  refine (eqBatchS_same bs a2 a1 c2 c1 _ (by omega) (fun b hb => by have := HBC.out b hb; omega) (rowBatch_rows R2.out).2 (batchesAt_keep (rowBatch_rows R1.out).2 B2.out)).mono ?_
  rintro e w3 ⟨rfl, b3⟩
  have B3 := hide b3
  clear b3
  have hs3 : w2.heap.size ≤ w3.heap.size := B3.out.size
  go_wp2_with fail
  refine (markBatchS_row (.slice a2 bs.length c2) bs w1.heap.size 1 _ hbl HBC.out (by omega) (by omega) (rowBatch_below R2.out B3.out)).mono ?_
  rintro e w4 ⟨rfl, r4, b4⟩
  rw [HR.out]
  have R4 := hide r4
  have B4 := hide b4
  clear r4 b4
  have hs4 : w3.heap.size ≤ w4.heap.size := B4.out.size
  have B14 : Hid (Below w1.heap.size w1 w4) := (B2.out.trans (B3.out.mono hs2)).trans B4.out
  have K1 := hide (batchesAt_keep (rowBatch_rows R1.out).2 B14.out)
  have K2 : Hid (BatchesAt w4 a2 (markBatchDs 1 bs)) := (rowBatch_rows R4.out).2
  have T4 := hide (sumTab_later B14.out (sumTab_later B1.out HT.out))
  go_wp2_with fail
  refine (heldBatchS_any a2 c2 bs 1 _ hbl HBC.out (by omega) (by omega) K2.out).mono ?_
  rintro e w5 ⟨rfl, b5⟩
  rw [HR.out]
  have B5 := hide b5
  clear b5
  go_wp2_with fail
  refine (HI.out _ (sumTab_later B5.out T4.out)).mono ?_
  rintro e w6 ⟨⟨v3, rfl, r6⟩, b6⟩
  obtain ⟨a3, c3, rfl, -⟩ := rowBatch_at r6
  have R6 := hide r6
  have B6 := hide (B5.out.trans (b6.mono B5.out.size))
  clear r6 b6
  go_wp2_with fail
  refine (eqBatchS_same bs a3 a1 c3 c1 _ (by omega) (fun b hb => by have := HBC.out b hb; omega) (rowBatch_rows R6.out).2 (batchesAt_keep K1.out B6.out)).mono ?_
  rintro e w7 ⟨rfl, b7⟩
  have B7 := hide (B6.out.trans (b7.mono B6.out.size))
  clear b7
  go_wp2_with fail
  refine (heldBatchS_any a2 c2 bs 1 _ hbl HBC.out (by omega) (by omega) (batchesAt_keep K2.out B7.out)).mono ?_
  rintro e w8 ⟨rfl, b8⟩
  rw [HR.out]
  have B8 := hide (B7.out.trans (b8.mono B7.out.size))
  clear b8
  go_wp2
  go_ret
  exact ⟨rfl, (B1.out.trans (B14.out.mono hs1)).trans (B8.out.mono (by omega))⟩

theorem readSegment_walk (n : Int) (s : ByteArray) (w : World) (hT : SumTab w) :
    Calls Tryd.prog 5 #[.int .i64 n, .string s] w fun e w' => e = .returned (.bool true) ∧ Below w.heap.size w w' := by
  by_cases hs : s.size ≤ 1048576
  · exact readSegment_small n s w hs hT
  · have hs' : decide (1048576 < (s.size : Int)) = true := by simp; omega
    clear hT
    go_enter Tryd.func5, Tryd.ntmps5
    go_wp2
    go_ret
    exact ⟨rfl, Below.refl _ _⟩
end Go.Proofs.YtijmlgdeeodehakDoor
