/- The law on ReadSegment: the program answers as the specification, and what it answers is its own. -/
import Derived.Test.YtmmchemgegmhhaaGreatDoorSegI2
import Derived.Test.YtmmchemgegmhhaaGreatDoorBatchMk
namespace Go.Proofs.YtmmchemgegmhhaaGreatDoor
open Go.RowKit

theorem rdChanges_le (t : ByteArray) : (rdChanges t).length ≤ 40 := by
  cases h : rdOk t
  · unfold rdChanges
    rw [h]
    exact Nat.zero_le _
  · have h1 := (rd_text h).1
    unfold textOkD at h1
    simp only [Bool.and_eq_true] at h1
    exact (batchOkD_bounds h1.1).2.2.2
theorem ris_chs (s : ByteArray) : ∀ (l : List (Nat × Nat)) (last : Int) (e : Nat), ∀ b ∈ (ris s l last e).1, b.chs.length ≤ 40
  | [], _, _, _, h => absurd h List.not_mem_nil
  | x :: r, last, e, b, h => by
    by_cases hc : rdOk (s.extract x.1 x.2) = true ∧ last < rdSeq (s.extract x.1 x.2)
    · rw [ris_more hc.1 hc.2] at h
      rcases List.mem_cons.1 h with rfl | h
      · exact rdChanges_le _
      · exact ris_chs s r _ _ b h
    · rw [ris_no hc] at h
      exact absurd h List.not_mem_nil
theorem segBatches_bounds (n : Int) (s : ByteArray) : (segBatches n s).length ≤ 20001 ∧ ∀ b ∈ segBatches n s, b.chs.length ≤ 40 := by
  cases hr : segRead n s with
  | none =>
    rw [(seg_none hr).2.1]
    exact ⟨Nat.zero_le _, fun b h => absurd h List.not_mem_nil⟩
  | some q =>
    obtain ⟨f, bs, e⟩ := q
    rw [(seg_some hr).2.1]
    cases hu : unf s with
    | nil => rw [segRead_nil hu] at hr; simp at hr
    | cons x r =>
      cases hh : hdFrom n (s.extract x.1 x.2) with
      | none => rw [segRead_head hu hh] at hr; simp at hr
      | some f' =>
        rw [segRead_some hu hh] at hr
        simp only [Option.some.injEq, Prod.mk.injEq] at hr
        have hb : bs = (ris s r (-1) x.2).1 := by rw [hr.2]
        rw [hb]
        have h1 := ris_len s r (-1) x.2
        have h2 := unf_len s
        rw [hu, List.length_cons] at h2
        exact ⟨by omega, ris_chs s r _ _⟩

end Go.Proofs.YtmmchemgegmhhaaGreatDoor
