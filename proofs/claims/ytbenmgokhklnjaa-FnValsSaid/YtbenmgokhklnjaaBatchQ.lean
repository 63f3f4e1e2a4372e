/- Plain facts: a batch that is written is read back. -/
import Derived.Test.YtbenmgokhklnjaaBatchR
import Derived.Test.YtbenmgokhklnjaaNumQ
namespace Go.Proofs.Ytbenmgokhklnjaa
open Go.RowKit

theorem varC_at {t : ByteArray} (a b : List UInt8) (n : Nat) (hn : n ≤ 1000000000) (ht : t = ⟨(a ++ Wd.varF 5 n ++ b).toArray⟩) : varC t a.length false = (n, a.length + (Wd.varF 5 n).length, false) := by
  have h := rvI_at a b n hn (a.length : Int) rfl
  have hs : (⟨(a ++ Wd.varF 5 n ++ b).toArray⟩ : ByteArray).size = a.length + (Wd.varF 5 n).length + b.length := by
    show (a ++ Wd.varF 5 n ++ b).length = _
    rw [List.length_append, List.length_append]
  unfold Wd.rvI at h
  rw [if_neg (by rw [hs]; omega), Int.toNat_natCast, ← ht] at h
  unfold varC
  rw [h]

theorem takeC_at {t : ByteArray} (a b : List UInt8) (s : ByteArray) (ht : t = ⟨(a ++ s.data.toList ++ b).toArray⟩) : takeC t s.size a.length false = (s, a.length + s.size, false) := by
  have hl : s.data.toList.length = s.size := rfl
  have hs : t.size = a.length + s.size + b.length := by
    rw [ht]
    show (a ++ s.data.toList ++ b).length = _
    rw [List.length_append, List.length_append, hl]
  unfold takeC
  rw [if_neg (by simp; omega)]
  have e : t.extract a.length (a.length + s.size) = s := by
    apply ByteArray.ext
    rw [ByteArray.data_extract, ht]
    apply Array.toList_inj.1
    rw [Array.toList_extract, List.extract_eq_take_drop]
    simp only [List.append_assoc]
    rw [List.drop_left, show a.length + s.size - a.length = s.data.toList.length from by omega, List.take_left]
  rw [e]

theorem shortB_list (s : ByteArray) : (shortB s).data.toList = Wd.varF 5 s.size ++ s.data.toList := by
  unfold shortB
  rw [ByteArray.data_append, Array.toList_append]
theorem shortB_len (s : ByteArray) : (shortB s).size = (Wd.varF 5 s.size).length + s.size := by
  unfold shortB
  rw [ByteArray.size_append, size_of_list]
theorem shortC_at {t : ByteArray} (a b : List UInt8) (s : ByteArray) (hs : s.size ≤ 1000000000) (ht : t = ⟨(a ++ (shortB s).data.toList ++ b).toArray⟩) : shortC t a.length false = (s, a.length + (shortB s).size, false) := by
  rw [shortB_list] at ht
  unfold shortC
  rw [varC_at a (s.data.toList ++ b) s.size hs (by rw [ht]; simp only [List.append_assoc])]
  have h := takeC_at (t := t) (a ++ Wd.varF 5 s.size) b s (by rw [ht]; simp only [List.append_assoc])
  rw [List.length_append] at h
  simp only
  rw [h, shortB_len, Nat.add_assoc]

theorem changeB_list (A : ChangeD) : (changeB A).data.toList = (shortB A.key).data.toList ++ (flagB A.gone).data.toList ++ (shortB A.value).data.toList := by
  unfold changeB
  rw [ByteArray.data_append, ByteArray.data_append, Array.toList_append, Array.toList_append]
theorem rdStep_at {t : ByteArray} (a b : List UInt8) (A : ChangeD) (hk : A.key.size ≤ 1000000000) (hv : A.value.size ≤ 1000000000) (ht : t = ⟨(a ++ (changeB A).data.toList ++ b).toArray⟩) : rdStep t a.length false = (A, a.length + (changeB A).size, false) := by
  rw [changeB_list] at ht
  have h1 := shortC_at (t := t) a ((flagB A.gone).data.toList ++ (shortB A.value).data.toList ++ b) A.key hk (by rw [ht]; simp only [List.append_assoc])
  have h2 := takeC_at (t := t) (a ++ (shortB A.key).data.toList) ((shortB A.value).data.toList ++ b) (flagB A.gone) (by rw [ht]; simp only [List.append_assoc])
  have h3 := shortC_at (t := t) (a ++ (shortB A.key).data.toList ++ (flagB A.gone).data.toList) b A.value hv (by rw [ht]; simp only [List.append_assoc])
  have e1 : (shortB A.key).data.toList.length = (shortB A.key).size := rfl
  have e2 : (flagB A.gone).data.toList.length = (flagB A.gone).size := rfl
  rw [List.length_append, e1, flagB_size] at h2
  rw [List.length_append, List.length_append, e1, e2, flagB_size] at h3
  have hz : (changeB A).size = (shortB A.key).size + 1 + (shortB A.value).size := by
    unfold changeB
    rw [ByteArray.size_append, ByteArray.size_append, flagB_size]
  have hg : ((flagB A.gone).toList == [1]) = A.gone := by rw [ByteArray.toList_eq]; cases A.gone <;> rfl
  unfold rdStep
  simp only [h1, h2, h3, hg]
  rw [hz]
  simp only [Nat.add_assoc]

theorem rdF_at {t : ByteArray} : ∀ (fs : List ChangeD) (a b : List UInt8) (acc : List ChangeD), (∀ A ∈ fs, A.key.size ≤ 1000000000 ∧ A.value.size ≤ 1000000000) → t = ⟨(a ++ changesL fs ++ b).toArray⟩ → rdF t fs.length a.length false acc = (acc ++ fs, false)
  | [], a, b, acc, _, _ => by simp [rdF]
  | A :: r, a, b, acc, hs, ht => by
    have hA := hs A (List.mem_cons_self ..)
    have h1 := rdStep_at (t := t) a (changesL r ++ b) A hA.1 hA.2 (by rw [ht]; simp only [changesL, List.append_assoc])
    have h2 := rdF_at (t := t) r (a ++ (changeB A).data.toList) b (acc ++ [A]) (fun B hB => hs B (List.mem_cons_of_mem _ hB)) (by rw [ht]; simp only [changesL, List.append_assoc])
    have e1 : (changeB A).data.toList.length = (changeB A).size := rfl
    rw [List.length_append, e1] at h2
    rw [List.length_cons]
    simp only [rdF, h1]
    rw [h2]
    simp

theorem okChg_small : ∀ (fs : List ChangeD) (p : Option ByteArray), okChg p fs = true → ∀ A ∈ fs, A.key.size ≤ 20 ∧ A.value.size ≤ 2000
  | [], _, _, _, h => absurd h List.not_mem_nil
  | B :: r, p, h, A, hA => by
    have h1 : changeOkD B = true ∧ okChg (some B.key) r = true := by
      cases p <;> simp only [okChg, Bool.and_eq_true] at h
      · exact h
      · exact ⟨h.1, h.2.2⟩
    rcases List.mem_cons.1 hA with rfl | hA
    · have := h1.1
      simp only [changeOkD, Bool.and_eq_true, decide_eq_true_eq] at this
      exact ⟨this.1.2, this.2.1⟩
    · exact okChg_small r _ h1.2 A hA

/-- The text of a batch is read back. -/
theorem rdRaw_back {q : Int} {fs : List ChangeD} (h : textOkD q fs = true) : rdRaw (textD q fs) = (q.toNat, fs, false) := by
  have hb : batchOkD q fs = true := by unfold textOkD at h; simp only [Bool.and_eq_true] at h; exact h.1
  obtain ⟨h0, h1, h2, h3⟩ := batchOkD_bounds hb
  have hok : okChg none fs = true := by unfold batchOkD at hb; simp only [Bool.and_eq_true] at hb; exact hb.2.2
  have hsm := okChg_small fs none hok
  obtain ⟨m, rfl⟩ := Int.eq_ofNat_of_zero_le h0
  rw [Int.toNat_natCast]
  obtain ⟨t, ht⟩ : ∃ t, t = textD (m : Int) fs := ⟨_, rfl⟩
  rw [← ht]
  unfold textD at ht
  rw [if_pos h, Int.toNat_natCast] at ht
  have hh : (headB m fs.length).data.toList = [66] ++ Wd.varF 5 m ++ Wd.varF 5 fs.length := by
    unfold headB
    rw [ByteArray.data_append, ByteArray.data_append, Array.toList_append, Array.toList_append]
  unfold batchL at ht
  rw [hh] at ht
  have k1 := takeC_at (t := t) [] (Wd.varF 5 m ++ Wd.varF 5 fs.length ++ changesL fs) ⟨#[66]⟩ (by rw [ht]; simp only [List.append_assoc, List.nil_append])
  have k2 := varC_at (t := t) [66] (Wd.varF 5 fs.length ++ changesL fs) m (by omega) (by rw [ht]; simp only [List.append_assoc])
  have k3 := varC_at (t := t) ([66] ++ Wd.varF 5 m) (changesL fs) fs.length (by omega) (by rw [ht])
  have k4 := rdF_at (t := t) fs ([66] ++ Wd.varF 5 m ++ Wd.varF 5 fs.length) [] [] (fun A hA => by have := hsm A hA; omega) (by rw [ht, List.append_nil])
  have e1 : (⟨#[66]⟩ : ByteArray).size = 1 := rfl
  rw [e1] at k1
  simp only [List.length_nil, Nat.zero_add] at k1
  simp only [List.length_append, List.length_cons, List.length_nil, Nat.zero_add, List.nil_append] at k2 k3 k4
  unfold rdRaw
  simp only [k1, k2, k3]
  rw [Nat.min_eq_left (by omega), k4]

theorem rd_back {q : Int} {fs : List ChangeD} (h : textOkD q fs = true) : rdOk (textD q fs) = true ∧ rdSeq (textD q fs) = q ∧ rdChanges (textD q fs) = fs := by
  have hb : batchOkD q fs = true := by unfold textOkD at h; simp only [Bool.and_eq_true] at h; exact h.1
  obtain ⟨h0, -, -, -⟩ := batchOkD_bounds hb
  have hq : ((q.toNat : Nat) : Int) = q := Int.toNat_of_nonneg h0
  have hr := rdRaw_back h
  have hok : rdOk (textD q fs) = true := by
    unfold rdOk
    rw [hr]
    simp only [hq, h]
    simp
  refine ⟨hok, ?_, ?_⟩
  · unfold rdSeq
    rw [hok, hr]
    exact hq
  · unfold rdChanges
    rw [hok, hr]
    rfl
/-- What is read of a text is written as the text. -/
theorem rd_text {t : ByteArray} (h : rdOk t = true) : textOkD (rdSeq t) (rdChanges t) = true ∧ textD (rdSeq t) (rdChanges t) = t := by
  have hs : rdSeq t = (rdRaw t).1 := by unfold rdSeq; rw [h]; rfl
  have hc : rdChanges t = (rdRaw t).2.1 := by unfold rdChanges; rw [h]; rfl
  rw [hs, hc]
  unfold rdOk at h
  simp only [Bool.and_eq_true, decide_eq_true_eq] at h
  exact h.2
end Go.Proofs.Ytbenmgokhklnjaa
