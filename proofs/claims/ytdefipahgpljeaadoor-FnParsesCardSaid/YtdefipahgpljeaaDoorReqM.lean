/- More bytes behind: what is a request stays the same one, what can be none stays none. -/
import Derived.Test.YtdefipahgpljeaaDoorReqI3
namespace Go.Proofs.YtdefipahgpljeaaDoor
open Go.RowKit

theorem bt_more {s : ByteArray} (t : ByteArray) {p : Nat} (h : p < s.size) : Wd.bt (s ++ t) p = Wd.bt s p := by
  have h1 : p < (s ++ t).size := by rw [ByteArray.size_append]; omega
  rw [← Wd.bt_eq _ _ h1, ← Wd.bt_eq _ _ h, ByteArray.getElem_append_left h]
theorem ext_more {s : ByteArray} (t : ByteArray) {a b : Nat} (h : b ≤ s.size) : (s ++ t).extract a b = s.extract a b := by
  apply ByteArray.ext
  apply Array.toList_inj.1
  rw [Lib.extract_data, Lib.extract_data, ByteArray.data_append, Array.toList_append]
  by_cases hab : a ≤ b
  · rw [List.drop_append_of_le_length (by simp; exact Nat.le_trans hab h), List.take_append_of_le_length (by simp; have : s.data.size = s.size := rfl; omega)]
  · rw [show b - a = 0 by omega, List.take_zero, List.take_zero]
theorem figF_stop {s : ByteArray} : ∀ f i, i ≤ s.size → s.size ≤ i + f → figF s f i < s.size → ¬ (48 ≤ Wd.bt s (figF s f i) ∧ Wd.bt s (figF s f i) ≤ 57)
  | 0, i, h, h0, h1 => by rw [figF] at h1; omega
  | f + 1, i, h, h0, h1 => by
    rw [figF] at h1 ⊢
    split
    · rename_i h2
      rw [if_pos h2] at h1
      exact figF_stop f (i + 1) (by omega) (by omega) h1
    · rename_i h2
      rw [if_neg h2] at h1
      intro h3
      exact h2 ⟨h1, h3⟩
theorem figE_is {s : ByteArray} {i e : Nat} (hi : i ≤ e) (hd : ∀ p, i ≤ p → p < e → p < s.size ∧ 48 ≤ Wd.bt s p ∧ Wd.bt s p ≤ 57) (hs : ¬ (e < s.size ∧ 48 ≤ Wd.bt s e ∧ Wd.bt s e ≤ 57)) : figE s i = e := by
  obtain ⟨d, rfl⟩ : ∃ d, e = i + d := ⟨e - i, by omega⟩
  induction d generalizing i with
  | zero => exact figE_stop hs
  | succ d ih =>
    obtain ⟨h1, h2, h3⟩ := hd i (Nat.le_refl _) (by omega)
    rw [figE_more h1 h2 h3]
    have := ih (i := i + 1) (by omega) (fun p hp1 hp2 => hd p (by omega) (by omega)) (by rw [show i + 1 + d = i + (d + 1) by omega]; exact hs)
    rw [this]
    omega
/-- The figures end within: they end there with more bytes, too. -/
theorem figE_same {s : ByteArray} (t : ByteArray) {i : Nat} (hi : i ≤ s.size) (h : figE s i < s.size) : figE (s ++ t) i = figE s i := by
  refine figE_is (figE_ge s i) (fun p h1 h2 => ?_) ?_
  · rw [bt_more t (by omega), ByteArray.size_append]
    exact ⟨by omega, figE_digs s i p h1 h2⟩
  · rintro ⟨-, h2⟩
    rw [bt_more t h] at h2
    exact figF_stop (s.size - i) i hi (by omega) h h2
theorem figF_from {s : ByteArray} : ∀ d i, (∀ p, i ≤ p → p < i + d → p < s.size ∧ 48 ≤ Wd.bt s p ∧ Wd.bt s p ≤ 57) → figE s i = figE s (i + d)
  | 0, i, _ => rfl
  | d + 1, i, h => by
    obtain ⟨h1, h2, h3⟩ := h i (Nat.le_refl _) (by omega)
    rw [figE_more h1 h2 h3, figF_from d (i + 1) (fun p h4 h5 => h p (by omega) (by omega))]
    congr 1
    omega
/-- The figures go on to the end: with more bytes they go at least as far. -/
theorem figE_far {s : ByteArray} (t : ByteArray) {i : Nat} (hi : i ≤ s.size) (h : figE s i = s.size) : s.size ≤ figE (s ++ t) i := by
  have := figF_from (s := s ++ t) (s.size - i) i (fun p h1 h2 => by
    rw [bt_more t (by omega), ByteArray.size_append]
    exact ⟨by omega, figE_digs s i p h1 (by omega)⟩)
  rw [this]
  have := figE_ge (s ++ t) (i + (s.size - i))
  omega
theorem numF_same {s t : ByteArray} : ∀ k, (∀ p, p < k → Wd.bt s p = Wd.bt t p) → Wd.numF s k = Wd.numF t k
  | 0, _ => rfl
  | k + 1, h => by rw [Wd.numF, Wd.numF, numF_same k (fun p hp => h p (by omega)), h k (by omega)]
theorem numF_up (s : ByteArray) (k : Nat) : ∀ d, Wd.numF s k ≤ Wd.numF s (k + d)
  | 0 => Nat.le_refl _
  | d + 1 => by
    have := numF_up s k d
    rw [← Nat.add_assoc, Wd.numF]
    omega
theorem numTx_same {s : ByteArray} (t : ByteArray) {i : Nat} (hi : i ≤ s.size) (h : figE s i < s.size) : numTx (s ++ t) i = numTx s i := by
  unfold numTx
  rw [figE_same t hi h, ext_more t (by omega)]
theorem numV_same {s : ByteArray} (t : ByteArray) {i : Nat} (hi : i ≤ s.size) (h : figE s i < s.size) : numV (s ++ t) i = numV s i := by
  unfold numV
  rw [numTx_same t hi h]
theorem numOk_same {s : ByteArray} (t : ByteArray) {i lim : Nat} (hi : i ≤ s.size) (h : figE s i < s.size) : numOk (s ++ t) i lim ↔ numOk s i lim := by
  unfold numOk
  rw [numTx_same t hi h, numV_same t hi h]
/-- A number with more figures behind is right only if it is right without. -/
theorem numOk_less {s : ByteArray} (t : ByteArray) {i lim : Nat} (hi : i < s.size) (h : numOk (s ++ t) i lim) : numOk s i lim := by
  rcases Nat.lt_or_ge (figE s i) s.size with h1 | h1
  · exact (numOk_same t (by omega) h1).1 h
  · have he : figE s i = s.size := Nat.le_antisymm (figE_le s i (by omega)) h1
    have hf := figE_far t (by omega) he
    have hz : i ≤ (s ++ t).size := by rw [ByteArray.size_append]; omega
    have e1 := numTx_size s i (by omega)
    have e2 := numTx_size (s ++ t) i hz
    have hle := figE_le (s ++ t) i hz
    have hb : ∀ p, p < (numTx s i).size → Wd.bt (numTx s i) p = Wd.bt (numTx (s ++ t) i) p := by
      intro p hp
      unfold numTx
      rw [bt_cut s i _ p (by omega) (by omega), bt_cut (s ++ t) i _ p (by omega) hle, bt_more t (by omega)]
    obtain ⟨h2, h3, h4, h5⟩ := h
    refine ⟨by omega, by omega, ?_, ?_⟩
    · rcases h4 with h4 | h4
      · exact .inl (by omega)
      · exact .inr (by rw [hb 0 (by omega)]; exact h4)
    · unfold numV at h5 ⊢
      rw [numF_same _ hb]
      have := numF_up (numTx (s ++ t) i) (numTx s i).size ((numTx (s ++ t) i).size - (numTx s i).size)
      rw [show (numTx s i).size + ((numTx (s ++ t) i).size - (numTx s i).size) = (numTx (s ++ t) i).size by omega] at this
      omega
theorem crlf_in {s : ByteArray} {j : Nat} (h : crlf s j ≠ 0) : j < s.size := by
  rcases Nat.lt_or_ge j s.size with h1 | h1
  · exact h1
  · exact absurd (by unfold crlf; rw [if_pos h1]) h
theorem crlf_same {s : ByteArray} (t : ByteArray) {j : Nat} (h : crlf s j ≠ 0) : crlf (s ++ t) j = crlf s j := by
  have hj := crlf_in h
  have hz : (s ++ t).size = s.size + t.size := ByteArray.size_append
  unfold crlf at h ⊢
  rw [hz, bt_more t hj, if_neg (show ¬ s.size + t.size ≤ j by omega), if_neg (show ¬ s.size ≤ j by omega)]
  rw [if_neg (show ¬ s.size ≤ j by omega)] at h
  by_cases h1 : Wd.bt s j ≠ 13
  · rw [if_pos h1, if_pos h1]
  · rw [if_neg h1, if_neg h1]
    rw [if_neg h1] at h
    by_cases h2 : s.size ≤ j + 1
    · rw [if_pos h2] at h; exact absurd rfl h
    · rw [if_neg h2, if_neg (show ¬ s.size + t.size ≤ j + 1 by omega), bt_more t (by omega)]
theorem head_same {s : ByteArray} (t : ByteArray) {i lim : Nat} (h : headSt s i lim ≠ 0) : headSt (s ++ t) i lim = headSt s i lim := by
  have hz : (s ++ t).size = s.size + t.size := ByteArray.size_append
  have hi : i < s.size := by
    rcases Nat.lt_or_ge i s.size with h1 | h1
    · exact h1
    · exact absurd (by unfold headSt; rw [if_pos h1]) h
  unfold headSt at h ⊢
  rw [hz, if_neg (show ¬ s.size + t.size ≤ i by omega), if_neg (show ¬ s.size ≤ i by omega)]
  rw [if_neg (show ¬ s.size ≤ i by omega)] at h
  by_cases hk : numOk s i lim
  · rw [if_pos hk] at h ⊢
    have hf := crlf_in h
    rw [if_pos ((numOk_same t (by omega) hf).2 hk), figE_same t (by omega) hf, crlf_same t h]
  · rw [if_neg hk, if_neg (fun h2 => hk (numOk_less t hi h2))]
theorem head_in {s : ByteArray} {i lim : Nat} (h : headSt s i lim = 1) : i ≤ s.size ∧ figE s i < s.size := by
  obtain ⟨h1, -, h3, -⟩ := headSt_yes h
  exact ⟨by omega, crlf_in (by rw [h3]; decide)⟩
theorem arg_same {s : ByteArray} (t : ByteArray) {i : Nat} (h : argSt s i ≠ 0) : argSt (s ++ t) i = argSt s i := by
  have hz : (s ++ t).size = s.size + t.size := ByteArray.size_append
  have hi : i < s.size := by
    rcases Nat.lt_or_ge i s.size with h1 | h1
    · exact h1
    · exact absurd (by unfold argSt headM oneSt; simp [h1]) h
  have hone : oneSt (s ++ t) i 36 = oneSt s i 36 := by
    unfold oneSt
    rw [hz, bt_more t hi, if_neg (show ¬ s.size + t.size ≤ i by omega), if_neg (show ¬ s.size ≤ i by omega)]
  unfold argSt headM at h ⊢
  rw [hone]
  by_cases h1 : oneSt s i 36 ≠ 1
  · simp only [if_pos h1]
  · simp only [if_neg h1] at h ⊢
    by_cases h2 : headSt s (i + 1) 60 = 0
    · rw [h2] at h; simp at h
    · have e2 := head_same t h2
      rw [e2]
      by_cases h3 : headSt s (i + 1) 60 ≠ 1
      · simp only [if_pos h3]
      · simp only [if_neg h3] at h ⊢
        obtain ⟨k1, k2⟩ := head_in (Decidable.not_not.1 h3)
        rw [figE_same t k1 k2, numV_same t k1 k2]
        by_cases h4 : s.size < figE s (i + 1) + 2 + numV s (i + 1)
        · rw [if_pos h4] at h; exact absurd rfl h
        · rw [if_neg h4] at h ⊢
          rw [hz, if_neg (by omega), crlf_same t h]
theorem arg_in {s : ByteArray} {i : Nat} (h : argSt s i = 1) : i + 1 ≤ s.size ∧ figE s (i + 1) < s.size ∧ figE s (i + 1) + 2 + numV s (i + 1) < s.size := by
  unfold argSt at h
  by_cases h1 : headM s i 36 60 ≠ 1
  · rw [if_pos h1] at h; exact absurd h h1
  · rw [if_neg h1] at h
    obtain ⟨k1, -⟩ := headM_head (Decidable.not_not.1 h1)
    obtain ⟨k2, k3⟩ := head_in k1
    by_cases h4 : s.size < figE s (i + 1) + 2 + numV s (i + 1)
    · rw [if_pos h4] at h; cases h
    · rw [if_neg h4] at h
      exact ⟨k2, k3, crlf_in (by rw [h]; decide)⟩
theorem rd_more (s t : ByteArray) : ∀ c i acc, (rdArgs s c i acc).1 ≠ 0 → rdArgs (s ++ t) c i acc = rdArgs s c i acc
  | 0, i, acc, _ => rfl
  | c + 1, i, acc, h => by
    by_cases h1 : argSt s i = 1
    · rw [rd_yes h1] at h ⊢
      obtain ⟨k1, k2, k3⟩ := arg_in h1
      rw [rd_yes ((arg_same t (by rw [h1]; decide)).trans h1), figE_same t k1 k2, numV_same t k1 k2, ext_more t (by omega)]
      exact rd_more s t c _ _ h
    · rw [rd_no h1] at h ⊢
      have h2 := arg_same t h
      rw [rd_no (by rw [h2]; exact h1), h2]
theorem lfL_more : ∀ (l m : List UInt8), (lfL l < l.length → lfL (l ++ m) = lfL l) ∧ (lfL l = l.length → l.length ≤ lfL (l ++ m))
  | [], m => ⟨fun h => absurd h (by simp), fun _ => Nat.zero_le _⟩
  | b :: r, m => by
    have ih := lfL_more r m
    simp only [List.cons_append, lfL]
    split
    · exact ⟨fun _ => rfl, fun h => by simp at h⟩
    · simp only [List.length_cons]
      exact ⟨fun h => by rw [ih.1 (by omega)], fun h => by have := ih.2 (by omega); omega⟩
theorem lfE_same {s : ByteArray} (t : ByteArray) (h : lfE s < s.size) : lfE (s ++ t) = lfE s := by
  unfold lfE at h ⊢
  rw [ByteArray.data_append, Array.toList_append]
  exact (lfL_more _ _).1 (by rw [Array.length_toList]; exact h)
theorem lfE_far {s : ByteArray} (t : ByteArray) (h : ¬ lfE s < s.size) : lfE s ≤ lfE (s ++ t) := by
  have h0 := lfE_le s
  have h1 := (lfL_more s.data.toList t.data.toList).2 (by rw [Array.length_toList]; unfold lfE at h h0; have : s.data.size = s.size := rfl; omega)
  have h2 : lfE (s ++ t) = lfL (s.data.toList ++ t.data.toList) := by unfold lfE; rw [ByteArray.data_append, Array.toList_append]
  rw [h2]
  rw [Array.length_toList] at h1
  have : s.data.size = s.size := rfl
  omega
theorem line_same {s : ByteArray} (t : ByteArray) (h : lfE s < s.size) : lineTx (s ++ t) = lineTx s := by
  unfold lineTx
  rw [lfE_same t h, ext_more t (by omega)]
theorem lineRq_more {s : ByteArray} (t : ByteArray) (h : (lineRq s).1 ≠ 0) : lineRq (s ++ t) = lineRq s := by
  have hz : (s ++ t).size = s.size + t.size := ByteArray.size_append
  by_cases h1 : lfE s < s.size
  · unfold lineRq lineOk lineWs
    rw [lfE_same t h1, line_same t h1, hz, if_neg (show ¬ s.size + t.size ≤ lfE s by omega), if_neg (show ¬ s.size ≤ lfE s by omega)]
  · have h2 := lfE_far t h1
    unfold lineRq at h ⊢
    by_cases h3 : 80 < lfE s
    · rw [if_pos h3, if_pos (by omega)]
    · rw [if_neg h3, if_pos (by omega)] at h
      exact absurd rfl h
/-- What bytes tell for sure they tell with more bytes behind, too. -/
theorem parse_more (s t : ByteArray) (h : (parse s).1 ≠ 0) : parse (s ++ t) = parse s := by
  have hz : (s ++ t).size = s.size + t.size := ByteArray.size_append
  have h0 : s.size ≠ 0 := by
    intro h1
    apply h
    unfold parse
    rw [if_pos h1]
  unfold parse at h ⊢
  rw [if_neg h0] at h ⊢
  rw [if_neg (show ¬ (s ++ t).size = 0 by omega), bt_more t (by omega)]
  by_cases h1 : Wd.bt s 0 ≠ 42
  · rw [if_pos h1] at h ⊢
    rw [if_pos h1]
    exact lineRq_more t h
  · rw [if_neg h1] at h ⊢
    rw [if_neg h1]
    by_cases h2 : headSt s 1 8 = 0
    · rw [h2, if_neg (by decide)] at h
      exact absurd rfl h
    · have e2 := head_same t h2
      rw [e2]
      by_cases h3 : headSt s 1 8 = 1
      · rw [if_pos h3] at h ⊢
        rw [if_pos h3]
        obtain ⟨k1, k2⟩ := head_in h3
        rw [figE_same t k1 k2, numV_same t k1 k2]
        exact rd_more s t _ _ _ h
      · rw [if_neg h3, if_neg h3]
end Go.Proofs.YtdefipahgpljeaaDoor
