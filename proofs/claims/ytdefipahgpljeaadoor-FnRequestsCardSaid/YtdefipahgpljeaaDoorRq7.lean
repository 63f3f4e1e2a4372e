import Derived.Deep.LoopGhost
import Derived.Deep.Cut
import Derived.Deep.CutRange
import Derived.Lib.SmallJoins
import Derived.OpenShut
import Derived.Test.YtdefipahgpljeaaDoorRq5
import Derived.Test.YtdefipahgpljeaaDoorRq3
import Derived.Test.YtdefipahgpljeaaDoorRq0
import Derived.Test.YtdefipahgpljeaaDoorRq1
import Derived.Test.YtdefipahgpljeaaDoorRq6
import Derived.Test.YtdefipahgpljeaaDoorRq2
set_option maxRecDepth 100000
set_option maxHeartbeats 4000000
namespace Go.Proofs.YtdefipahgpljeaaDoor
open Go.RowKit
theorem bt_more {s : ByteArray} (t : ByteArray) {p : Nat} (h : p < s.size) : Wd.bt (s ++ t) p = Wd.bt s p := by
  have h1 : p < (s ++ t).size := by rw [ByteArray.size_append]; omega
  rw [← Wd.bt_eq _ _ h1, ← Wd.bt_eq _ _ h, ByteArray.getElem_append_left h]
theorem ext_more {s : ByteArray} (t : ByteArray) {a b : Nat} (h : b ≤ s.size) : (s ++ t).extract a b = s.extract a b := by
  apply ByteArray.ext
  apply Array.toList_inj.1
  rw [Lib.extract_data, Lib.extract_data, ByteArray.data_append, Array.toList_append]
  by_cases hab : a ≤ b
  · rw [List.drop_append_of_le_length (by simp; exact Nat.le_trans hab h), List.take_append_of_le_length (by simp; have : s.data.size = s.size := rfl; omega)]
  · rw [show b - a = 0 by omega, List.take_zero, List.take_zero]
theorem figF_stop {s : ByteArray} : ∀ f i, i ≤ s.size → s.size ≤ i + f → figF s f i < s.size → ¬ (48 ≤ Wd.bt s (figF s f i) ∧ Wd.bt s (figF s f i) ≤ 57)
  | 0, i, h, h0, h1 => by rw [figF] at h1; omega
  | f + 1, i, h, h0, h1 => by
    rw [figF] at h1 ⊢
    split
    · rename_i h2
      rw [if_pos h2] at h1
      exact figF_stop f (i + 1) (by omega) (by omega) h1
    · rename_i h2
      rw [if_neg h2] at h1
      intro h3
      exact h2 ⟨h1, h3⟩
theorem figE_is {s : ByteArray} {i e : Nat} (hi : i ≤ e) (hd : ∀ p, i ≤ p → p < e → p < s.size ∧ 48 ≤ Wd.bt s p ∧ Wd.bt s p ≤ 57) (hs : ¬ (e < s.size ∧ 48 ≤ Wd.bt s e ∧ Wd.bt s e ≤ 57)) : figE s i = e := by
  obtain ⟨d, rfl⟩ : ∃ d, e = i + d := ⟨e - i, by omega⟩
  induction d generalizing i with
  | zero => exact figE_stop hs
  | succ d ih =>
    obtain ⟨h1, h2, h3⟩ := hd i (Nat.le_refl _) (by omega)
    rw [figE_more h1 h2 h3]
    have := ih (i := i + 1) (by omega) (fun p hp1 hp2 => hd p (by omega) (by omega)) (by rw [show i + 1 + d = i + (d + 1) by omega]; exact hs)
    rw [this]
    omega
theorem figE_same {s : ByteArray} (t : ByteArray) {i : Nat} (hi : i ≤ s.size) (h : figE s i < s.size) : figE (s ++ t) i = figE s i := by
  refine figE_is (figE_ge s i) (fun p h1 h2 => ?_) ?_
  · rw [bt_more t (by omega), ByteArray.size_append]
    exact ⟨by omega, figE_digs s i p h1 h2⟩
  · rintro ⟨-, h2⟩
    rw [bt_more t h] at h2
    exact figF_stop (s.size - i) i hi (by omega) h h2
theorem figF_from {s : ByteArray} : ∀ d i, (∀ p, i ≤ p → p < i + d → p < s.size ∧ 48 ≤ Wd.bt s p ∧ Wd.bt s p ≤ 57) → figE s i = figE s (i + d)
  | 0, i, _ => rfl
  | d + 1, i, h => by
    obtain ⟨h1, h2, h3⟩ := h i (Nat.le_refl _) (by omega)
    rw [figE_more h1 h2 h3, figF_from d (i + 1) (fun p h4 h5 => h p (by omega) (by omega))]
    congr 1
    omega
theorem figE_far {s : ByteArray} (t : ByteArray) {i : Nat} (hi : i ≤ s.size) (h : figE s i = s.size) : s.size ≤ figE (s ++ t) i := by
  have := figF_from (s := s ++ t) (s.size - i) i (fun p h1 h2 => by
    rw [bt_more t (by omega), ByteArray.size_append]
    exact ⟨by omega, figE_digs s i p h1 (by omega)⟩)
  rw [this]
  have := figE_ge (s ++ t) (i + (s.size - i))
  omega
theorem numF_same {s t : ByteArray} : ∀ k, (∀ p, p < k → Wd.bt s p = Wd.bt t p) → Wd.numF s k = Wd.numF t k
  | 0, _ => rfl
  | k + 1, h => by rw [Wd.numF, Wd.numF, numF_same k (fun p hp => h p (by omega)), h k (by omega)]
theorem numF_up (s : ByteArray) (k : Nat) : ∀ d, Wd.numF s k ≤ Wd.numF s (k + d)
  | 0 => Nat.le_refl _
  | d + 1 => by
    have := numF_up s k d
    rw [← Nat.add_assoc, Wd.numF]
    omega
theorem numTx_same {s : ByteArray} (t : ByteArray) {i : Nat} (hi : i ≤ s.size) (h : figE s i < s.size) : numTx (s ++ t) i = numTx s i := by
  unfold numTx
  rw [figE_same t hi h, ext_more t (by omega)]
theorem numV_same {s : ByteArray} (t : ByteArray) {i : Nat} (hi : i ≤ s.size) (h : figE s i < s.size) : numV (s ++ t) i = numV s i := by
  unfold numV
  rw [numTx_same t hi h]
theorem numOk_same {s : ByteArray} (t : ByteArray) {i lim : Nat} (hi : i ≤ s.size) (h : figE s i < s.size) : numOk (s ++ t) i lim ↔ numOk s i lim := by
  unfold numOk
  rw [numTx_same t hi h, numV_same t hi h]
theorem numOk_less {s : ByteArray} (t : ByteArray) {i lim : Nat} (hi : i < s.size) (h : numOk (s ++ t) i lim) : numOk s i lim := by
  rcases Nat.lt_or_ge (figE s i) s.size with h1 | h1
  · exact (numOk_same t (by omega) h1).1 h
  · have he : figE s i = s.size := Nat.le_antisymm (figE_le s i (by omega)) h1
    have hf := figE_far t (by omega) he
    have hz : i ≤ (s ++ t).size := by rw [ByteArray.size_append]; omega
    have e1 := numTx_size s i (by omega)
    have e2 := numTx_size (s ++ t) i hz
    have hle := figE_le (s ++ t) i hz
    have hb : ∀ p, p < (numTx s i).size → Wd.bt (numTx s i) p = Wd.bt (numTx (s ++ t) i) p := by
      intro p hp
      unfold numTx
      rw [bt_cut s i _ p (by omega) (by omega), bt_cut (s ++ t) i _ p (by omega) hle, bt_more t (by omega)]
    obtain ⟨h2, h3, h4, h5⟩ := h
    refine ⟨by omega, by omega, ?_, ?_⟩
    · rcases h4 with h4 | h4
      · exact .inl (by omega)
      · exact .inr (by rw [hb 0 (by omega)]; exact h4)
    · unfold numV at h5 ⊢
      rw [numF_same _ hb]
      have := numF_up (numTx (s ++ t) i) (numTx s i).size ((numTx (s ++ t) i).size - (numTx s i).size)
      rw [show (numTx s i).size + ((numTx (s ++ t) i).size - (numTx s i).size) = (numTx (s ++ t) i).size by omega] at this
      omega
theorem crlf_in {s : ByteArray} {j : Nat} (h : crlf s j ≠ 0) : j < s.size := by
  rcases Nat.lt_or_ge j s.size with h1 | h1
  · exact h1
  · exact absurd (by unfold crlf; rw [if_pos h1]) h
theorem crlf_same {s : ByteArray} (t : ByteArray) {j : Nat} (h : crlf s j ≠ 0) : crlf (s ++ t) j = crlf s j := by
  have hj := crlf_in h
  have hz : (s ++ t).size = s.size + t.size := ByteArray.size_append
  unfold crlf at h ⊢
  rw [hz, bt_more t hj, if_neg (show ¬ s.size + t.size ≤ j by omega), if_neg (show ¬ s.size ≤ j by omega)]
  rw [if_neg (show ¬ s.size ≤ j by omega)] at h
  by_cases h1 : Wd.bt s j ≠ 13
  · rw [if_pos h1, if_pos h1]
  · rw [if_neg h1, if_neg h1]
    rw [if_neg h1] at h
    by_cases h2 : s.size ≤ j + 1
    · rw [if_pos h2] at h; exact absurd rfl h
    · rw [if_neg h2, if_neg (show ¬ s.size + t.size ≤ j + 1 by omega), bt_more t (by omega)]
theorem head_same {s : ByteArray} (t : ByteArray) {i lim : Nat} (h : headSt s i lim ≠ 0) : headSt (s ++ t) i lim = headSt s i lim := by
  have hz : (s ++ t).size = s.size + t.size := ByteArray.size_append
  have hi : i < s.size := by
    rcases Nat.lt_or_ge i s.size with h1 | h1
    · exact h1
    · exact absurd (by unfold headSt; rw [if_pos h1]) h
  unfold headSt at h ⊢
  rw [hz, if_neg (show ¬ s.size + t.size ≤ i by omega), if_neg (show ¬ s.size ≤ i by omega)]
  rw [if_neg (show ¬ s.size ≤ i by omega)] at h
  by_cases hk : numOk s i lim
  · rw [if_pos hk] at h ⊢
    have hf := crlf_in h
    rw [if_pos ((numOk_same t (by omega) hf).2 hk), figE_same t (by omega) hf, crlf_same t h]
  · rw [if_neg hk, if_neg (fun h2 => hk (numOk_less t hi h2))]
theorem head_in {s : ByteArray} {i lim : Nat} (h : headSt s i lim = 1) : i ≤ s.size ∧ figE s i < s.size := by
  obtain ⟨h1, -, h3, -⟩ := headSt_yes h
  exact ⟨by omega, crlf_in (by rw [h3]; decide)⟩
theorem arg_same {s : ByteArray} (t : ByteArray) {i : Nat} (h : argSt s i ≠ 0) : argSt (s ++ t) i = argSt s i := by
  have hz : (s ++ t).size = s.size + t.size := ByteArray.size_append
  have hi : i < s.size := by
    rcases Nat.lt_or_ge i s.size with h1 | h1
    · exact h1
    · exact absurd (by unfold argSt headM oneSt; simp [h1]) h
  have hone : oneSt (s ++ t) i 36 = oneSt s i 36 := by
    unfold oneSt
    rw [hz, bt_more t hi, if_neg (show ¬ s.size + t.size ≤ i by omega), if_neg (show ¬ s.size ≤ i by omega)]
  unfold argSt headM at h ⊢
  rw [hone]
  by_cases h1 : oneSt s i 36 ≠ 1
  · simp only [if_pos h1]
  · simp only [if_neg h1] at h ⊢
    by_cases h2 : headSt s (i + 1) 60 = 0
    · rw [h2] at h; simp at h
    · have e2 := head_same t h2
      rw [e2]
      by_cases h3 : headSt s (i + 1) 60 ≠ 1
      · simp only [if_pos h3]
      · simp only [if_neg h3] at h ⊢
        obtain ⟨k1, k2⟩ := head_in (Decidable.not_not.1 h3)
        rw [figE_same t k1 k2, numV_same t k1 k2]
        by_cases h4 : s.size < figE s (i + 1) + 2 + numV s (i + 1)
        · rw [if_pos h4] at h; exact absurd rfl h
        · rw [if_neg h4] at h ⊢
          rw [hz, if_neg (by omega), crlf_same t h]
theorem arg_in {s : ByteArray} {i : Nat} (h : argSt s i = 1) : i + 1 ≤ s.size ∧ figE s (i + 1) < s.size ∧ figE s (i + 1) + 2 + numV s (i + 1) < s.size := by
  unfold argSt at h
  by_cases h1 : headM s i 36 60 ≠ 1
  · rw [if_pos h1] at h; exact absurd h h1
  · rw [if_neg h1] at h
    obtain ⟨k1, -⟩ := headM_head (Decidable.not_not.1 h1)
    obtain ⟨k2, k3⟩ := head_in k1
    by_cases h4 : s.size < figE s (i + 1) + 2 + numV s (i + 1)
    · rw [if_pos h4] at h; cases h
    · rw [if_neg h4] at h
      exact ⟨k2, k3, crlf_in (by rw [h]; decide)⟩
theorem rd_more (s t : ByteArray) : ∀ c i acc, (rdArgs s c i acc).1 ≠ 0 → rdArgs (s ++ t) c i acc = rdArgs s c i acc
  | 0, i, acc, _ => rfl
  | c + 1, i, acc, h => by
    by_cases h1 : argSt s i = 1
    · rw [rd_yes h1] at h ⊢
      obtain ⟨k1, k2, k3⟩ := arg_in h1
      rw [rd_yes ((arg_same t (by rw [h1]; decide)).trans h1), figE_same t k1 k2, numV_same t k1 k2, ext_more t (by omega)]
      exact rd_more s t c _ _ h
    · rw [rd_no h1] at h ⊢
      have h2 := arg_same t h
      rw [rd_no (by rw [h2]; exact h1), h2]
theorem lfL_more : ∀ (l m : List UInt8), (lfL l < l.length → lfL (l ++ m) = lfL l) ∧ (lfL l = l.length → l.length ≤ lfL (l ++ m))
  | [], m => ⟨fun h => absurd h (by simp), fun _ => Nat.zero_le _⟩
  | b :: r, m => by
    have ih := lfL_more r m
    simp only [List.cons_append, lfL]
    split
    · exact ⟨fun _ => rfl, fun h => by simp at h⟩
    · simp only [List.length_cons]
      exact ⟨fun h => by rw [ih.1 (by omega)], fun h => by have := ih.2 (by omega); omega⟩
theorem lfE_same {s : ByteArray} (t : ByteArray) (h : lfE s < s.size) : lfE (s ++ t) = lfE s := by
  unfold lfE at h ⊢
  rw [ByteArray.data_append, Array.toList_append]
  exact (lfL_more _ _).1 (by rw [Array.length_toList]; exact h)
theorem lfE_far {s : ByteArray} (t : ByteArray) (h : ¬ lfE s < s.size) : lfE s ≤ lfE (s ++ t) := by
  have h0 := lfE_le s
  have h1 := (lfL_more s.data.toList t.data.toList).2 (by rw [Array.length_toList]; unfold lfE at h h0; have : s.data.size = s.size := rfl; omega)
  have h2 : lfE (s ++ t) = lfL (s.data.toList ++ t.data.toList) := by unfold lfE; rw [ByteArray.data_append, Array.toList_append]
  rw [h2]
  rw [Array.length_toList] at h1
  have : s.data.size = s.size := rfl
  omega
theorem line_same {s : ByteArray} (t : ByteArray) (h : lfE s < s.size) : lineTx (s ++ t) = lineTx s := by
  unfold lineTx
  rw [lfE_same t h, ext_more t (by omega)]
theorem lineRq_more {s : ByteArray} (t : ByteArray) (h : (lineRq s).1 ≠ 0) : lineRq (s ++ t) = lineRq s := by
  have hz : (s ++ t).size = s.size + t.size := ByteArray.size_append
  by_cases h1 : lfE s < s.size
  · unfold lineRq lineOk lineWs
    rw [lfE_same t h1, line_same t h1, hz, if_neg (show ¬ s.size + t.size ≤ lfE s by omega), if_neg (show ¬ s.size ≤ lfE s by omega)]
  · have h2 := lfE_far t h1
    unfold lineRq at h ⊢
    by_cases h3 : 80 < lfE s
    · rw [if_pos h3, if_pos (by omega)]
    · rw [if_neg h3, if_pos (by omega)] at h
      exact absurd rfl h
theorem parse_more (s t : ByteArray) (h : (parse s).1 ≠ 0) : parse (s ++ t) = parse s := by
  have hz : (s ++ t).size = s.size + t.size := ByteArray.size_append
  have h0 : s.size ≠ 0 := by
    intro h1
    apply h
    unfold parse
    rw [if_pos h1]
  unfold parse at h ⊢
  rw [if_neg h0] at h ⊢
  rw [if_neg (show ¬ (s ++ t).size = 0 by omega), bt_more t (by omega)]
  by_cases h1 : Wd.bt s 0 ≠ 42
  · rw [if_pos h1] at h ⊢
    rw [if_pos h1]
    exact lineRq_more t h
  · rw [if_neg h1] at h ⊢
    rw [if_neg h1]
    by_cases h2 : headSt s 1 8 = 0
    · rw [h2, if_neg (by decide)] at h
      exact absurd rfl h
    · have e2 := head_same t h2
      rw [e2]
      by_cases h3 : headSt s 1 8 = 1
      · rw [if_pos h3] at h ⊢
        rw [if_pos h3]
        obtain ⟨k1, k2⟩ := head_in h3
        rw [figE_same t k1 k2, numV_same t k1 k2]
        exact rd_more s t _ _ _ h
      · rw [if_neg h3, if_neg h3]
theorem smalls_lows : ((List.range 10).all fun n => (((⟨#[48, 49, 50, 51, 52, 53, 54, 55, 56, 57, 97, 98, 99, 100, 101, 102, 103, 104, 105, 106, 107, 108, 109, 110, 111, 112, 113, 114, 115, 116, 117, 118, 119, 120, 121, 122]⟩ : ByteArray).extract n (n + 1)).data.toList == Wd.decS (n : Int))) = true := by kernel_rfl
theorem smalls_low (n : Nat) (h : n < 10) : (⟨#[48, 49, 50, 51, 52, 53, 54, 55, 56, 57, 97, 98, 99, 100, 101, 102, 103, 104, 105, 106, 107, 108, 109, 110, 111, 112, 113, 114, 115, 116, 117, 118, 119, 120, 121, 122]⟩ : ByteArray).extract n (n + 1) = ⟨(Wd.decS (n : Int)).toArray⟩ := by
  have := (List.all_eq_true.1 smalls_lows) n (List.mem_range.2 h)
  apply ByteArray.ext
  apply Array.toList_inj.1
  exact eq_of_beq this
theorem smalls_all : ((List.range 100).all fun n => decide (n < 10) || (((⟨#[48, 48, 48, 49, 48, 50, 48, 51, 48, 52, 48, 53, 48, 54, 48, 55, 48, 56, 48, 57, 49, 48, 49, 49, 49, 50, 49, 51, 49, 52, 49, 53, 49, 54, 49, 55, 49, 56, 49, 57, 50, 48, 50, 49, 50, 50, 50, 51, 50, 52, 50, 53, 50, 54, 50, 55, 50, 56, 50, 57, 51, 48, 51, 49, 51, 50, 51, 51, 51, 52, 51, 53, 51, 54, 51, 55, 51, 56, 51, 57, 52, 48, 52, 49, 52, 50, 52, 51, 52, 52, 52, 53, 52, 54, 52, 55, 52, 56, 52, 57, 53, 48, 53, 49, 53, 50, 53, 51, 53, 52, 53, 53, 53, 54, 53, 55, 53, 56, 53, 57, 54, 48, 54, 49, 54, 50, 54, 51, 54, 52, 54, 53, 54, 54, 54, 55, 54, 56, 54, 57, 55, 48, 55, 49, 55, 50, 55, 51, 55, 52, 55, 53, 55, 54, 55, 55, 55, 56, 55, 57, 56, 48, 56, 49, 56, 50, 56, 51, 56, 52, 56, 53, 56, 54, 56, 55, 56, 56, 56, 57, 57, 48, 57, 49, 57, 50, 57, 51, 57, 52, 57, 53, 57, 54, 57, 55, 57, 56, 57, 57]⟩ : ByteArray).extract (n * 2) (n * 2 + 2)).data.toList == Wd.decS (n : Int))) = true := by kernel_rfl
theorem smalls_high (n : Nat) (h0 : 10 ≤ n) (h : n < 100) : (⟨#[48, 48, 48, 49, 48, 50, 48, 51, 48, 52, 48, 53, 48, 54, 48, 55, 48, 56, 48, 57, 49, 48, 49, 49, 49, 50, 49, 51, 49, 52, 49, 53, 49, 54, 49, 55, 49, 56, 49, 57, 50, 48, 50, 49, 50, 50, 50, 51, 50, 52, 50, 53, 50, 54, 50, 55, 50, 56, 50, 57, 51, 48, 51, 49, 51, 50, 51, 51, 51, 52, 51, 53, 51, 54, 51, 55, 51, 56, 51, 57, 52, 48, 52, 49, 52, 50, 52, 51, 52, 52, 52, 53, 52, 54, 52, 55, 52, 56, 52, 57, 53, 48, 53, 49, 53, 50, 53, 51, 53, 52, 53, 53, 53, 54, 53, 55, 53, 56, 53, 57, 54, 48, 54, 49, 54, 50, 54, 51, 54, 52, 54, 53, 54, 54, 54, 55, 54, 56, 54, 57, 55, 48, 55, 49, 55, 50, 55, 51, 55, 52, 55, 53, 55, 54, 55, 55, 55, 56, 55, 57, 56, 48, 56, 49, 56, 50, 56, 51, 56, 52, 56, 53, 56, 54, 56, 55, 56, 56, 56, 57, 57, 48, 57, 49, 57, 50, 57, 51, 57, 52, 57, 53, 57, 54, 57, 55, 57, 56, 57, 57]⟩ : ByteArray).extract (n * 2) (n * 2 + 2) = ⟨(Wd.decS (n : Int)).toArray⟩ := by
  have := (List.all_eq_true.1 smalls_all) n (List.mem_range.2 h)
  simp only [Bool.or_eq_true, decide_eq_true_eq] at this
  rcases this with h' | h'
  · omega
  · apply ByteArray.ext
    apply Array.toList_inj.1
    exact eq_of_beq h'
theorem small_any (n : Nat) (w : World) (h : n < 100) :
    Calls Tryd.prog 70 #[.int .i64 n] w fun e w' => e = .returned (.string ⟨(Wd.decS (n : Int)).toArray⟩) ∧ w' = w := by
  by_cases hn : n < 10
  · have hn' : decide ((n : Int) < 10) = true := by simp; omega
    obtain ⟨R, hR⟩ : ∃ R : ByteArray, (⟨(Wd.decS (n : Int)).toArray⟩ : ByteArray) = R := ⟨_, rfl⟩
    have hcut := cut_at ⟨#[48, 49, 50, 51, 52, 53, 54, 55, 56, 57, 97, 98, 99, 100, 101, 102, 103, 104, 105, 106, 107, 108, 109, 110, 111, 112, 113, 114, 115, 116, 117, 118, 119, 120, 121, 122]⟩ n (n + 1) (n : Int) ((n : Int) + 1) R rfl (by omega) (by omega) (by show n + 1 ≤ 36; omega) ((smalls_low n hn).trans hR)
    rw [hR]
    clear hR
    go_enter Tryd.func70, Tryd.ntmps70
    go_wp2
    go_ret
    exact ⟨rfl, rfl⟩
  · have hn' : decide ((n : Int) < 10) = false := by simp; omega
    obtain ⟨R, hR⟩ : ∃ R : ByteArray, (⟨(Wd.decS (n : Int)).toArray⟩ : ByteArray) = R := ⟨_, rfl⟩
    have hcut := cut_at ⟨#[48, 48, 48, 49, 48, 50, 48, 51, 48, 52, 48, 53, 48, 54, 48, 55, 48, 56, 48, 57, 49, 48, 49, 49, 49, 50, 49, 51, 49, 52, 49, 53, 49, 54, 49, 55, 49, 56, 49, 57, 50, 48, 50, 49, 50, 50, 50, 51, 50, 52, 50, 53, 50, 54, 50, 55, 50, 56, 50, 57, 51, 48, 51, 49, 51, 50, 51, 51, 51, 52, 51, 53, 51, 54, 51, 55, 51, 56, 51, 57, 52, 48, 52, 49, 52, 50, 52, 51, 52, 52, 52, 53, 52, 54, 52, 55, 52, 56, 52, 57, 53, 48, 53, 49, 53, 50, 53, 51, 53, 52, 53, 53, 53, 54, 53, 55, 53, 56, 53, 57, 54, 48, 54, 49, 54, 50, 54, 51, 54, 52, 54, 53, 54, 54, 54, 55, 54, 56, 54, 57, 55, 48, 55, 49, 55, 50, 55, 51, 55, 52, 55, 53, 55, 54, 55, 55, 55, 56, 55, 57, 56, 48, 56, 49, 56, 50, 56, 51, 56, 52, 56, 53, 56, 54, 56, 55, 56, 56, 56, 57, 57, 48, 57, 49, 57, 50, 57, 51, 57, 52, 57, 53, 57, 54, 57, 55, 57, 56, 57, 57]⟩ (n * 2) (n * 2 + 2) ((n : Int) * 2) ((n : Int) * 2 + 2) R (by omega) (by omega) (by omega) (by show n * 2 + 2 ≤ 200; omega) ((smalls_high n (by omega) h).trans hR)
    rw [hR]
    clear hR
    go_enter Tryd.func70, Tryd.ntmps70
    go_wp2
    go_ret
    exact ⟨rfl, rfl⟩
theorem implDec_small (n : Nat) (w : World) (h : n < 100) :
    Calls Tryd.prog 32 #[.int .i64 n] w fun e w' => e = .returned (.string ⟨(Wd.decS (n : Int)).toArray⟩) ∧ w' = w := by
  have h1 : decide ((0 : Int) ≤ (n : Int)) = true := by simp
  have h2 : decide ((n : Int) < 100) = true := by simp; omega
  have F : ∀ W : World, Calls Tryd.prog 60 #[.int .i64 n, .int .i64 10] W fun e w' => e = .returned (.string ⟨(Wd.decS (n : Int)).toArray⟩) ∧ w' = W := by
    intro W
    go_enter Tryd.func60, Tryd.ntmps60
    go_wp2_with (go_at_call 70; refine (small_any n _ h).mono ?_; rintro e w' ⟨rfl, rfl⟩)
    go_ret
    exact ⟨rfl, rfl⟩
  have I : ∀ W : World, Calls Tryd.prog 51 #[.int .i64 n] W fun e w' => e = .returned (.string ⟨(Wd.decS (n : Int)).toArray⟩) ∧ w' = W := by
    intro W
    go_enter Tryd.func51, Tryd.ntmps51
    go_wp2_with (go_at_call 60; refine (F _).mono ?_; rintro e w' ⟨rfl, rfl⟩)
    go_ret
    exact ⟨rfl, rfl⟩
  have S : ∀ W : World, Calls Tryd.prog 41 #[.int .i64 n] W fun e w' => e = .returned (.string ⟨(Wd.decS (n : Int)).toArray⟩) ∧ w' = W := by
    intro W
    go_enter Tryd.func41, Tryd.ntmps41
    go_wp2_with (go_at_call 51; refine (I _).mono ?_; rintro e w' ⟨rfl, rfl⟩)
    go_ret
    exact ⟨rfl, rfl⟩
  go_enter Tryd.func32, Tryd.ntmps32
  go_wp2_with (go_at_call 41; refine (S _).mono ?_; rintro e w' ⟨rfl, rfl⟩)
  go_ret
  exact ⟨rfl, rfl⟩
theorem decS_len : ∀ n : Nat, n ≤ 99 → (Wd.decS (n : Int)).length ≤ 2 := by
  have : ((List.range 100).all fun n => decide ((Wd.decS (n : Int)).length ≤ 2)) = true := by kernel_rfl
  intro n hn
  have := (List.all_eq_true.1 this) n (List.mem_range.2 (by omega))
  simpa using this
def decB (n : Nat) : ByteArray := ⟨(Wd.decS (n : Int)).toArray⟩
def crlfB : ByteArray := ⟨#[13, 10]⟩
def headB (m : ByteArray) (n : Nat) : ByteArray := (m ++ decB n) ++ crlfB
def argB (x : ByteArray) : ByteArray := (headB ⟨#[36]⟩ x.size ++ x) ++ crlfB
def argsB : ByteArray → List ByteArray → ByteArray
  | s, [] => s
  | s, x :: r => argsB (s ++ argB x) r
def reqT (ts : List ByteArray) : ByteArray := argsB (headB ⟨#[42]⟩ ts.length) ts
def reqR (ts : List ByteArray) : ByteArray := if okTs ts = true then reqT ts else ⟨#[]⟩
theorem decB_size {n : Nat} (h : n ≤ 99) : (decB n).size ≤ 2 := decS_len n h
theorem headB_size {m : ByteArray} {n : Nat} (hm : m.size ≤ 1) (h : n ≤ 99) : (headB m n).size ≤ 5 := by
  have := decB_size h
  unfold headB
  simp only [ByteArray.size_append]
  have : crlfB.size = 2 := rfl
  omega
theorem argB_size {x : ByteArray} (h : x.size ≤ 60) : (argB x).size ≤ 67 := by
  have := headB_size (m := ⟨#[36]⟩) (n := x.size) (by show 1 ≤ 1; omega) (by omega)
  unfold argB
  simp only [ByteArray.size_append]
  have : crlfB.size = 2 := rfl
  omega
theorem headLine_any (m : ByteArray) (n : Nat) (w : World) (hm : m.size ≤ 1) (h : n ≤ 99) : Calls Tryd.prog 19 #[.string m, .int .i64 (n : Int)] w fun e w' => e = .returned (.string (headB m n)) ∧ w' = w := by
  have HD : Hid (∀ W, Calls Tryd.prog 32 #[.int .i64 (n : Int)] W fun e w' => e = .returned (.string (decB n)) ∧ w' = W) := fun W => implDec_small n W (by omega)
  have HE : Hid (headB m n = (m ++ decB n) ++ ⟨#[13, 10]⟩) := rfl
  have hd := decB_size h
  generalize decB n = D at HD HE hd
  rw [HE.out]
  go_enter Tryd.func19, Tryd.ntmps19
  go_wp2_with (go_at_call 32; refine (HD.out _).mono ?_; rintro e w' ⟨rfl, rfl⟩)
  go_ret
  exact ⟨rfl, rfl⟩
theorem argsB_next {ts : List ByteArray} {k : Nat} {S x : ByteArray} (h : k < ts.length) (hx : ts[k] = x) : argsB S (ts.drop k) = argsB (S ++ argB x) (ts.drop (k + 1)) := by
  rw [List.drop_eq_getElem_cons h, hx, argsB]
theorem argsB_end {ts : List ByteArray} {k : Nat} {S : ByteArray} (h : ts.length ≤ k) : argsB S (ts.drop k) = S := by
  rw [List.drop_eq_nil_of_le h, argsB]
theorem implReqText_any (ts : List ByteArray) (ao : Option Addr) (cap : Nat) (w : World) (hl : ts.length ≤ 1048576) (hts : TextsAt w ao ts) (hz : ∀ x ∈ ts, x.size ≤ 1048576) :
    Calls Tryd.prog 7 #[.slice ao ts.length cap] w fun e w' => e = .returned (.tuple #[.string (reqR ts), .bool (okTs ts)]) ∧ Below w.heap.size w w' := by
  have HO := hide (argsOk_any ts ao cap w hl hts hz)
  have HT := hide hts
  clear hts hz
  by_cases hok : okTs ts = true
  · have h8 : ts.length ≤ 8 ∧ ∀ x ∈ ts, x.size ≤ 60 := by
      unfold okTs at hok
      simp only [Bool.and_eq_true, decide_eq_true_eq, List.all_eq_true] at hok
      exact hok
    have HZ := hide h8.2
    have h8l := h8.1
    clear h8
    obtain ⟨R, HR⟩ : ∃ R, Hid (reqT ts = R) := ⟨_, rfl⟩
    have HRR : Hid (reqR ts = R) := by show _ = _; unfold reqR; rw [if_pos hok]; exact HR.out
    rw [hok] at HO ⊢
    rw [HRR.out]
    clear HRR hok
    have HH := hide (fun W => headLine_any ⟨#[42]⟩ ts.length W (by show 1 ≤ 1; omega) (by omega))
    obtain ⟨S0, HS0⟩ : ∃ S0, Hid (headB ⟨#[42]⟩ ts.length = S0) := ⟨_, rfl⟩
    have hS0 : S0.size ≤ 5 := by rw [← HS0.out]; exact headB_size (by show 1 ≤ 1; omega) (by omega)
    have HR0 : Hid (argsB S0 ts = R) := by show _ = _; rw [← HS0.out]; exact HR.out
    rw [HS0.out] at HH
    clear HR HS0
    go_enter Tryd.func7, Tryd.ntmps7
    go_wp2_with (first | (go_at_call 18; refine (HO.out).mono ?_; rintro e w1 ⟨rfl, rfl⟩) | (go_at_call 19; refine (HH.out _).mono ?_; rintro e w1 ⟨rfl, rfl⟩))
    go_loop [4, 15] (fun tt ii => ∃ (k : Nat) (S : ByteArray), tt = .string S ∧ ii = .int .i64 k ∧ k ≤ ts.length ∧ S.size ≤ 5 + 67 * k ∧ Hid (argsB S (ts.drop k) = R)) (fun _ ii => ts.length - (intOf ii).toNat)
    case atStart => exact ⟨0, S0, rfl, rfl, Nat.zero_le _, by omega, HR0⟩
    case round =>
      obtain ⟨k, S, rfl, rfl, hk, hS, HA⟩ := hrel
      by_cases hlt : k < ts.length
      · have hlt' : decide ((k : Int) < (ts.length : Int)) = true := by simp; omega
        obtain ⟨b, off, hao, hbw, hcell⟩ := HT.out k hlt
        subst hao
        have hi0 : (0 : Int) ≤ (k : Int) := by omega
        have hi1 : (k : Int) < (ts.length : Int) := by omega
        have hxz := HZ.out ts[k] (List.getElem_mem hlt)
        obtain ⟨x, hx⟩ : ∃ x, Hid (ts[k] = x) := ⟨ts[k], rfl⟩
        rw [hx.out] at hcell hxz
        have HN : Hid (argsB (S ++ argB x) (ts.drop (k + 1)) = R) := by show _ = _; rw [← HA.out, argsB_next hlt hx.out]
        have HX := hide (fun W => headLine_any ⟨#[36]⟩ x.size W (by show 1 ≤ 1; omega) (by omega))
        obtain ⟨D, HD⟩ : ∃ D, Hid (headB ⟨#[36]⟩ x.size = D) := ⟨_, rfl⟩
        have hDz : D.size ≤ 5 := by rw [← HD.out]; exact headB_size (by show 1 ≤ 1; omega) (by omega)
        have HAB : Hid (argB x = (D ++ x) ++ ⟨#[13, 10]⟩) := by show _ = _; unfold argB; rw [HD.out]; rfl
        have hAz := argB_size hxz
        rw [HAB.out] at hAz HN
        rw [HD.out] at HX
        have hc2 : (⟨#[13, 10]⟩ : ByteArray).size = 2 := rfl
        clear HD
        go_wp2_with (go_at_call 19; refine (HX.out _).mono ?_; rintro e w1 ⟨rfl, rfl⟩)
        go_round
        case rel => exact ⟨k + 1, _, rfl, by go_num, by omega, by rw [ByteArray.size_append]; omega, HN⟩
        case measure => simp [intOf]; omega
      · have hfin : Hid (S = R) := by show _ = _; rw [← HA.out, argsB_end (by omega)]
        go_wp2
        go_ret2
        rw [hfin.out]
        exact ⟨rfl, Below.refl _ _⟩
  · have hok' : okTs ts = false := by simpa using hok
    have HRR : Hid (reqR ts = ⟨#[]⟩) := by show _ = _; unfold reqR; rw [if_neg hok]
    rw [hok'] at HO ⊢
    rw [HRR.out]
    go_enter Tryd.func7, Tryd.ntmps7
    go_wp2_with (go_at_call 18; refine (HO.out).mono ?_; rintro e w1 ⟨rfl, rfl⟩)
    go_ret2
    exact ⟨rfl, Below.refl _ _⟩
theorem cut_to9 (s : ByteArray) (b : Nat) (bi : Int) (R : ByteArray) (hb : bi = b) (h2 : b ≤ s.size) (hR : s.extract 0 b = R) : ∀ W : World, (Instr.slice 9 (.string s) none (some (.int .i64 bi)) none).run Tryd.prog W = .ok (.string R) W := by
  intro W
  subst hb hR
  rw [run_slice_string_to_if W 9 s .i64 (b : Int) Tryd.underlying9, if_pos ⟨by omega, by omega⟩, Int.toNat_natCast]
def TellsR (c p : Nat) (L : List ByteArray) (w : World) (e : Ending) (w' : World) : Prop :=
  Below w.heap.size w w' ∧ ∃ ao cap, e = .returned (.tuple #[.slice ao L.length cap, .int .i64 (p : Int), .int .i64 (c : Int)]) ∧ RowText w' w.heap.size (.slice ao L.length cap) L
theorem tells_of {s : ByteArray} {w : World} {e : Ending} {w' : World} (h : ParseLeft s w e w') : TellsR (parse s).1 (parse s).2.1 (parse s).2.2 w e w' := by
  obtain ⟨hb, v, he, hv⟩ := h
  obtain ⟨ao, cap, rfl, _⟩ := rowText_at hv
  exact ⟨hb, ao, cap, he, hv⟩
def reqsF (s : ByteArray) : Nat → Nat → List (List ByteArray) → List (List ByteArray) × Nat × Bool
  | 0, i, acc => (acc, i, false)
  | f + 1, i, acc => if (parse (s.extract i s.size)).1 = 1 then reqsF s f (i + (parse (s.extract i s.size)).2.1) (acc ++ [(parse (s.extract i s.size)).2.2]) else (acc, i, decide ((parse (s.extract i s.size)).1 = 2))
def reqs (s : ByteArray) : List (List ByteArray) × Nat × Bool := reqsF s (s.size + 1) 0 []
theorem cutR_from (s : ByteArray) (a : Nat) (ai : Int) (R : ByteArray) (ha : ai = a) (h2 : a ≤ s.size) (hR : s.extract a s.size = R) :
    ∀ W : World, (Instr.slice 9 (.string s) (some (.int .i64 ai)) none none).run Tryd.prog W = .ok (.string R) W := by
  intro W
  subst ha hR
  rw [run_slice_string_from_if W 9 s .i64 (a : Int) Tryd.underlying9, if_pos (by omega), Int.toNat_natCast]
def ReqsLeft (R : List (List ByteArray) × Nat × Bool) (w : World) (e : Ending) (w' : World) : Prop :=
  Below w.heap.size w w' ∧ ∃ v, e = .returned (.tuple #[v, .int .i64 (R.2.1 : Int), .bool R.2.2]) ∧ RowTT w' w.heap.size v R.1
theorem reqsF_yes {s T : ByteArray} {f i p : Nat} {acc : List (List ByteArray)} {L : List ByteArray} (hT : s.extract i s.size = T) (h1 : (parse T).1 = 1) (h2 : (parse T).2.1 = p) (h3 : (parse T).2.2 = L) : reqsF s (f + 1) i acc = reqsF s f (i + p) (acc ++ [L]) := by
  rw [reqsF, hT, if_pos h1, h2, h3]
theorem reqsF_no {s T : ByteArray} {f i c : Nat} {acc : List (List ByteArray)} (hT : s.extract i s.size = T) (h1 : (parse T).1 = c) (hc : c ≠ 1) : reqsF s (f + 1) i acc = (acc, i, decide (c = 2)) := by
  rw [reqsF, hT, h1, if_neg hc]
theorem rest_ways (s : ByteArray) (i : Nat) (hi : i ≤ s.size) : ∃ (T : ByteArray) (c p : Nat) (L : List ByteArray), Hid (s.extract i s.size = T) ∧ T.size = s.size - i ∧ Hid ((parse T).1 = c) ∧ Hid ((parse T).2.1 = p) ∧ Hid ((parse T).2.2 = L) ∧ c ≤ 2 ∧ i + p ≤ s.size ∧ L.length ≤ 8 ∧ (c = 1 → 0 < p) := by
  have hp := parse_facts (s.extract i s.size)
  have hz : (s.extract i s.size).size = s.size - i := by rw [ByteArray.size_extract]; omega
  rw [hz] at hp
  exact ⟨_, _, _, _, rfl, hz, rfl, rfl, rfl, hp.1, by omega, hp.2.2.1, hp.2.2.2.2⟩
theorem implReqs_any (s : ByteArray) (m : Int) (w : World) (hz : s.size ≤ 1048576) (hm : MaxL w m) : Calls Tryd.prog 8 #[.string s] w (ReqsLeft (reqs s) w) := by
  have HM := hide hm
  have hw0 : 1 < w.heap.size := hm.2
  clear hm
  obtain ⟨R, HR⟩ : ∃ R, Hid (reqs s = R) := ⟨_, rfl⟩
  rw [HR.out]
  go_enter Tryd.func8, Tryd.ntmps8
  go_wp2
  go_loopw [5, 6] (fun vv ii wr => ∃ (i f : Nat) (acc : List (List ByteArray)) (a : Option Addr) (c : Nat), vv = .slice a acc.length c ∧ ii = .int .i64 i ∧ i ≤ s.size ∧ acc.length ≤ i ∧ s.size - i < f ∧ Hid (reqsF s f i acc = R) ∧ Hid (BuildT wr w.heap.size (.slice a acc.length c) acc) ∧ Hid (Below w.heap.size w wr)) (fun _ ii _ => s.size - (intOf ii).toNat)
  case atStart => exact ⟨0, s.size + 1, [], _, _, rfl, rfl, Nat.zero_le _, Nat.zero_le _, by omega, HR.out, buildT_nil _ _, Below.refl _ _⟩
  case round =>
    obtain ⟨i, f, acc, a, c, rfl, rfl, hi, hal, hf, HF, HBd, HB⟩ := hrel
    obtain ⟨f, rfl⟩ : ∃ f', f = f' + 1 := ⟨f - 1, by omega⟩
    obtain ⟨T, st, p, L, HT, hTz, H1, H2, H3, hst, hpz, hL8, hp0⟩ := rest_ways s i hi
    have hcut := cutR_from s i (i : Int) T rfl hi HT.out
    have CP := (implParse_any T m wr (by omega) (maxL_below HM.out hw0 HB.out)).mono (fun e w' => tells_of)
    rw [H1.out, H2.out, H3.out] at CP
    have HCP := hide CP
    clear CP
    have hws := HB.out.size
    by_cases hc1 : st = 1
    · subst hc1
      have hp := hp0 rfl
      have HN := HF.out
      rw [reqsF_yes HT.out H1.out H2.out H3.out] at HN
      have HNX := hide HN
      clear HN HF hp0
      have hne : (((1 : Nat) : Int) != 1) = false := by decide
      go_wp2_with fail
      refine HCP.out.mono ?_
      rintro e w1 ⟨b1, ao1, cap1, rfl, r1⟩
      have R1 := hide r1
      have B1 := hide b1
      have s1 := b1.size
      clear r1 b1
      go_wp2_with (at_builtin; refine app_row wr _ w.heap.size (by rfl) _ _ (by rfl) _ (.slice ao1 L.length cap1) acc L (by rfl) HBd.out hws (B1.out.alloc B1.out.size _) (rowText_below R1.out ((Below.refl _ w1).alloc (Nat.le_refl _) _)) w1.heap.size (by simp [Act.eval]) (heap_alloc_new w1 _) (by omega) ?_; intro g5 cap5 w5 ho5 hb5 hgr5; have HO5 := hide ho5; have HB5 := hide ((((HB.out.trans (B1.out.mono hws)).alloc (by omega) _)).trans hb5); clear ho5 hb5 hgr5)
      go_roundw
      case rel => exact ⟨i + p, f, acc ++ [L], some ⟨g5, 0, none⟩, cap5, by simp, by go_num, hpz, by simp; omega, by omega, HNX, by rw [List.length_append]; exact HO5.out, HB5⟩
      case measure => simp [intOf]; omega
    · have hcn : ((st : Int) != 1) = true := by simp; omega
      have HN := HF.out
      rw [reqsF_no HT.out H1.out hc1] at HN
      have HNX := hide HN
      clear HN HF hp0
      have h2 : ((st : Int) == 2) = decide (st = 2) := by
        rw [Bool.eq_iff_iff, beq_iff_eq, decide_eq_true_eq]
        omega
      go_wp2_with fail
      refine HCP.out.mono ?_
      rintro e w1 ⟨b1, ao1, cap1, rfl, r1⟩
      have B1 := hide b1
      clear r1 b1
      go_wp2
      go_ret3
      rw [← HNX.out]
      exact ⟨HB.out.trans (B1.out.mono hws), _, rfl, buildT_row (buildT_below HBd.out B1.out)⟩
end Go.Proofs.YtdefipahgpljeaaDoor
