/- The specification's reader of a line. -/
import Derived.Test.YtdefipahgpljeaaDoorReqS1
import Derived.Test.YtdefipahgpljeaaDoorTxtA
import Derived.Deep.LoopGhost
namespace Go.Proofs.YtdefipahgpljeaaDoor
open Go.RowKit

theorem drop_cons (s : ByteArray) (i : Nat) (h : i < s.size) : s.data.toList.drop i = UInt8.ofNat (Wd.bt s i) :: s.data.toList.drop (i + 1) := by
  rw [List.drop_eq_getElem_cons (by simpa using h)]
  congr 1
  have := Wd.bt_eq s i h
  rw [← this]
  simp
  rfl
theorem bt_is (s : ByteArray) (i : Nat) (b : UInt8) : (UInt8.ofNat (Wd.bt s i) = b) ↔ Wd.bt s i = b.toNat := by
  have := Wd.bt_lt s i
  constructor
  · intro h
    have := congrArg UInt8.toNat h
    simp only [UInt8.toNat_ofNat'] at this
    omega
  · intro h
    rw [h]
    simp
/-- The place of the first LF from a place on, or the end. -/
def lfK (s : ByteArray) (k : Nat) : Nat := k + lfL (s.data.toList.drop k)
theorem lfK_more {s : ByteArray} {k : Nat} (h : k < s.size) (hc : Wd.bt s k ≠ 10) : lfK s (k + 1) = lfK s k := by
  unfold lfK
  rw [drop_cons s k h, lfL, if_neg (fun e => hc ((bt_is s k 10).1 e))]
  omega
theorem lfK_lf {s : ByteArray} {k : Nat} (h : k < s.size) (hc : Wd.bt s k = 10) : lfK s k = k := by
  unfold lfK
  rw [drop_cons s k h, lfL, if_pos ((bt_is s k 10).2 hc)]
  rfl
theorem lfK_end {s : ByteArray} {k : Nat} (h : k = s.size) : lfK s k = k := by
  unfold lfK
  rw [List.drop_of_length_le (by rw [Array.length_toList]; rw [h]; exact Nat.le_refl _)]
  rfl
theorem lfK_zero (s : ByteArray) : lfK s 0 = lfE s := by unfold lfK lfE; simp

theorem sufCR (T : ByteArray) : Lib.hasSuffix T.data.toList [13] = (decide (0 < T.size) && decide (Wd.bt T (T.size - 1) = 13)) := by
  have hl : T.data.toList.length = T.size := Array.length_toList
  by_cases h0 : 0 < T.size
  · have hb := Wd.bt_eq T (T.size - 1) (by omega)
    have hd := drop_cons T (T.size - 1) (by omega)
    rw [List.drop_of_length_le (i := T.size - 1 + 1) (by omega)] at hd
    have hs : T.data.toList = T.data.toList.take (T.size - 1) ++ [UInt8.ofNat (Wd.bt T (T.size - 1))] := by rw [← hd, List.take_append_drop]
    by_cases h1 : Wd.bt T (T.size - 1) = 13
    · rw [decide_eq_true h0, decide_eq_true h1]
      show List.isSuffixOf [13] T.data.toList = true
      rw [List.isSuffixOf_iff_suffix]
      exact ⟨_, by rw [h1] at hs; exact hs.symm⟩
    · rw [decide_eq_true h0, decide_eq_false h1]
      show List.isSuffixOf [13] T.data.toList = false
      rw [Bool.eq_false_iff]
      intro h
      rw [List.isSuffixOf_iff_suffix] at h
      obtain ⟨t, ht⟩ := h
      rw [hs] at ht
      have := List.append_inj_right' ht rfl
      simp only [List.cons.injEq, and_true] at this
      exact h1 ((bt_is T _ 13).1 this.symm)
  · rw [decide_eq_false h0]
    have e : T.data.toList = [] := List.eq_nil_of_length_eq_zero (by omega)
    rw [e]
    rfl
theorem lineTx_yes {s : ByteArray} (h : 0 < (s.extract 0 (lfE s)).size) (h1 : Wd.bt (s.extract 0 (lfE s)) ((s.extract 0 (lfE s)).size - 1) = 13) : lineTx s = (s.extract 0 (lfE s)).extract 0 ((s.extract 0 (lfE s)).size - 1) := by
  unfold lineTx
  rw [sufCR, decide_eq_true h, decide_eq_true h1]
  rfl
theorem lineTx_no {s : ByteArray} (h : ¬ (0 < (s.extract 0 (lfE s)).size ∧ Wd.bt (s.extract 0 (lfE s)) ((s.extract 0 (lfE s)).size - 1) = 13)) : lineTx s = s.extract 0 (lfE s) := by
  unfold lineTx
  rw [sufCR]
  rw [if_neg]
  intro hx
  simp only [Bool.and_eq_true, decide_eq_true_eq] at hx
  exact h hx

/-- The bytes of a text from b up to i. -/
theorem sub_more (T : ByteArray) (b i : Nat) (hb : b ≤ i) (hi : i < T.size) : (T.extract b (i + 1)).data.toList = (T.extract b i).data.toList ++ [UInt8.ofNat (Wd.bt T i)] := by
  rw [Lib.extract_data, Lib.extract_data, show i + 1 - b = (i - b) + 1 from by omega, List.take_succ_eq_append_getElem (by simp; omega)]
  congr 2
  have := Wd.bt_eq T i hi
  rw [← this]
  simp [show b + (i - b) = i from by omega]
  rfl
theorem sub_none (T : ByteArray) (b : Nat) : (T.extract b b).data.toList = [] := by rw [Lib.extract_data]; simp
theorem word_run (T : ByteArray) (i : Nat) : ∀ d, i + d ≤ T.size → (∀ j, i ≤ j → j < i + d → Wd.bt T j ≠ 32) → Wd.wordsL [] (T.data.toList.drop i) = Wd.wordsL (T.extract i (i + d)).data.toList (T.data.toList.drop (i + d))
  | 0, _, _ => by rw [Nat.add_zero, sub_none]
  | d + 1, hks, hno => by
    rw [word_run T i d (by omega) (fun j h1 h2 => hno j h1 (by omega)), drop_cons T (i + d) (by omega), show i + (d + 1) = (i + d) + 1 from rfl, sub_more T i (i + d) (by omega) (by omega)]
    conv => lhs; unfold Wd.wordsL
    rw [if_neg (fun e => hno (i + d) (by omega) (by omega) ((bt_is T (i + d) 32).1 e))]
/-- How far a line has been read: the words so far. -/
def Tld (T : ByteArray) (i : Nat) (P : List ByteArray) : Prop := P.map (·.data.toList) ++ Wd.wordsL [] (T.data.toList.drop i) = Wd.words T
theorem tld_blank {T : ByteArray} {i : Nat} {P : List ByteArray} (h : Tld T i P) (hi : i < T.size) (hc : Wd.bt T i = 32) : Tld T (i + 1) P := by
  unfold Tld at h ⊢
  rw [← h, drop_cons T i hi]
  conv => rhs; unfold Wd.wordsL
  rw [if_pos ((bt_is T i 32).2 hc), if_pos rfl]
theorem ext_ne {T : ByteArray} {i k : Nat} (h : i < k) (hk : k ≤ T.size) : (T.extract i k).data.toList ≠ [] := by
  intro e
  have := congrArg List.length e
  rw [Array.length_toList] at this
  have h2 : (T.extract i k).data.size = (T.extract i k).size := rfl
  rw [h2, ByteArray.size_extract] at this
  simp at this
  omega
theorem word_end {T : ByteArray} {i k : Nat} (hik : i < k) (hk : k ≤ T.size) (hno : ∀ j, i ≤ j → j < k → Wd.bt T j ≠ 32) (hend : k < T.size → Wd.bt T k = 32) : Wd.wordsL [] (T.data.toList.drop i) = (T.extract i k).data.toList :: Wd.wordsL [] (T.data.toList.drop k) := by
  obtain ⟨d, rfl⟩ : ∃ d, k = i + d := ⟨k - i, by omega⟩
  rw [word_run T i d hk hno]
  generalize i + d = k at *
  by_cases h : k < T.size
  · rw [drop_cons T k h]
    conv => lhs; unfold Wd.wordsL
    conv => rhs; rhs; unfold Wd.wordsL
    have e := (bt_is T k 32).2 (hend h)
    rw [if_pos e, if_neg (ext_ne hik hk), if_pos e, if_pos rfl]
  · rw [List.drop_of_length_le (by rw [Array.length_toList]; have : T.data.size = T.size := rfl; omega)]
    unfold Wd.wordsL
    rw [if_neg (ext_ne hik hk), if_pos rfl]
theorem tld_word {T : ByteArray} {i k : Nat} {P : List ByteArray} (h : Tld T i P) (hik : i < k) (hk : k ≤ T.size) (hno : ∀ j, i ≤ j → j < k → Wd.bt T j ≠ 32) (hend : k < T.size → Wd.bt T k = 32) : Tld T k (P ++ [T.extract i k]) ∧ (T.extract i k).data.toList ∈ Wd.words T ∧ P.length < (Wd.words T).length := by
  unfold Tld at h ⊢
  rw [word_end hik hk hno hend] at h
  refine ⟨by rw [← h]; simp, by rw [← h]; simp, ?_⟩
  rw [← h]
  simp
theorem tld_done {T : ByteArray} {P : List ByteArray} (h : Tld T T.size P) : P = (Wd.words T).map tx := by
  unfold Tld at h
  rw [List.drop_of_length_le (by rw [Array.length_toList]; exact Nat.le_refl _)] at h
  simp [Wd.wordsL] at h
  rw [← h, List.map_map]
  conv => lhs; rw [← List.map_id P]
  apply List.map_congr_left
  intro x _
  show x = tx x.data.toList
  unfold tx
  cases x
  simp
end Go.Proofs.YtdefipahgpljeaaDoor
