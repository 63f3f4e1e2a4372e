/- Requests as bytes, plainly: numbers and their heads, arguments, lines. -/
import Derived.Test.YtdefipahgpljeaaDoorReadDecI
import Derived.Test.YtdefipahgpljeaaDoorWrds
namespace Go.Proofs.YtdefipahgpljeaaDoor
open Go.RowKit

/-- Behind the figures from a place on. -/
def figF (s : ByteArray) : Nat → Nat → Nat
  | 0, i => i
  | f + 1, i => if i < s.size ∧ 48 ≤ Wd.bt s i ∧ Wd.bt s i ≤ 57 then figF s f (i + 1) else i
def figE (s : ByteArray) (i : Nat) : Nat := figF s (s.size - i) i
theorem figE_more {s : ByteArray} {i : Nat} (h : i < s.size) (h1 : 48 ≤ Wd.bt s i) (h2 : Wd.bt s i ≤ 57) : figE s i = figE s (i + 1) := by
  unfold figE
  rw [show s.size - i = (s.size - (i + 1)) + 1 by omega, figF, if_pos ⟨h, h1, h2⟩]
theorem figE_stop {s : ByteArray} {i : Nat} (h : ¬ (i < s.size ∧ 48 ≤ Wd.bt s i ∧ Wd.bt s i ≤ 57)) : figE s i = i := by
  unfold figE
  cases s.size - i with
  | zero => rfl
  | succ f => rw [figF, if_neg h]
theorem figF_ge (s : ByteArray) : ∀ f i, i ≤ figF s f i
  | 0, i => Nat.le_refl _
  | f + 1, i => by
    rw [figF]
    split
    · have := figF_ge s f (i + 1); omega
    · exact Nat.le_refl _
theorem figF_le (s : ByteArray) : ∀ f i, i ≤ s.size → figF s f i ≤ s.size
  | 0, i, h => h
  | f + 1, i, h => by
    rw [figF]
    split
    · rename_i h2; exact figF_le s f (i + 1) (by omega)
    · exact h
theorem figF_digs (s : ByteArray) : ∀ f i p, i ≤ p → p < figF s f i → 48 ≤ Wd.bt s p ∧ Wd.bt s p ≤ 57
  | 0, i, p, h1, h2 => by rw [figF] at h2; omega
  | f + 1, i, p, h1, h2 => by
    rw [figF] at h2
    split at h2
    · rename_i h3
      by_cases e : p = i
      · subst e; exact h3.2
      · exact figF_digs s f (i + 1) p (by omega) h2
    · omega
theorem figE_ge (s : ByteArray) (i : Nat) : i ≤ figE s i := figF_ge _ _ _
theorem figE_le (s : ByteArray) (i : Nat) (h : i ≤ s.size) : figE s i ≤ s.size := figF_le _ _ _ h
theorem figE_digs (s : ByteArray) (i p : Nat) (h1 : i ≤ p) (h2 : p < figE s i) : 48 ≤ Wd.bt s p ∧ Wd.bt s p ≤ 57 := figF_digs _ _ _ _ h1 h2
theorem bt_cut (s : ByteArray) (a b p : Nat) (h : p < b - a) (hb : b ≤ s.size) : Wd.bt (s.extract a b) p = Wd.bt s (a + p) := by
  have h1 : p < (s.extract a b).size := by rw [ByteArray.size_extract]; omega
  have h2 : a + p < s.size := by omega
  rw [← Wd.bt_eq _ _ h1, ← Wd.bt_eq _ _ h2, ByteArray.getElem_extract]

/-- The figures that stand from a place on, and what they tell. -/
def numTx (s : ByteArray) (i : Nat) : ByteArray := s.extract i (figE s i)
def numV (s : ByteArray) (i : Nat) : Nat := Wd.numF (numTx s i) (numTx s i).size
def numOk (s : ByteArray) (i lim : Nat) : Prop := (numTx s i).size ≠ 0 ∧ (numTx s i).size ≤ 3 ∧ ((numTx s i).size = 1 ∨ Wd.bt (numTx s i) 0 ≠ 48) ∧ numV s i ≤ lim
instance (s : ByteArray) (i lim : Nat) : Decidable (numOk s i lim) := by unfold numOk; infer_instance
theorem numTx_size (s : ByteArray) (i : Nat) (h : i ≤ s.size) : (numTx s i).size = figE s i - i := by
  have := figE_le s i h
  unfold numTx
  rw [ByteArray.size_extract]
  omega
theorem numTx_digs (s : ByteArray) (i : Nat) (h : i ≤ s.size) : Wd.digs (numTx s i) (numTx s i).size := by
  intro p hp
  rw [numTx_size s i h] at hp
  unfold numTx
  rw [bt_cut s i _ p hp (figE_le s i h)]
  exact figE_digs s i _ (by omega) (by omega)
theorem numF_ge (s : ByteArray) (h0 : Wd.bt s 0 ≠ 48) : ∀ k, Wd.digs s (k + 1) → 10 ^ k ≤ Wd.numF s (k + 1)
  | 0, h => by have := h 0 (by omega); simp [Wd.numF]; omega
  | k + 1, h => by
    have ih := numF_ge s h0 k (fun p hp => h p (by omega))
    rw [Wd.numF, Nat.pow_succ]
    omega
theorem num_good {s : ByteArray} {i : Nat} (h : i ≤ s.size) (h1 : (numTx s i).size ≠ 0) (h2 : (numTx s i).size ≤ 3) (h3 : (numTx s i).size = 1 ∨ Wd.bt (numTx s i) 0 ≠ 48) : Wd.good (numTx s i) ∧ numV s i ≤ 999 := by
  have hd := numTx_digs s i h
  have hl := Wd.numF_lt _ _ hd
  have h4 : 10 ^ (numTx s i).size ≤ 10 ^ 3 := Nat.pow_le_pow_right (by omega) h2
  have h5 : Wd.numF (numTx s i) (numTx s i).size ≤ 999 := by omega
  exact ⟨⟨h1, by omega, hd, h3, by omega⟩, h5⟩
theorem numOk_good {s : ByteArray} {i lim : Nat} (h : i ≤ s.size) (hk : numOk s i lim) : Wd.good (numTx s i) := (num_good h hk.1 hk.2.1 hk.2.2.1).1
theorem num_long {s : ByteArray} {i : Nat} (h : i ≤ s.size) (h1 : 3 < (numTx s i).size) (h3 : (numTx s i).size = 1 ∨ Wd.bt (numTx s i) 0 ≠ 48) : 1000 ≤ numV s i := by
  have hd := numTx_digs s i h
  unfold numV
  obtain ⟨k, hk⟩ : ∃ k, (numTx s i).size = k + 1 := ⟨(numTx s i).size - 1, by omega⟩
  rw [hk] at hd h1 ⊢
  have := numF_ge _ (by rcases h3 with h3 | h3; · omega
                        · exact h3) k hd
  have h4 : 10 ^ 3 ≤ 10 ^ k := Nat.pow_le_pow_right (by omega) (by omega)
  omega
theorem num_bad {s : ByteArray} {i lim : Nat} (h : i ≤ s.size) (hl : lim ≤ 999) (hk : ¬ numOk s i lim) (hg : Wd.good (numTx s i)) : lim < numV s i := by
  rcases Nat.lt_or_ge lim (numV s i) with h1 | h1
  · exact h1
  · refine absurd ⟨hg.1, ?_, hg.2.2.2.1, h1⟩ hk
    rcases Nat.lt_or_ge 3 (numTx s i).size with h2 | h2
    · have := num_long h h2 hg.2.2.2.1
      omega
    · exact h2

/-- Whether CR and LF stand at a place: 1 they do, 0 they may still come, 2 they do not. -/
def crlf (s : ByteArray) (j : Nat) : Nat := if s.size ≤ j then 0 else if Wd.bt s j ≠ 13 then 2 else if s.size ≤ j + 1 then 0 else if Wd.bt s (j + 1) ≠ 10 then 2 else 1
/-- A number from a place on, CR and LF behind it. -/
def headSt (s : ByteArray) (i lim : Nat) : Nat := if s.size ≤ i then 0 else if numOk s i lim then crlf s (figE s i) else 2
theorem crlf_le (s : ByteArray) (j : Nat) : crlf s j ≤ 2 := by
  unfold crlf
  repeat (first | split | omega)
theorem crlf_yes {s : ByteArray} {j : Nat} (h : crlf s j = 1) : j + 1 < s.size ∧ Wd.bt s j = 13 ∧ Wd.bt s (j + 1) = 10 := by
  unfold crlf at h
  split at h
  · cases h
  split at h
  · cases h
  split at h
  · cases h
  split at h
  · cases h
  · rename_i h1 h2 h3 h4
    exact ⟨by omega, by omega, by omega⟩
theorem headSt_le (s : ByteArray) (i lim : Nat) : headSt s i lim ≤ 2 := by
  unfold headSt
  split
  · omega
  split
  · exact crlf_le _ _
  · omega
theorem headSt_yes {s : ByteArray} {i lim : Nat} (h : headSt s i lim = 1) : i < s.size ∧ numOk s i lim ∧ crlf s (figE s i) = 1 ∧ figE s i + 2 ≤ s.size := by
  unfold headSt at h
  split at h
  · cases h
  split at h
  · rename_i h1 h2
    have := crlf_yes h
    exact ⟨by omega, h2, h, by omega⟩
  · cases h

/-- So many arguments from a place on: how it ends, the place behind them, and what they are, others ahead of them. -/
def rdArgs (s : ByteArray) : Nat → Nat → List ByteArray → Nat × Nat × List ByteArray
  | 0, i, acc => (1, i, acc)
  | c + 1, i, acc =>
    if s.size ≤ i then (0, 0, []) else if Wd.bt s i ≠ 36 then (2, 0, []) else if headSt s (i + 1) 60 ≠ 1 then (headSt s (i + 1) 60, 0, [])
    else if s.size < figE s (i + 1) + 2 + numV s (i + 1) then (0, 0, []) else if crlf s (figE s (i + 1) + 2 + numV s (i + 1)) ≠ 1 then (crlf s (figE s (i + 1) + 2 + numV s (i + 1)), 0, [])
    else rdArgs s c (figE s (i + 1) + 2 + numV s (i + 1) + 2) (acc ++ [s.extract (figE s (i + 1) + 2) (figE s (i + 1) + 2 + numV s (i + 1))])

/-- How many bytes stand ahead of the first LF. -/
def lfL : List UInt8 → Nat
  | [] => 0
  | b :: r => if b = 10 then 0 else lfL r + 1
def lfE (s : ByteArray) : Nat := lfL s.data.toList
theorem lfL_le : ∀ l, lfL l ≤ l.length
  | [] => Nat.le_refl _
  | b :: r => by
    rw [lfL]
    split
    · simp
    · have := lfL_le r; simp; omega
theorem lfE_le (s : ByteArray) : lfE s ≤ s.size := by
  have := lfL_le s.data.toList
  unfold lfE
  rw [Array.length_toList] at this
  exact this
theorem lf_index : ∀ l, (lfL l = l.length → Lib.index l [10] = -1) ∧ (lfL l < l.length → Lib.index l [10] = (lfL l : Int))
  | [] => by simp [lfL, Lib.index]
  | b :: r => by
    have ih := lf_index r
    by_cases h : b = 10
    · subst h
      simp [lfL, Lib.index]
    · have hp : ([10] : List UInt8).isPrefixOf (b :: r) = false := by
        have h10 : ((10 : UInt8) == b) = false := by rw [beq_eq_false_iff_ne]; exact fun e => h e.symm
        simp [List.isPrefixOf, h10]
      have e : Lib.index (b :: r) [10] = if Lib.index r [10] == -1 then -1 else Lib.index r [10] + 1 := by
        conv => lhs; unfold Lib.index
        rw [hp]; simp
      rw [e, lfL, if_neg h]
      simp only [List.length_cons]
      refine ⟨fun h1 => ?_, fun h1 => ?_⟩
      · rw [if_pos (beq_iff_eq.2 (ih.1 (by omega)))]
      · have h2 := ih.2 (by omega)
        rw [if_neg (fun x => by have := beq_iff_eq.1 x; omega), h2]
        omega
theorem lf_cut (s : ByteArray) : Lib.cut s.data.toList [10] = if lfE s < s.size then ((s.extract 0 (lfE s)).data.toList, s.data.toList.drop (lfE s + 1), true) else (s.data.toList, [], false) := by
  have h := lf_index s.data.toList
  have hl : s.data.toList.length = s.size := Array.length_toList
  unfold Lib.cut
  by_cases h1 : lfE s < s.size
  · have h2 : Lib.index s.data.toList [10] = (lfE s : Int) := h.2 (by rw [hl]; exact h1)
    rw [if_pos (by omega), if_pos h1, h2, Int.toNat_natCast, Lib.extract_data]
    simp
  · have h2 : Lib.index s.data.toList [10] = -1 := h.1 (by have := lfE_le s; unfold lfE at h1 this; omega)
    rw [if_neg (by omega), if_neg h1]

/-- The line ahead of the LF, without one CR at its end. -/
def lineTx (s : ByteArray) : ByteArray := if Lib.hasSuffix (s.extract 0 (lfE s)).data.toList [13] = true then (s.extract 0 (lfE s)).extract 0 ((s.extract 0 (lfE s)).size - 1) else s.extract 0 (lfE s)
theorem lineTx_size (s : ByteArray) : (lineTx s).size ≤ lfE s := by
  have h := lfE_le s
  unfold lineTx
  split <;> simp only [ByteArray.size_extract] <;> omega
def lineWs (s : ByteArray) : List (List UInt8) := Wd.words (lineTx s)
def lineOk (s : ByteArray) : Bool := decide ((lineWs s).length ≤ 8) && (lineWs s).all (fun x => decide (x.length ≤ 60))
/-- The text of these bytes. -/
def tx (l : List UInt8) : ByteArray := ⟨l.toArray⟩
/-- The request that is a line. -/
def lineRq (s : ByteArray) : Nat × Nat × List ByteArray := if 80 < lfE s then (2, 0, []) else if s.size ≤ lfE s then (0, 0, []) else if lineOk s = true then (1, lfE s + 1, (lineWs s).map tx) else (2, 0, [])
/-- The request that bytes begin with: whether there is one (1), may be one (0), can be none (2); how many bytes it has; what it is. -/
def parse (s : ByteArray) : Nat × Nat × List ByteArray :=
  if s.size = 0 then (0, 0, []) else if Wd.bt s 0 ≠ 42 then lineRq s else if headSt s 1 8 = 1 then rdArgs s (numV s 1) (figE s 1 + 2) [] else (headSt s 1 8, 0, [])

theorem rdArgs_facts (s : ByteArray) : ∀ c i acc, i ≤ s.size → (rdArgs s c i acc).1 ≤ 2 ∧ (rdArgs s c i acc).2.1 ≤ s.size ∧ (rdArgs s c i acc).2.2.length ≤ acc.length + c ∧ ((rdArgs s c i acc).1 ≠ 1 → (rdArgs s c i acc).2 = (0, [])) ∧ ((rdArgs s c i acc).1 = 1 → i ≤ (rdArgs s c i acc).2.1)
  | 0, i, acc, h => ⟨by simp [rdArgs], h, by simp [rdArgs], fun hx => absurd rfl hx, fun _ => Nat.le_refl _⟩
  | c + 1, i, acc, h => by
    rw [rdArgs]
    split
    · exact ⟨by simp, by simp, by simp, fun _ => rfl, fun h => by cases h⟩
    split
    · exact ⟨by simp, by simp, by simp, fun _ => rfl, fun h => by cases h⟩
    split
    · rename_i h3; exact ⟨headSt_le _ _ _, by simp, by simp, fun _ => rfl, fun h => absurd h h3⟩
    split
    · exact ⟨by simp, by simp, by simp, fun _ => rfl, fun h => by cases h⟩
    split
    · rename_i h5; exact ⟨crlf_le _ _, by simp, by simp, fun _ => rfl, fun h => absurd h h5⟩
    · rename_i h1 h2 h3 h4 h5
      have h6 := crlf_yes (Decidable.not_not.1 h5)
      have ih := rdArgs_facts s c (figE s (i + 1) + 2 + numV s (i + 1) + 2) (acc ++ [s.extract (figE s (i + 1) + 2) (figE s (i + 1) + 2 + numV s (i + 1))]) (by omega)
      refine ⟨ih.1, ih.2.1, ?_, ih.2.2.2.1, fun h => ?_⟩
      · have := ih.2.2.1
        simp only [List.length_append, List.length_cons, List.length_nil] at this
        omega
      · have := ih.2.2.2.2 h
        have := figE_ge s (i + 1)
        omega
theorem parse_facts (s : ByteArray) : (parse s).1 ≤ 2 ∧ (parse s).2.1 ≤ s.size ∧ (parse s).2.2.length ≤ 8 ∧ ((parse s).1 ≠ 1 → (parse s).2 = (0, [])) ∧ ((parse s).1 = 1 → 0 < (parse s).2.1) := by
  unfold parse
  split
  · exact ⟨by simp, by simp, by simp, fun _ => rfl, fun h => by cases h⟩
  split
  · unfold lineRq
    split
    · exact ⟨by simp, by simp, by simp, fun _ => rfl, fun h => by cases h⟩
    split
    · exact ⟨by simp, by simp, by simp, fun _ => rfl, fun h => by cases h⟩
    split
    · rename_i h1 h2 h3 h4 h5
      have h6 : (lineWs s).length ≤ 8 := by unfold lineOk at h5; simp at h5; exact h5.1
      exact ⟨by simp, by show lfE s + 1 ≤ s.size; omega, by simpa using h6, fun h => absurd rfl h, fun _ => Nat.succ_pos _⟩
    · exact ⟨by simp, by simp, by simp, fun _ => rfl, fun h => by cases h⟩
  split
  · rename_i h1 h2 h3
    have h4 := headSt_yes h3
    have h5 := rdArgs_facts s (numV s 1) (figE s 1 + 2) [] h4.2.2.2
    have h6 := h4.2.1.2.2.2
    refine ⟨h5.1, h5.2.1, ?_, h5.2.2.2.1, fun h => ?_⟩
    · have := h5.2.2.1; simp only [List.length_nil] at this; omega
    · have := h5.2.2.2.2 h; omega
  · rename_i h3; exact ⟨headSt_le _ _ _, by simp, by simp, fun _ => rfl, fun h => absurd h h3⟩
end Go.Proofs.YtdefipahgpljeaaDoor
