/- Replies as bytes, plainly: where a line ends; where a reply ends. -/
import Derived.Test.YtpibnhodlojajaaDoorWords0
import Derived.Test.YtpibnhodlojajaaDoorKit
namespace Go.Proofs.YtpibnhodlojajaaDoor
open Go.RowKit

theorem bt_ext {s t : ByteArray} (h : s.size = t.size) (hb : ∀ p, p < t.size → Wd.bt s p = Wd.bt t p) : s = t := by
  apply ByteArray.ext_getElem h
  intro p h1 h2
  have := hb p h2
  rw [← Wd.bt_eq s p h1, ← Wd.bt_eq t p h2] at this
  exact UInt8.toNat_inj.1 this
theorem bt_left {a b : ByteArray} {p : Nat} (h : p < a.size) : Wd.bt (a ++ b) p = Wd.bt a p := by
  rw [← Wd.bt_eq (a ++ b) p (by rw [ByteArray.size_append]; omega), ← Wd.bt_eq a p h, ByteArray.getElem_append_left h]
theorem bt_right {a b : ByteArray} {p : Nat} (h : p < b.size) : Wd.bt (a ++ b) (a.size + p) = Wd.bt b p := by
  rw [← Wd.bt_eq (a ++ b) (a.size + p) (by rw [ByteArray.size_append]; omega), ← Wd.bt_eq b p h, ByteArray.getElem_append_right (by omega)]
  congr 2
  omega
theorem bt_ex (s : ByteArray) (a b p : Nat) (h : p < b - a) (hb : b ≤ s.size) : Wd.bt (s.extract a b) p = Wd.bt s (a + p) := by
  have h1 : p < (s.extract a b).size := by rw [ByteArray.size_extract]; omega
  have h2 : a + p < s.size := by omega
  rw [← Wd.bt_eq _ _ h1, ← Wd.bt_eq _ _ h2, ByteArray.getElem_extract]

/-- A text stands at a place. -/
def Stands (s : ByteArray) (i : Nat) (t : ByteArray) : Prop := i + t.size ≤ s.size ∧ ∀ p, p < t.size → Wd.bt s (i + p) = Wd.bt t p
theorem stands_self (s : ByteArray) : Stands s 0 s := ⟨by omega, fun p _ => by rw [Nat.zero_add]⟩
theorem stands_left {s a b : ByteArray} {i : Nat} (h : Stands s i (a ++ b)) : Stands s i a := by
  have hz : (a ++ b).size = a.size + b.size := ByteArray.size_append
  exact ⟨by have := h.1; omega, fun p hp => (h.2 p (by omega)).trans (bt_left hp)⟩
theorem stands_right {s a b : ByteArray} {i : Nat} (h : Stands s i (a ++ b)) : Stands s (i + a.size) b := by
  have hz : (a ++ b).size = a.size + b.size := ByteArray.size_append
  exact ⟨by have := h.1; omega, fun p hp => by rw [Nat.add_assoc]; exact (h.2 _ (by omega)).trans (bt_right hp)⟩
theorem stands_cut {s t : ByteArray} {i : Nat} (h : Stands s i t) (a b : Nat) (hb : b ≤ t.size) : s.extract (i + a) (i + b) = t.extract a b := by
  have h1 := h.1
  refine bt_ext (by rw [ByteArray.size_extract, ByteArray.size_extract]; omega) fun p hp => ?_
  rw [ByteArray.size_extract] at hp
  rw [bt_ex s _ _ p (by omega) (by omega), bt_ex t _ _ p (by omega) hb, Nat.add_assoc, h.2 _ (by omega)]
theorem stands_all {s t : ByteArray} {i : Nat} (h : Stands s i t) : s.extract i (i + t.size) = t := by
  have h1 := h.1
  refine bt_ext (by rw [ByteArray.size_extract]; omega) fun p hp => ?_
  rw [bt_ex s _ _ p (by omega) (by omega), h.2 p hp]
theorem stands_front (t : ByteArray) (k : Nat) (h : k ≤ t.size) : Stands t 0 (t.extract 0 k) := by
  have hz : (t.extract 0 k).size = k := by rw [ByteArray.size_extract]; omega
  exact ⟨by omega, fun p hp => by rw [bt_ex t 0 k p (by omega) h]⟩

/-- The place of the CR of the first CR and LF from a place on; the length when there is none. -/
def crF (s : ByteArray) : Nat → Nat → Nat
  | 0, _ => s.size
  | f + 1, i => if i + 1 < s.size ∧ Wd.bt s i = 13 ∧ Wd.bt s (i + 1) = 10 then i else crF s f (i + 1)
def crE (s : ByteArray) (i : Nat) : Nat := crF s (s.size - i) i
theorem crE_here {s : ByteArray} {i : Nat} (h : i + 1 < s.size) (h1 : Wd.bt s i = 13) (h2 : Wd.bt s (i + 1) = 10) : crE s i = i := by
  unfold crE
  rw [show s.size - i = (s.size - i - 1) + 1 by omega, crF, if_pos ⟨h, h1, h2⟩]
theorem crE_next {s : ByteArray} {i : Nat} (h : ¬ (i + 1 < s.size ∧ Wd.bt s i = 13 ∧ Wd.bt s (i + 1) = 10)) : crE s i = crE s (i + 1) := by
  unfold crE
  by_cases hi : i < s.size
  · rw [show s.size - i = (s.size - (i + 1)) + 1 by omega, crF, if_neg h]
  · rw [show s.size - i = 0 by omega, show s.size - (i + 1) = 0 by omega, crF, crF]
theorem crF_facts (s : ByteArray) : ∀ f i, crF s f i < s.size → i ≤ crF s f i ∧ crF s f i + 1 < s.size ∧ Wd.bt s (crF s f i) = 13 ∧ Wd.bt s (crF s f i + 1) = 10 ∧ ∀ p, i ≤ p → p < crF s f i → ¬ (Wd.bt s p = 13 ∧ Wd.bt s (p + 1) = 10)
  | 0, i, h => by rw [crF] at h; omega
  | f + 1, i, h => by
    rw [crF] at h ⊢
    split at h
    · rename_i hc
      rw [if_pos hc]
      exact ⟨Nat.le_refl _, hc.1, hc.2.1, hc.2.2, fun p h1 h2 => by omega⟩
    · rename_i hc
      rw [if_neg hc]
      obtain ⟨g1, g2, g3, g4, g5⟩ := crF_facts s f (i + 1) h
      refine ⟨by omega, g2, g3, g4, fun p h1 h2 => ?_⟩
      by_cases e : p = i
      · subst e
        exact fun hh => hc ⟨by omega, hh⟩
      · exact g5 p (by omega) h2
theorem crE_facts {s : ByteArray} {i : Nat} (h : crE s i < s.size) : i ≤ crE s i ∧ crE s i + 1 < s.size ∧ Wd.bt s (crE s i) = 13 ∧ Wd.bt s (crE s i + 1) = 10 ∧ ∀ p, i ≤ p → p < crE s i → ¬ (Wd.bt s p = 13 ∧ Wd.bt s (p + 1) = 10) := crF_facts s _ i h
theorem crF_le (s : ByteArray) : ∀ f i, crF s f i ≤ s.size
  | 0, _ => Nat.le_refl _
  | f + 1, i => by
    rw [crF]
    split
    · omega
    · exact crF_le s f (i + 1)
theorem crE_le (s : ByteArray) (i : Nat) : crE s i ≤ s.size := crF_le s _ i
theorem crE_none {s : ByteArray} {i : Nat} (h : ∀ p, i ≤ p → p + 1 < s.size → ¬ (Wd.bt s p = 13 ∧ Wd.bt s (p + 1) = 10)) : crE s i = s.size := by
  rcases Nat.lt_or_ge (crE s i) s.size with hh | hh
  · obtain ⟨g1, g2, g3, g4, -⟩ := crE_facts hh
    exact absurd ⟨g3, g4⟩ (h _ g1 g2)
  · have := crE_le s i; omega
theorem crE_is {s : ByteArray} : ∀ {n i j : Nat}, j = i + n → j + 1 < s.size → Wd.bt s j = 13 → Wd.bt s (j + 1) = 10 → (∀ p, i ≤ p → p < j → ¬ (Wd.bt s p = 13 ∧ Wd.bt s (p + 1) = 10)) → crE s i = j
  | 0, i, j, e, h, h1, h2, _ => by
    obtain rfl : j = i := by omega
    exact crE_here h h1 h2
  | n + 1, i, j, e, h, h1, h2, hn => by
    rw [crE_next (fun hh => hn i (Nat.le_refl _) (by omega) hh.2)]
    exact crE_is (n := n) (by omega) h h1 h2 (fun p g1 g2 => hn p (by omega) g2)
theorem crE_at {s : ByteArray} {i j : Nat} (e : i ≤ j) (h : j + 1 < s.size) (h1 : Wd.bt s j = 13) (h2 : Wd.bt s (j + 1) = 10) (hn : ∀ p, i ≤ p → p < j → ¬ (Wd.bt s p = 13 ∧ Wd.bt s (p + 1) = 10)) : crE s i = j :=
  crE_is (n := j - i) (by omega) h h1 h2 hn
theorem crE_stands {s t : ByteArray} {o i : Nat} (h : Stands s o t) (ht : crE t i < t.size) : crE s (o + i) = o + crE t i := by
  obtain ⟨g1, g2, g3, g4, g5⟩ := crE_facts ht
  have h1 := h.1
  refine crE_at (by omega) (by omega) ((h.2 _ (by omega)).trans g3) ?_ ?_
  · rw [Nat.add_assoc]; exact (h.2 _ g2).trans g4
  · intro p p1 p2
    have e : p = o + (p - o) := by omega
    rw [e, h.2 _ (by omega), Nat.add_assoc, h.2 _ (by omega)]
    exact g5 _ (by omega) (by omega)

/-- n things one behind the other. -/
def rpN (f : Nat → Option Nat) : Nat → Nat → Option Nat
  | 0, i => some i
  | n + 1, i => match f i with | none => none | some j => rpN f n j
/-- Behind a text of n bytes that CR and LF end. -/
def bulkE (s : ByteArray) (p n : Nat) : Option Nat := if p + n + 2 ≤ s.size ∧ Wd.bt s (p + n) = 13 ∧ Wd.bt s (p + n + 1) = 10 then some (p + n + 2) else none
/-- A reply: A tells where n replies from a place on end; V what a line tells as a number. -/
def rpHd (V : ByteArray → Option Int) (s : ByteArray) (A : Nat → Nat → Option Nat) (i : Nat) : Option Nat :=
  if s.size ≤ crE s (i + 1) then none
  else if Wd.bt s i = 43 ∨ Wd.bt s i = 45 then some (crE s (i + 1) + 2)
  else match V (s.extract (i + 1) (crE s (i + 1))) with
    | none => none
    | some v =>
      if Wd.bt s i = 58 then some (crE s (i + 1) + 2)
      else if Wd.bt s i = 36 then (if v < -1 then none else if v = -1 then some (crE s (i + 1) + 2) else bulkE s (crE s (i + 1) + 2) v.toNat)
      else if Wd.bt s i = 42 then (if v < 0 then none else A v.toNat (crE s (i + 1) + 2))
      else none
/-- Where the reply ends that begins at a place, with at most d arrays in one another. -/
def rpAt (V : ByteArray → Option Int) (s : ByteArray) : Nat → Nat → Option Nat
  | 0, i => if s.size ≤ i then none else rpHd V s (fun _ _ => none) i
  | d + 1, i => if s.size ≤ i then none else rpHd V s (rpN (rpAt V s d)) i
theorem rpN_le {f : Nat → Option Nat} {z : Nat} (hf : ∀ i j, f i = some j → i < j ∧ j ≤ z) : ∀ n i j, rpN f n i = some j → i ≤ j ∧ (i ≤ z → j ≤ z)
  | 0, i, j, h => by simp [rpN] at h; omega
  | n + 1, i, j, h => by
    rw [rpN] at h
    split at h
    · cases h
    · rename_i k hk
      have h1 := hf _ _ hk
      have h2 := rpN_le hf n k j h
      omega
theorem rpHd_le {V : ByteArray → Option Int} {s : ByteArray} {A : Nat → Nat → Option Nat} {i j : Nat} (hA : ∀ n p q, p ≤ s.size → A n p = some q → p ≤ q ∧ q ≤ s.size) (h : rpHd V s A i = some j) : i < j ∧ j ≤ s.size := by
  unfold rpHd at h
  split at h
  · cases h
  rename_i hc
  obtain ⟨g1, g2, -⟩ := crE_facts (show crE s (i + 1) < s.size by omega)
  have hb : ∀ p n q, bulkE s p n = some q → p ≤ q ∧ q ≤ s.size := by
    intro p n q hq
    unfold bulkE at hq
    split at hq
    · simp at hq; omega
    · cases hq
  split at h
  · simp at h; omega
  split at h
  · cases h
  split at h
  · simp at h; omega
  split at h
  · split at h
    · cases h
    split at h
    · simp at h; omega
    · have := hb _ _ _ h; omega
  split at h
  · split at h
    · cases h
    · have := hA _ _ _ (by omega) h; omega
  · cases h
theorem rpAt_le (V : ByteArray → Option Int) (s : ByteArray) : ∀ d i j, rpAt V s d i = some j → i < j ∧ j ≤ s.size
  | 0, i, j, h => by
    rw [rpAt] at h
    split at h
    · cases h
    · exact rpHd_le (fun _ _ _ _ h => by cases h) h
  | d + 1, i, j, h => by
    rw [rpAt] at h
    split at h
    · cases h
    · exact rpHd_le (fun n p q hp hq => by have := rpN_le (rpAt_le V s d) n p q hq; omega) h
/-- What is told of a text is told of it wherever it stands. -/
theorem rpHd_stands {V : ByteArray → Option Int} {s t : ByteArray} {A B : Nat → Nat → Option Nat} {o i j : Nat} (h : Stands s o t) (hA : ∀ n p q, A n p = some q → B n (o + p) = some (o + q)) (hi : i < t.size) (hj : rpHd V t A i = some j) : rpHd V s B (o + i) = some (o + j) := by
  unfold rpHd at hj
  split at hj
  · cases hj
  rename_i hc
  have ht : crE t (i + 1) < t.size := by omega
  obtain ⟨g1, g2, -⟩ := crE_facts ht
  have he : crE s (o + i + 1) = o + crE t (i + 1) := crE_stands h ht
  have h1 := h.1
  have hm : Wd.bt s (o + i) = Wd.bt t i := h.2 i hi
  have hx : s.extract (o + i + 1) (o + crE t (i + 1)) = t.extract (i + 1) (crE t (i + 1)) := stands_cut h (i + 1) (crE t (i + 1)) (by omega)
  have hb : ∀ p n q, bulkE t p n = some q → bulkE s (o + p) n = some (o + q) := by
    intro p n q hq
    unfold bulkE at hq ⊢
    split at hq
    · rename_i hh
      rw [if_pos ⟨by omega, by rw [show o + p + n = o + (p + n) by omega, h.2 _ (by omega)]; exact hh.2.1, by rw [show o + p + n + 1 = o + (p + n + 1) by omega, h.2 _ (by omega)]; exact hh.2.2⟩]
      simp at hq ⊢
      omega
    · cases hq
  unfold rpHd
  rw [he, hm, if_neg (by omega)]
  split at hj
  · rename_i h0
    rw [if_pos h0]
    simp at hj ⊢; omega
  rename_i h0
  rw [if_neg h0, hx]
  cases hV : V (t.extract (i + 1) (crE t (i + 1))) with
  | none => rw [hV] at hj; cases hj
  | some v =>
    rw [hV] at hj
    simp only at hj ⊢
    split at hj
    · rename_i h3; rw [if_pos h3]; simp at hj ⊢; omega
    rename_i h3
    rw [if_neg h3]
    split at hj
    · rename_i h4
      rw [if_pos h4]
      split at hj
      · cases hj
      rename_i h5
      rw [if_neg h5]
      split at hj
      · rename_i h6; rw [if_pos h6]; simp at hj ⊢; omega
      · rename_i h6; rw [if_neg h6, Nat.add_assoc]; exact hb _ _ _ hj
    rename_i h4
    rw [if_neg h4]
    split at hj
    · rename_i h5
      rw [if_pos h5]
      split at hj
      · cases hj
      · rename_i h6; rw [if_neg h6, Nat.add_assoc]; exact hA _ _ _ hj
    · cases hj
theorem rpN_stands {f g : Nat → Option Nat} {o : Nat} (hf : ∀ i j, f i = some j → g (o + i) = some (o + j)) : ∀ n i j, rpN f n i = some j → rpN g n (o + i) = some (o + j)
  | 0, i, j, h => by simp [rpN] at h ⊢; omega
  | n + 1, i, j, h => by
    rw [rpN] at h ⊢
    cases hk : f i with
    | none => rw [hk] at h; cases h
    | some k =>
      rw [hk] at h
      rw [hf _ _ hk]
      exact rpN_stands hf n k j h
theorem rpAt_stands {V : ByteArray → Option Int} {s t : ByteArray} {o : Nat} (h : Stands s o t) : ∀ d i j, rpAt V t d i = some j → rpAt V s d (o + i) = some (o + j)
  | 0, i, j, hj => by
    have h1 := h.1
    rw [rpAt] at hj ⊢
    split at hj
    · cases hj
    · rw [if_neg (by omega)]
      exact rpHd_stands h (fun _ _ _ h => by cases h) (by omega) hj
  | d + 1, i, j, hj => by
    have h1 := h.1
    rw [rpAt] at hj ⊢
    split at hj
    · cases hj
    · rw [if_neg (by omega)]
      exact rpHd_stands h (fun n p q hq => rpN_stands (fun i j => rpAt_stands h d i j) n p q hq) (by omega) hj
/-- Two ways of telling a number that agree on the lines of a text agree on its replies. -/
theorem rpHd_same {V W : ByteArray → Option Int} {s : ByteArray} {A B : Nat → Nat → Option Nat} {i : Nat} (h : ∀ a b, V (s.extract a b) = W (s.extract a b)) (hA : ∀ n p, A n p = B n p) : rpHd V s A i = rpHd W s B i := by
  unfold rpHd
  rw [h]
  obtain rfl : A = B := funext fun n => funext fun p => hA n p
  rfl
theorem rpAt_same {V W : ByteArray → Option Int} {s : ByteArray} (h : ∀ a b, V (s.extract a b) = W (s.extract a b)) : ∀ d i, rpAt V s d i = rpAt W s d i
  | 0, i => by rw [rpAt, rpAt, rpHd_same h (fun _ _ => rfl)]
  | d + 1, i => by
    have e : rpAt V s d = rpAt W s d := funext (rpAt_same h d)
    rw [rpAt, rpAt, rpHd_same h (fun _ _ => rfl), e]

/-- The replies that stand from a place on. -/
def rplF (V : ByteArray → Option Int) (s : ByteArray) : Nat → Nat → Option (List ByteArray)
  | 0, _ => some []
  | f + 1, i => if s.size ≤ i then some [] else match rpAt V s 4 i with | none => none | some j => match rplF V s f j with | none => none | some l => some (s.extract i j :: l)
def rpl (V : ByteArray → Option Int) (s : ByteArray) : Option (List ByteArray) := rplF V s (s.size + 1) 0
theorem rplF_same {V W : ByteArray → Option Int} {s : ByteArray} (h : ∀ a b, V (s.extract a b) = W (s.extract a b)) : ∀ f i, rplF V s f i = rplF W s f i
  | 0, _ => rfl
  | f + 1, i => by
    rw [rplF, rplF, rpAt_same h]
    cases rpAt W s 4 i with
    | none => rfl
    | some j => simp only [rplF_same h f j]
end Go.Proofs.YtpibnhodlojajaaDoor
