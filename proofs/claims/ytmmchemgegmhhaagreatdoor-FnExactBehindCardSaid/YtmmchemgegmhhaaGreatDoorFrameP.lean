/- Frames in plain words: a record in its frame; what stands at a place; all that stand one behind the other. -/
import Derived.Test.YtmmchemgegmhhaaGreatDoorRv
import Derived.Test.YtmmchemgegmhhaaGreatDoorSumQ
namespace Go.Proofs.YtmmchemgegmhhaaGreatDoor
open Go.RowKit

theorem Wd.rv_canonF (s : ByteArray) (i : Nat) : ∀ f k, f + k = 5 → (∀ j, j < k → 128 ≤ Wd.bt s (i + j)) → ∀ n p, Wd.rvF s f (i + k) k (128 ^ k) (Wd.valF s i k) = some (n, p) →
    Wd.varF 5 n = Wd.subF s i (p - i) ∧ i < p ∧ p ≤ s.size := by
  intro f
  induction f with
  | zero => intro k _ _ n p h; simp [Wd.rvF] at h
  | succ f ih =>
    intro k hk hall n p h
    by_cases h1 : i + k < s.size
    · by_cases h2 : Wd.bt s (i + k) < 128
      · by_cases h3 : Wd.valF s i k + Wd.bt s (i + k) % 128 * 128 ^ k ≤ 1000000000 ∧ (0 < Wd.bt s (i + k) ∨ k = 0)
        · rw [Wd.rvF_last s f (i + k) k _ _ h1 h2 h3.1 h3.2, ← Wd.valF_snoc] at h
          simp only [Option.some.injEq, Prod.mk.injEq] at h
          obtain ⟨rfl, rfl⟩ := h
          rw [show i + k + 1 - i = k + 1 by omega]
          exact ⟨(Wd.canonF s k i 5 hall h2 (by omega)).2 h3.2, by omega, by omega⟩
        · rw [Wd.rvF_not s f _ k _ _ h2 h3] at h; simp at h
      · rw [Wd.rvF_more s f _ k _ _ h1 h2, ← Wd.valF_snoc, ← Nat.pow_succ] at h
        exact ih (k + 1) (by omega) (fun j hj => by
          by_cases e : j < k
          · exact hall j e
          · rw [show j = k by omega]; omega) n p h
    · rw [Wd.rvF_end s _ _ k _ _ h1] at h; simp at h

/-- What is read of a number is just how it is written. -/
theorem Wd.rv_canon (s : ByteArray) (i n p : Nat) (h : Wd.rv s i = some (n, p)) : (s.extract i p).data.toList = Wd.varF 5 n ∧ i < p ∧ p ≤ s.size := by
  obtain ⟨h1, h2, h3⟩ := Wd.rv_canonF s i 5 0 rfl (fun j hj => absurd hj (by omega)) n p h
  refine ⟨?_, h2, h3⟩
  rw [h1, ← Wd.subF_extract s i (p - i) (by omega), show i + (p - i) = p by omega]

theorem Wd.rv_at_end (s : ByteArray) (i : Nat) (h : s.size ≤ i) : Wd.rv s i = none := Wd.rvF_end s 5 i 0 1 0 (by omega)

theorem Wd.varF_len : ∀ f n, (Wd.varF f n).length ≤ f
  | 0, _ => by simp [Wd.varF]
  | f + 1, n => by
    by_cases h : n < 128
    · rw [Wd.varF_low f n h]; simp
    · rw [Wd.varF_high f n h]; simp; exact Wd.varF_len f _

/-- A record in its frame. -/
def frameB (t : ByteArray) : ByteArray := ⟨(Wd.varF 5 t.size).toArray⟩ ++ ⟨(four (sumB 4294967295 t)).toArray⟩ ++ t

theorem frameB_list (t : ByteArray) : (frameB t).data.toList = Wd.varF 5 t.size ++ four (sumB 4294967295 t) ++ t.data.toList := by
  unfold frameB
  simp

theorem frameB_size (t : ByteArray) : (frameB t).size = (Wd.varF 5 t.size).length + 4 + t.size := by
  unfold frameB
  rw [ByteArray.size_append, ByteArray.size_append]
  rfl

/-- The frame at the place i of s: where its record begins, and the place behind it. -/
def frB (s : ByteArray) (i : Nat) : Option (Nat × Nat) :=
  match Wd.rv s i with
  | none => none
  | some (n, p) => if 1 ≤ n ∧ n ≤ 9000 ∧ p + 4 + n ≤ s.size ∧ s.extract p (p + 4) = ⟨(four (sumB 4294967295 (s.extract (p + 4) (p + 4 + n)))).toArray⟩ then some (p + 4, p + 4 + n) else none

theorem frB_num (s : ByteArray) (i : Nat) (h : Wd.rv s i = none) : frB s i = none := by unfold frB; rw [h]
theorem frB_no (s : ByteArray) (i n p : Nat) (h : Wd.rv s i = some (n, p)) (hc : ¬ (1 ≤ n ∧ n ≤ 9000 ∧ p + 4 + n ≤ s.size ∧ s.extract p (p + 4) = ⟨(four (sumB 4294967295 (s.extract (p + 4) (p + 4 + n)))).toArray⟩)) : frB s i = none := by
  unfold frB; rw [h]; exact if_neg hc
theorem frB_yes (s : ByteArray) (i n p : Nat) (h : Wd.rv s i = some (n, p)) (hc : 1 ≤ n ∧ n ≤ 9000 ∧ p + 4 + n ≤ s.size ∧ s.extract p (p + 4) = ⟨(four (sumB 4294967295 (s.extract (p + 4) (p + 4 + n)))).toArray⟩) : frB s i = some (p + 4, p + 4 + n) := by
  unfold frB; rw [h]; exact if_pos hc

theorem frB_bounds (s : ByteArray) (i : Nat) (x : Nat × Nat) (h : frB s i = some x) : i + 4 < x.1 ∧ x.1 < x.2 ∧ x.2 ≤ s.size := by
  cases hr : Wd.rv s i with
  | none => rw [frB_num s i hr] at h; simp at h
  | some q =>
    obtain ⟨n, p⟩ := q
    have hb := Wd.rv_bounds s i n p hr
    by_cases hc : 1 ≤ n ∧ n ≤ 9000 ∧ p + 4 + n ≤ s.size ∧ s.extract p (p + 4) = ⟨(four (sumB 4294967295 (s.extract (p + 4) (p + 4 + n)))).toArray⟩
    · rw [frB_yes s i n p hr hc] at h
      simp only [Option.some.injEq] at h
      subst h
      have := hc.1
      have := hc.2.2.1
      refine ⟨?_, ?_, ?_⟩ <;> dsimp only <;> omega
    · rw [frB_no s i n p hr hc] at h; simp at h

/-- The frames from the place i on, one behind the other; f bounds how many. -/
def frs (s : ByteArray) : Nat → Nat → List (Nat × Nat)
  | 0, _ => []
  | f + 1, i => match frB s i with
    | none => []
    | some x => x :: frs s f x.2

theorem frs_none (s : ByteArray) (f i : Nat) (h : frB s i = none) : frs s f i = [] := by
  cases f with
  | zero => rfl
  | succ f => unfold frs; rw [h]
theorem frs_some (s : ByteArray) (f i : Nat) (x : Nat × Nat) (h : frB s i = some x) : frs s (f + 1) i = x :: frs s f x.2 := by
  conv => lhs; unfold frs
  rw [h]
theorem frs_len (s : ByteArray) : ∀ f i, (frs s f i).length ≤ f
  | 0, _ => by simp [frs]
  | f + 1, i => by
    cases h : frB s i with
    | none => rw [frs_none s _ i h]; simp
    | some x => rw [frs_some s f i x h]; simp; exact frs_len s f x.2

/-- How many bounds them does not matter where it is enough. -/
theorem frs_same (s : ByteArray) : ∀ f g i, s.size < f + i → s.size < g + i → frs s f i = frs s g i
  | 0, g, i, hf, _ => by
    have : frB s i = none := frB_num s i (Wd.rv_at_end s i (by omega))
    rw [frs_none s _ i this, frs_none s _ i this]
  | f + 1, g, i, hf, hg => by
    cases h : frB s i with
    | none => rw [frs_none s _ i h, frs_none s _ i h]
    | some x =>
      have hb := frB_bounds s i x h
      cases g with
      | zero => omega
      | succ g => rw [frs_some s f i x h, frs_some s g i x h, frs_same s f g x.2 (by omega) (by omega)]

/-- All frames that a file begins with. -/
def unf (s : ByteArray) : List (Nat × Nat) := if s.size ≤ 20000 then frs s (s.size + 1) 0 else []
/-- The place behind the last one. -/
def endOf (l : List (Nat × Nat)) : Nat := match l.getLast? with
  | some x => x.2
  | none => 0
theorem endOf_snoc (l : List (Nat × Nat)) (x : Nat × Nat) : endOf (l ++ [x]) = x.2 := by simp [endOf]
/-- The records. -/
def recs (s : ByteArray) (l : List (Nat × Nat)) : List (List UInt8) := l.map fun x => (s.extract x.1 x.2).data.toList
theorem recs_snoc (s : ByteArray) (l : List (Nat × Nat)) (x : Nat × Nat) : recs s (l ++ [x]) = recs s l ++ [(s.extract x.1 x.2).data.toList] := by simp [recs]
theorem recs_len (s : ByteArray) (l : List (Nat × Nat)) : (recs s l).length = l.length := by simp [recs]
theorem unf_len (s : ByteArray) : (unf s).length ≤ 20001 := by
  unfold unf
  split
  · have := frs_len s (s.size + 1) 0; omega
  · simp

theorem cut_three (s : ByteArray) (i p n : Nat) (h1 : i ≤ p) : (s.extract i (p + 4 + n)).data.toList = (s.extract i p).data.toList ++ (s.extract p (p + 4)).data.toList ++ (s.extract (p + 4) (p + 4 + n)).data.toList := by
  have e : ∀ a b c, a ≤ b → b ≤ c → (s.extract a c).data.toList = (s.extract a b).data.toList ++ (s.extract b c).data.toList := by
    intro a b c hab hbc
    simp only [ByteArray.data_extract, Array.toList_extract, List.extract_eq_take_drop]
    rw [show c - a = (b - a) + (c - b) by omega, List.take_add, List.drop_drop, show a + (b - a) = b by omega]
  rw [e i p (p + 4 + n) h1 (by omega), e p (p + 4) (p + 4 + n) (by omega) (by omega), List.append_assoc]

/-- The specification's test is the program's: the frame of what stands there is what stands there just when the sum is the sum. -/
theorem frame_test (s : ByteArray) (i n p : Nat) (h : Wd.rv s i = some (n, p)) (hp : p + 4 + n ≤ s.size) :
    frameB (s.extract (p + 4) (p + 4 + n)) = s.extract i (p + 4 + n) ↔ s.extract p (p + 4) = ⟨(four (sumB 4294967295 (s.extract (p + 4) (p + 4 + n)))).toArray⟩ := by
  obtain ⟨hc, hi, _⟩ := Wd.rv_canon s i n p h
  have hz : (s.extract (p + 4) (p + 4 + n)).size = n := by rw [ByteArray.size_extract]; omega
  have ext : ∀ a b : ByteArray, a = b ↔ a.data.toList = b.data.toList := fun a b => ⟨fun e => by rw [e], fun e => ByteArray.ext (Array.toList_inj.1 e)⟩
  rw [ext, ext, frameB_list, hz, cut_three s i p n (by omega), hc]
  constructor
  · intro e
    exact (List.append_cancel_left (List.append_cancel_right e)).symm
  · intro e
    rw [e]
end Go.Proofs.YtmmchemgegmhhaaGreatDoor
