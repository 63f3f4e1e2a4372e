/- Plain facts on the words of a line: what stands between blanks, without any program. -/
import Derived.Test.YtdefipahgpljeaaDoorWords0
import Derived.Lib.Split
import Derived.Lib.CountLaws
import Derived.Lib.SplitLaws
namespace Go.Proofs.YtdefipahgpljeaaDoor
namespace Wd

/-- What stands between blanks; cur stands ahead. -/
def splitL : List UInt8 → List UInt8 → List (List UInt8)
  | cur, [] => [cur]
  | cur, b :: r => if b = 32 then cur :: splitL [] r else splitL (cur ++ [b]) r

/-- The words; cur stands ahead. -/
def wordsL : List UInt8 → List UInt8 → List (List UInt8)
  | cur, [] => if cur = [] then [] else [cur]
  | cur, b :: r => if b = 32 then (if cur = [] then wordsL [] r else cur :: wordsL [] r) else wordsL (cur ++ [b]) r

theorem words_split : ∀ r cur, wordsL cur r = (splitL cur r).filter (fun x => !x.isEmpty)
  | [], cur => by cases cur <;> simp [wordsL, splitL]
  | b :: r, cur => by
    by_cases h : b = 32
    · cases cur with
      | nil => simp [wordsL, splitL, h, words_split r []]
      | cons a l => simp [wordsL, splitL, h, words_split r []]
    · simp [wordsL, splitL, h, words_split r (cur ++ [b])]

theorem splitL_index : ∀ s cur, (Lib.index s [32] = -1 → splitL cur s = [cur ++ s]) ∧ (∀ i : Nat, Lib.index s [32] = i → splitL cur s = (cur ++ s.take i) :: splitL [] (s.drop (i + 1)))
  | [], cur => by
    refine ⟨fun _ => by simp [splitL], fun i h => ?_⟩
    simp [Lib.index] at h
  | b :: l, cur => by
    by_cases h : b = 32
    · subst h
      have e : Lib.index (32 :: l) [32] = 0 := by simp [Lib.index]
      refine ⟨fun h => by rw [e] at h; omega, fun i hi => ?_⟩
      have : i = 0 := by rw [e] at hi; omega
      subst this
      simp [splitL]
    · have hp : ([32] : List UInt8).isPrefixOf (b :: l) = false := by
        have h32 : ((32 : UInt8) == b) = false := by rw [beq_eq_false_iff_ne]; exact fun e => h e.symm
        simp [List.isPrefixOf, h32]
      have e : Lib.index (b :: l) [32] = if Lib.index l [32] == -1 then -1 else Lib.index l [32] + 1 := by
        conv => lhs; unfold Lib.index
        rw [hp]; simp
      have ih := splitL_index l (cur ++ [b])
      have hs : splitL cur (b :: l) = splitL (cur ++ [b]) l := by simp [splitL, h]
      have hge := Lib.index_ge l [32]
      rw [e, hs]
      by_cases hm : Lib.index l [32] = -1
      · rw [if_pos (beq_iff_eq.2 hm)]
        refine ⟨fun _ => by rw [ih.1 hm]; simp, fun i hi => by omega⟩
      · rw [if_neg (fun x => hm (beq_iff_eq.1 x))]
        refine ⟨fun hx => by omega, fun i hi => ?_⟩
        obtain ⟨j, rfl⟩ : ∃ j, i = j + 1 := ⟨i - 1, by omega⟩
        rw [ih.2 j (by omega)]
        simp

theorem splitK_splitL : ∀ k s, Lib.count s [32] = k → Lib.splitK [32] 0 k s = splitL [] s
  | 0, s, h => by
    have hm : Lib.index s [32] = -1 := by
      by_cases hm : Lib.index s [32] = -1
      · exact hm
      · have hge := Lib.index_ge s [32]
        obtain ⟨i, hi⟩ := Int.eq_ofNat_of_zero_le (show 0 ≤ Lib.index s [32] by omega)
        have := Lib.count_hit (i := i) (by simp) hi
        omega
    rw [(splitL_index s []).1 hm]
    simp [Lib.splitK]
  | k + 1, s, h => by
    have hge := Lib.index_ge s [32]
    by_cases hm : Lib.index s [32] = -1
    · have := Lib.count_miss hm; omega
    · obtain ⟨i, hi⟩ := Int.eq_ofNat_of_zero_le (show 0 ≤ Lib.index s [32] by omega)
      have hc := Lib.count_hit (i := i) (by simp) hi
      have ih := splitK_splitL k (s.drop (i + 1)) (by have : ([32] : List UInt8).length = 1 := rfl; rw [this] at hc; omega)
      rw [(splitL_index s []).2 i hi, ← ih]
      conv => lhs; unfold Lib.splitK
      rw [if_neg (fun x => hm (beq_iff_eq.1 x)), hi]
      simp

/-- The words of a text. -/
def words (s : ByteArray) : List (List UInt8) := wordsL [] s.data.toList

theorem words_of_split (s : ByteArray) : words s = ((Lib.splitB ⟨#[32]⟩ 0 (Lib.countB s ⟨#[32]⟩) s).map (·.data.toList)).filter (fun x => !x.isEmpty) := by
  unfold words
  rw [words_split, Lib.splitB_data, ← splitK_splitL _ _ rfl]
end Wd
end Go.Proofs.YtdefipahgpljeaaDoor
