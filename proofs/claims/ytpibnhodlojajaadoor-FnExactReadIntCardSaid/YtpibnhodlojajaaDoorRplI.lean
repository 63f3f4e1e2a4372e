/- The program's reader of replies: its place, numbers on lines. -/
import Derived.Test.YtpibnhodlojajaaDoorRplP
import Derived.Test.YtpibnhodlojajaaDoorRepA
import Derived.Test.YtpibnhodlojajaaDoorShelfAtoi
import Derived.Test.YtpibnhodlojajaaDoorShelfCut
import Derived.Test.YtpibnhodlojajaaDoorCutAt
import Derived.BigQuiet
import Derived.Deep.RegionHeld3
namespace Go.Proofs.YtpibnhodlojajaaDoor
open Go.RowKit

/-- Where the library finds CR and LF. -/
theorem cr_index (s : ByteArray) : ∀ n i, s.size - i = n → (crE s i < s.size → Lib.index (s.data.toList.drop i) [13, 10] = ((crE s i - i : Nat) : Int)) ∧ (s.size ≤ crE s i → Lib.index (s.data.toList.drop i) [13, 10] = -1) := by
  have hl : s.data.toList.length = s.size := Array.length_toList
  intro n
  induction n with
  | zero =>
    intro i hi
    have e : s.data.toList.drop i = [] := List.drop_eq_nil_of_le (by omega)
    rw [e]
    refine ⟨fun h => ?_, fun _ => by simp [Lib.index]⟩
    have := crE_facts h
    omega
  | succ n ih =>
    intro i hi
    have hlt : i < s.data.toList.length := by omega
    obtain ⟨ih1, ih2⟩ := ih (i + 1) (by omega)
    have hb : ∀ p (hp : p < s.data.toList.length), (s.data.toList[p]).toNat = Wd.bt s p := fun p hp => by rw [← Wd.bt_eq s p (by omega)]; rfl
    rw [List.drop_eq_getElem_cons hlt]
    by_cases hc : i + 1 < s.size ∧ Wd.bt s i = 13 ∧ Wd.bt s (i + 1) = 10
    · have e1 : s.data.toList[i] = 13 := UInt8.toNat_inj.1 ((hb i hlt).trans hc.2.1)
      have e2 : s.data.toList[i + 1]'(by omega) = 10 := UInt8.toNat_inj.1 ((hb (i + 1) (by omega)).trans hc.2.2)
      rw [crE_here hc.1 hc.2.1 hc.2.2, List.drop_eq_getElem_cons (by omega : i + 1 < s.data.toList.length), e1, e2]
      refine ⟨fun _ => ?_, fun h => by omega⟩
      simp [Lib.index, List.isPrefixOf]
    · rw [crE_next hc]
      have hp : ([13, 10] : List UInt8).isPrefixOf (s.data.toList[i] :: s.data.toList.drop (i + 1)) = false := by
        cases hh : ([13, 10] : List UInt8).isPrefixOf (s.data.toList[i] :: s.data.toList.drop (i + 1)) with
        | false => rfl
        | true =>
          exfalso
          by_cases h1 : i + 1 < s.data.toList.length
          · rw [List.drop_eq_getElem_cons h1] at hh
            simp only [List.isPrefixOf, Bool.and_eq_true, beq_iff_eq, and_true] at hh
            refine hc ⟨by omega, ?_, ?_⟩
            · rw [← hb i hlt, ← hh.1]; rfl
            · rw [← hb (i + 1) h1, ← hh.2]; rfl
          · rw [List.drop_eq_nil_of_le (by omega)] at hh
            simp [List.isPrefixOf] at hh
      have e : Lib.index (s.data.toList[i] :: s.data.toList.drop (i + 1)) [13, 10] = if Lib.index (s.data.toList.drop (i + 1)) [13, 10] == -1 then -1 else Lib.index (s.data.toList.drop (i + 1)) [13, 10] + 1 := by
        conv => lhs; unfold Lib.index
        rw [hp]; simp
      rw [e]
      refine ⟨fun h1 => ?_, fun h1 => ?_⟩
      · have h2 := ih1 h1
        have h3 := (crE_facts h1).1
        rw [if_neg (fun x => by have := beq_iff_eq.1 x; omega), h2]
        omega
      · rw [if_pos (beq_iff_eq.2 (ih2 h1))]
end Go.Proofs.YtpibnhodlojajaaDoor
