/- Right tables, plainly. -/
import Derived.Test.YtiokajdkgkpeiaaEntL
namespace Go.Proofs.Ytiokajdkgkpeiaa
open Go.RowKit

/-- The first k entries are right, each behind the one ahead of it. -/
def EntsR (es : List EntD) (k : Nat) : Prop := ∀ j (h : j < es.length), j < k → (1 ≤ es[j].key.size ∧ es[j].key.size ≤ 20) ∧ ValR es[j].val ∧ (0 < j → Op.bytesLess (es[j - 1]'(by omega)).key.toList es[j].key.toList = true)
/-- A right table. -/
def TabR (es : List EntD) : Prop := es.length ≤ 20 ∧ EntsR es es.length
theorem entsR_zero (es : List EntD) : EntsR es 0 := fun j _ hj => absurd hj (by omega)
theorem entsR_next {es : List EntD} {k : Nat} (h : EntsR es k) (hk : k < es.length) (h1 : 1 ≤ es[k].key.size ∧ es[k].key.size ≤ 20) (h2 : ValR es[k].val) (h3 : 0 < k → Op.bytesLess (es[k - 1]'(by omega)).key.toList es[k].key.toList = true) : EntsR es (k + 1) := by
  intro j hj hjk
  by_cases e : j = k
  · subst e; exact ⟨h1, h2, h3⟩
  · exact h j hj (by omega)
theorem entsR_of {es : List EntD} (h : TabR es) (k : Nat) (hk : k < es.length) : (1 ≤ es[k].key.size ∧ es[k].key.size ≤ 20) ∧ ValR es[k].val ∧ (0 < k → Op.bytesLess (es[k - 1]'(by omega)).key.toList es[k].key.toList = true) := h.2 k hk hk
theorem tabR_of {es : List EntD} (h : es.length ≤ 20) (h2 : EntsR es es.length) : TabR es := ⟨h, h2⟩
/-- The keys ascend. -/
theorem tabR_iff (es : List EntD) : TabR es ↔ es.length ≤ 20 ∧ (∀ e ∈ es, (1 ≤ e.key.size ∧ e.key.size ≤ 20) ∧ ValR e.val) ∧ Asc (es.map EntD.key) := by
  constructor
  · intro h
    refine ⟨h.1, fun e he => ?_, fun j hj => ?_⟩
    · obtain ⟨j, hj, rfl⟩ := List.getElem_of_mem he
      exact ⟨(h.2 j hj hj).1, (h.2 j hj hj).2.1⟩
    · have hj' : j + 1 < es.length := by simpa using hj
      have := (h.2 (j + 1) hj' hj').2.2 (by omega)
      simpa using this
  · rintro ⟨h1, h2, h3⟩
    refine ⟨h1, fun j hj _ => ⟨(h2 _ (List.getElem_mem hj)).1, (h2 _ (List.getElem_mem hj)).2, fun h0 => ?_⟩⟩
    have := h3 (j - 1) (by simp; omega)
    simp only [List.getElem_map, show j - 1 + 1 = j from by omega] at this
    exact this
end Go.Proofs.Ytiokajdkgkpeiaa
