/- A row of numbers that came in, as the laws' walks take it. -/
import Derived.Test.YtmmchemgegmhhaaGreatDoorLoseS
import Derived.Lib.SmallJoins
import Derived.OpenShut
namespace Go.Proofs.YtmmchemgegmhhaaGreatDoor
open Go.RowKit Go.ChangeShapes Go.WideShapes Go.Deep

set_option maxRecDepth 100000 in
theorem ints_of {H : Type} {enc : TypeId × Value → H} {w : World} {base : Nat} {v : Value} {d : DataW H} {p : List MemPlace} (hv : Value.okWide Tryz.prog w .any base 58 v)
    (h : DataW.Trod enc Tryz.prog w 0 (fun _ => true) true 58 v d p) :
    ∃ (ao : Option Addr) (ls : List Int) (cap : Nat), v = .slice ao ls.length cap ∧ ls.length ≤ maxLen ∧ IntsAt w ao ls ∧ ∀ x ∈ ls, -9223372036854775808 ≤ x ∧ x ≤ 9223372036854775807 := by
  have hc : Tryz.prog.cellsOf 3 = 1 := by kernel_rfl
  obtain ⟨a0, l0, c0, rfl⟩ := okWide_slice Tryz.underlying58 hv
  obtain ⟨fuel, hf⟩ := h
  have hf' : DataW.trod enc Tryz.prog w 0 (fun _ => true) true fuel 58 [.slice a0 l0 c0] = some (d, p) := by simpa [Value.cells] using hf
  rcases open_slice1 Tryz.underlying58 hc hf' with ⟨e, _⟩ | ⟨a, len, cap, m, n', V, D, Pl, e, _, hle, hmx, hm, _, hel⟩
  · simp at e
    obtain ⟨rfl, rfl, rfl⟩ := e
    exact ⟨none, [], 0, rfl, by unfold maxLen; simp, fun j hj => absurd hj (by simp), fun x hx => absurd hx List.not_mem_nil⟩
  · simp at e
    obtain ⟨rfl, rfl, rfl⟩ := e
    have hm' : l0 ≤ m := by rw [hm]; simpa using hle
    have hch : ∀ i, i < l0 → ∃ x : Int, w.cell? (a.add i) = some (.int .i64 x) ∧ -9223372036854775808 ≤ x ∧ x ≤ 9223372036854775807 := by
      intro i hi
      obtain ⟨g1, g2⟩ := hel i (by omega)
      obtain ⟨x, e1, _, hx⟩ := DataW.trod_int Tryz.underlying3 g2
      simp at e1
      rw [e1] at g1
      exact ⟨x, g1, bounds_i64 hx⟩
    obtain ⟨G, hG⟩ := choose_lt hch
    refine ⟨some a, (List.range l0).map G, c0, by simp, by simp; omega, ?_, ?_⟩
    · intro j hj
      have hj' : j < l0 := by simpa using hj
      obtain ⟨g1, z0, z1⟩ := hG j hj'
      obtain ⟨b, off, spot⟩ := a
      have hspot : spot = none := by
        have q := (hG 0 (by omega)).1
        simpa [Addr.add] using World.cell?_spot q
      subst hspot
      have ha : ((⟨b, off, none⟩ : Addr).add j) = ⟨b, off + j, none⟩ := by cases j <;> simp [Addr.add]
      rw [ha] at g1
      refine ⟨b, off, rfl, ?_, by simpa using g1, by simpa using z0, by simpa using z1⟩
      rcases Nat.lt_or_ge b w.heap.size with h | h
      · exact h
      · unfold World.cell? at g1
        rw [show w.heap[(⟨b, off + j, none⟩ : Addr).block]? = none from Array.getElem?_eq_none h] at g1
        cases g1
    · intro x hx
      obtain ⟨i, hi, rfl⟩ := List.mem_map.1 hx
      exact (hG i (by simpa using hi)).2
end Go.Proofs.YtmmchemgegmhhaaGreatDoor
