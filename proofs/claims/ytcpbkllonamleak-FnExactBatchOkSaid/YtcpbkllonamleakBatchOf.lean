/- A batch that came in, as the laws' walks take it. -/
import Derived.Test.YtcpbkllonamleakChangeL
import Derived.Lib.SmallJoins
import Derived.OpenShut
namespace Go.Proofs.Ytcpbkllonamleak
open Go.RowKit Go.ChangeShapes Go.WideShapes Go.Deep Go.Joins

set_option maxRecDepth 100000 in
theorem batch_of {H : Type} {enc : TypeId × Value → H} {w : World} {base : Nat} {v : Value} {d : DataW H} {p : List MemPlace} (hv : Value.okWide Try.prog w .any base 24 v)
    (h : DataW.Trod enc Try.prog w 0 (fun _ => true) true 24 v d p) :
    ∃ (q : Int) (ao : Option Addr) (fs : List ChangeD) (cap : Nat), v = .agg #[.int .i64 q, .slice ao fs.length cap] ∧ fs.length ≤ maxLen ∧ ChangesAt w ao fs ∧ ∀ A ∈ fs, A.key.size ≤ maxLen ∧ A.value.size ≤ maxLen := by
  have hc : Try.prog.cellsOf 76 = 3 := by kernel_rfl
  have hd : Try.prog.cellsOf 24 = 2 := by kernel_rfl
  have hs : Try.prog.cellsOf 22 = 1 := by kernel_rfl
  have hn : Try.prog.cellsOf 3 = 1 := by kernel_rfl
  obtain ⟨cs, rfl, hsz⟩ := okWide_struct Try.underlying24 hv
  rw [hd] at hsz
  obtain ⟨l⟩ := cs
  match l, hsz with
  | [c0, c1], _ =>
    obtain ⟨fuel, hf⟩ := h
    obtain ⟨y0, y1, n, _, _, g0, g1⟩ := trod_struct2 Try.underlying24 hf
    simp only [hs, hn] at g0 g1
    obtain ⟨q, e0, _, _⟩ := DataW.trod_int Try.underlying3 g0
    have e0' : [c0] = [.int .i64 q] := e0
    obtain rfl : c0 = .int .i64 q := by simpa using e0'
    have h0' : DataW.trod enc Try.prog w 0 (fun _ => true) true n 22 [c1] = some y1 := g1
    rcases open_slice Try.underlying22 h0' with ⟨e, _⟩ | ⟨a, l0, c0, m, n', D, Pl, e, _, hle, hmx, hm, _, hel⟩
    · simp at e
      subst e
      exact ⟨q, none, [], 0, rfl, by unfold maxLen; simp, fun j hj => absurd hj (by simp), fun F hF => absurd hF List.not_mem_nil⟩
    · simp at e
      subst e
      refine ⟨q, ?_⟩
      rw [hc] at hel
      have hm' : l0 ≤ m := by rw [hm]; simpa using hle
      have hch : ∀ i, i < l0 → ∃ A : ChangeD, w.cells? 0 (a.add (i * 3)) 3 = some [.string A.key, .string A.value, .bool A.gone] ∧ A.key.size ≤ maxLen ∧ A.value.size ≤ maxLen := by
        intro i hi
        obtain ⟨cs', g1, g2⟩ := hel i (by omega)
        obtain ⟨A, rfl, z0, z1⟩ := change_in g2
        exact ⟨A, g1, z0, z1⟩
      haveI : Inhabited ChangeD := ⟨⟨⟨#[]⟩, ⟨#[]⟩, false⟩⟩
      obtain ⟨G, hG⟩ := choose_lt hch
      refine ⟨some a, (List.range l0).map G, c0, by simp, by simp; omega, ?_, ?_⟩
      · intro j hj
        have hj' : j < l0 := by simpa using hj
        have g1 := (hG j hj').1
        obtain ⟨_, _, hcell⟩ := World.cells?_some g1
        have q0 := hcell 0 (by omega)
        have q1 := hcell 1 (by omega)
        have q2 := hcell 2 (by omega)
        obtain ⟨b, off, spot⟩ := a
        have hspot : spot = none := by
          obtain ⟨_, _, hcell0⟩ := World.cells?_some (hG 0 (by omega)).1
          have q := hcell0 0 (by omega)
          simpa [Addr.add] using World.cell?_spot q
        subst hspot
        have ha : ∀ o i, ((⟨b, o, none⟩ : Addr).add i) = ⟨b, o + i, none⟩ := by intro o i; cases i <;> simp [Addr.add]
        simp only [ha] at q0 q1 q2
        refine ⟨b, off, rfl, ?_, ?_, ?_, ?_⟩
        · rcases Nat.lt_or_ge b w.heap.size with h | h
          · exact h
          · unfold World.cell? at q0
            rw [show w.heap[(⟨b, off + j * 3 + 0, none⟩ : Addr).block]? = none from Array.getElem?_eq_none h] at q0
            cases q0
        · simpa using q0
        · simpa using q1
        · simpa using q2
      · intro A hA
        obtain ⟨i, hi, rfl⟩ := List.mem_map.1 hA
        exact (hG i (by simpa using hi)).2
end Go.Proofs.Ytcpbkllonamleak
