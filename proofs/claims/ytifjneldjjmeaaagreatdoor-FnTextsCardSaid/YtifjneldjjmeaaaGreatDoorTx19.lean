import Derived.OpenShut
import Derived.Test.YtifjneldjjmeaaaGreatDoorTx1
namespace Go.Proofs.YtifjneldjjmeaaaGreatDoor
open Go.RowKit Go.ChangeShapes
theorem code_of {w : World} {x : Addr} {len : Nat} {zs : List Int} (hl : len ≤ zs.length) (hcell : ∀ i, i < zs.length → w.cell? (x.add i) = some (.int .u8 (zs.getD i 0))) (hwz : ∀ n ∈ zs, (Lit.int .u8 n).wf = true) : Code w (some x) len := by
  intro j hj
  have hjl : j < zs.length := by omega
  have hc := hcell j hjl
  obtain ⟨b, off, spot⟩ := x
  have hspot : spot = none := by
    have h0 := hcell 0 (by omega)
    simpa [Addr.add] using World.cell?_spot h0
  subst hspot
  have hz : zs.getD j 0 = zs[j] := by simp [List.getD, hjl]
  have hb := bounds_u8 (hwz zs[j] (List.getElem_mem hjl))
  have ha : ((⟨b, off, none⟩ : Addr).add j) = ⟨b, off + j, none⟩ := by cases j <;> simp [Addr.add]
  rw [ha, hz] at hc
  obtain ⟨z, hzz⟩ := Int.eq_ofNat_of_zero_le hb.1
  rw [hzz] at hc
  refine ⟨b, off, z, rfl, ?_, hc, by omega⟩
  rcases Nat.lt_or_ge b w.heap.size with h | h
  · exact h
  · unfold World.cell? at hc
    rw [show w.heap[(⟨b, off + j, none⟩ : Addr).block]? = none from Array.getElem?_eq_none h] at hc
    cases hc
end Go.Proofs.YtifjneldjjmeaaaGreatDoor
