/- A spot that comes in as an argument. -/
import Derived.Test.YtmmchemgegmhhaaGreatDoorSpotL
namespace Go.Proofs.YtmmchemgegmhhaaGreatDoor
open Go.RowKit

open Go.ChangeShapes Go.WideShapes Go.Joins in
set_option maxRecDepth 100000 in
theorem spot_of {H : Type} {enc : TypeId × Value → H} {w : World} {base : Nat} {v : Value} {d : DataW H} {p : List MemPlace} (hv : Value.okWide Tryz.prog w .any base 150 v)
    (h : DataW.Trod enc Tryz.prog w 0 (fun _ => true) true 150 v d p) :
    ∃ A : SpotD, v = .agg #[.string A.key, .int .i64 A.seg, .int .i64 A.pos, .int .i64 A.seq] ∧ A.key.size ≤ maxLen := by
  obtain ⟨v0, v1, v2, v3, y0, y1, y2, y3, n, rfl, _, _, t0, t1, t2, t3⟩ := open_agg4 Tryz.underlying150 (by kernel_rfl) (by kernel_rfl) hv h
  obtain ⟨s0, e0, _, z0⟩ := DataW.trod_string Tryz.underlying9 t0
  obtain ⟨x1, e1, _, _⟩ := DataW.trod_int Tryz.underlying3 t1
  obtain ⟨x2, e2, _, _⟩ := DataW.trod_int Tryz.underlying3 t2
  obtain ⟨x3, e3, _, _⟩ := DataW.trod_int Tryz.underlying3 t3
  simp at e0 e1 e2 e3
  subst e0 e1 e2 e3
  exact ⟨⟨s0, x1, x2, x3⟩, rfl, z0⟩
end Go.Proofs.YtmmchemgegmhhaaGreatDoor
