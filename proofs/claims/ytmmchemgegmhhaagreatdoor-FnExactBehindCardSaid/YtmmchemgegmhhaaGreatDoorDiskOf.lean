/- A disk that came in, as the laws' walks take it. -/
import Derived.Test.YtmmchemgegmhhaaGreatDoorFileL4
import Derived.Lib.SmallJoins
import Derived.OpenShut
namespace Go.Proofs.YtmmchemgegmhhaaGreatDoor
open Go.RowKit Go.ChangeShapes Go.WideShapes Go.Deep

theorem spot_none {w : World} {a : Addr} {v : Value} (h : w.cell? a = some v) : a.spot = none := World.cell?_spot h

set_option maxRecDepth 100000 in
/-- One file of a row that came in. -/
theorem file_of {H : Type} {enc : TypeId × Value → H} {w : World} {fuel : Nat} {cs : List Value} {x : DataW H × List MemPlace} (h : DataW.trod enc Tryz.prog w 0 (fun _ => true) true fuel 197 cs = some x) :
    ∃ F : FileD, cs = [.string F.name, .string F.text, .int .i64 F.kept] ∧ F.name.size ≤ maxLen ∧ F.text.size ≤ maxLen := by
  obtain ⟨y0, y1, y2, n, hx, hl, h0, h1, h2⟩ := trod_struct3 Tryz.underlying197 h
  have hc : Tryz.prog.cellsOf 197 = 3 := by kernel_rfl
  have k0 : Tryz.prog.cellsOf 9 = 1 := by kernel_rfl
  have k1 : Tryz.prog.cellsOf 3 = 1 := by kernel_rfl
  rw [hc] at hl
  match cs, hl with
  | [v0, v1, v2], _ =>
    simp only [k0, k1] at h0 h1 h2
    obtain ⟨s0, e0, _, z0⟩ := DataW.trod_string Tryz.underlying9 h0
    obtain ⟨s1, e1, _, z1⟩ := DataW.trod_string Tryz.underlying9 h1
    obtain ⟨x2, e2, _, _⟩ := DataW.trod_int Tryz.underlying3 h2
    simp at e0 e1 e2
    subst e0 e1 e2
    exact ⟨⟨s0, s1, x2⟩, rfl, z0, z1⟩

set_option maxRecDepth 100000 in
theorem disk_of {H : Type} {enc : TypeId × Value → H} {w : World} {base : Nat} {v : Value} {d : DataW H} {p : List MemPlace} (hv : Value.okWide Tryz.prog w .any base 42 v)
    (h : DataW.Trod enc Tryz.prog w 0 (fun _ => true) true 42 v d p) :
    ∃ (ao : Option Addr) (fs : List FileD) (cap : Nat), v = .agg #[.slice ao fs.length cap] ∧ fs.length ≤ maxLen ∧ FilesAt w ao fs ∧ ∀ F ∈ fs, F.name.size ≤ maxLen ∧ F.text.size ≤ maxLen := by
  have hc : Tryz.prog.cellsOf 197 = 3 := by kernel_rfl
  have hd : Tryz.prog.cellsOf 42 = 1 := by kernel_rfl
  have hs : Tryz.prog.cellsOf 40 = 1 := by kernel_rfl
  obtain ⟨cs, rfl, hsz⟩ := okWide_struct Tryz.underlying42 hv
  rw [hd] at hsz
  obtain ⟨l⟩ := cs
  match l, hsz with
  | [c0], _ =>
    obtain ⟨fuel, hf⟩ := h
    obtain ⟨y0, n, _, _, h0⟩ := trod_struct1 Tryz.underlying42 hf
    simp only [hs] at h0
    have h0' : DataW.trod enc Tryz.prog w 0 (fun _ => true) true n 40 [c0] = some y0 := h0
    rcases open_slice Tryz.underlying40 h0' with ⟨e, _⟩ | ⟨a, len, cap, m, n', D, Pl, e, _, hle, hmx, hm, _, hel⟩
    · simp at e
      subst e
      exact ⟨none, [], 0, rfl, by unfold maxLen; simp, fun j hj => absurd hj (by simp), fun F hF => absurd hF List.not_mem_nil⟩
    · simp at e
      subst e
      rw [hc] at hel
      have hm' : len ≤ m := by rw [hm]; simpa using hle
      have hch : ∀ i, i < len → ∃ F : FileD, w.cells? 0 (a.add (i * 3)) 3 = some [.string F.name, .string F.text, .int .i64 F.kept] ∧ F.name.size ≤ maxLen ∧ F.text.size ≤ maxLen := by
        intro i hi
        obtain ⟨cs', g1, g2⟩ := hel i (by omega)
        obtain ⟨F, rfl, z0, z1⟩ := file_of g2
        exact ⟨F, g1, z0, z1⟩
      haveI : Inhabited FileD := ⟨⟨⟨#[]⟩, ⟨#[]⟩, 0⟩⟩
      obtain ⟨G, hG⟩ := choose_lt hch
      refine ⟨some a, (List.range len).map G, cap, by simp, by simp; omega, ?_, ?_⟩
      · intro j hj
        have hj' : j < len := by simpa using hj
        obtain ⟨g1, _, _⟩ := hG j hj'
        obtain ⟨_, _, hcell⟩ := World.cells?_some g1
        have q0 := hcell 0 (by omega)
        have q1 := hcell 1 (by omega)
        have q2 := hcell 2 (by omega)
        obtain ⟨b, off, spot⟩ := a
        have hspot : spot = none := by
          obtain ⟨_, _, hcell0⟩ := World.cells?_some (hG 0 (by omega)).1
          have q := hcell0 0 (by omega)
          simpa [Addr.add] using World.cell?_spot q
        subst hspot
        have ha : ∀ o i, ((⟨b, o, none⟩ : Addr).add i) = ⟨b, o + i, none⟩ := by intro o i; cases i <;> simp [Addr.add]
        simp only [ha] at q0 q1 q2
        refine ⟨b, off, rfl, ?_, ?_, ?_, ?_⟩
        · rcases Nat.lt_or_ge b w.heap.size with h | h
          · exact h
          · unfold World.cell? at q0
            rw [show w.heap[(⟨b, off + j * 3 + 0, none⟩ : Addr).block]? = none from Array.getElem?_eq_none h] at q0
            cases q0
        · simpa using q0
        · simpa using q1
        · simpa using q2
      · intro F hF
        obtain ⟨i, hi, rfl⟩ := List.mem_map.1 hF
        exact (hG i (by simpa using hi)).2
end Go.Proofs.YtmmchemgegmhhaaGreatDoor
