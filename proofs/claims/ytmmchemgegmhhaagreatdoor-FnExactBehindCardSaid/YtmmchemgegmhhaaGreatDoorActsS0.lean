/- The specification's DoActs. -/
import Derived.Test.YtmmchemgegmhhaaGreatDoorActS
import Derived.Test.YtmmchemgegmhhaaGreatDoorActQ
namespace Go.Proofs.YtmmchemgegmhhaaGreatDoor
open Go.RowKit

theorem files_cells {w : World} {b off : Nat} {fs : List FileD} (h : FilesAt w (some ⟨b, off, none⟩) fs) : ∀ j u, (cellsF fs)[j]? = some u → w.cell? ((⟨b, off, none⟩ : Addr).add j) = some u := by
  intro j u hu
  have hjl : j < fs.length * 3 := by
    have := (List.getElem?_eq_some_iff.1 hu).1
    rw [cellsF_length] at this
    exact this
  have ha : ((⟨b, off, none⟩ : Addr).add j) = ⟨b, off + j, none⟩ := by cases j <;> simp [Addr.add]
  rw [ha]
  have hq : j / 3 < fs.length := by omega
  obtain ⟨b', off', e, _, h0, h1, h2⟩ := h (j / 3) hq
  obtain ⟨g0, g1, g2⟩ := cellsF_get fs (j / 3) hq
  cases e
  rcases (by omega : j = j / 3 * 3 ∨ j = j / 3 * 3 + 1 ∨ j = j / 3 * 3 + 2) with e | e | e
  · rw [← e] at h0 g0
    rw [h0, ← hu, g0]
  · rw [Nat.add_assoc, ← e] at h1
    rw [← e] at g1
    rw [h1, ← hu, g1]
  · rw [Nat.add_assoc, ← e] at h2
    rw [← e] at g2
    rw [h2, ← hu, g2]

/-- Some files are put behind a row of the call's own. -/
theorem app_files {ops : Array Oper} {rest : List Oper} {o : Oper} {a : Act} {Q : Exit → Act → World → Prop} (W : World) (B : Nat) (hgd : o.guard = none) (s x : Operand)
    (ho : o.op = .call { callee := .builtin .append, args := #[s, x], argTypes := #[25, 25] }) (v : Value) (fs : List FileD) (hs : a.eval s = v)
    (hown : W.ownsRow B 74 3 v 0 []) (b off cap : Nat) (hx : a.eval x = .slice (some ⟨b, off, none⟩) fs.length cap) (hfs : FilesAt W (some ⟨b, off, none⟩) fs)
    (hlen : fs.length ≤ 1048576) (hbase : B ≤ W.heap.size)
    (h : ∀ v' w', w'.ownsRow B 74 3 v' fs.length (cellsF fs) → Below B W w' → wpList Tryz.prog ops Q rest (a.put o.dst v') w') :
    wpList Tryz.prog ops Q (o :: rest) a W := by
  obtain ⟨i0, hi, hz0, hz1, hz2⟩ := info_parts Tryz.infoFile
  refine wpList_append_own W hgd s x 25 ho B 74 i0 (.agg #[.string ⟨#[]⟩, .string ⟨#[]⟩, .int .i64 0]) 3 40 Tryz.underlying25 hi hz0 hz1 hz2 rfl (by decide) v 0 [] hs hown ⟨b, off, none⟩ fs.length cap (cellsF fs) hx (cellsF_length fs)
    (files_cells hfs) (cellsF_one fs) (by unfold maxLen; omega) (by omega) hbase ?_
  intro v' w' hown' hgrow _
  have hlt := hown.lt
  rw [Nat.zero_add, List.nil_append] at hown'
  exact h v' w' hown' ((Below.refl B W).grown hgrow hbase (fun k hk => (hlt k hk).1))
end Go.Proofs.YtmmchemgegmhhaaGreatDoor
