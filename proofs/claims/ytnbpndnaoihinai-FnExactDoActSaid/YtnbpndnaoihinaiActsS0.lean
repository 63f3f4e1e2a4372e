/- The specification's DoActs. -/
import Derived.Test.YtnbpndnaoihinaiActS
namespace Go.Proofs.Ytnbpndnaoihinai
open Go.RowKit

/-- DoActs: the files behind the acts that are true, and how many these are. -/
def actsF : List FileD → List ActD → List FileD × Nat
  | fs, [] => (fs, 0)
  | fs, A :: r => match actD fs A with
    | none => (fs, 0)
    | some g => ((actsF g r).1, (actsF g r).2 + 1)
theorem actsF_no {fs : List FileD} {qs : List ActD} {k : Nat} (h : k < qs.length) (hA : actD fs qs[k] = none) : actsF fs (qs.drop k) = (fs, 0) := by
  rw [List.drop_eq_getElem_cons h, actsF, hA]
theorem actsF_yes {fs g : List FileD} {qs : List ActD} {k : Nat} (h : k < qs.length) (hA : actD fs qs[k] = some g) : actsF fs (qs.drop k) = ((actsF g (qs.drop (k + 1))).1, (actsF g (qs.drop (k + 1))).2 + 1) := by
  rw [List.drop_eq_getElem_cons h, actsF, hA]
theorem actsF_end {fs : List FileD} {qs : List ActD} {k : Nat} (h : qs.length ≤ k) : actsF fs (qs.drop k) = (fs, 0) := by
  rw [List.drop_eq_nil_of_le h, actsF]
theorem actD_ok {fs g : List FileD} {A : ActD} (h : actD fs A = some g) : diskOkD g = true := by
  unfold actD at h
  split at h
  · cases hr : rawD fs A with
    | none => rw [hr] at h; cases h
    | some x =>
      rw [hr] at h
      have h2 : (if diskOkD x = true then some x else none) = some g := h
      split at h2
      · cases h2; assumption
      · cases h2
  · cases h

/-- Acts in memory. -/
def ActsAt (w : World) (ao : Option Addr) (qs : List ActD) : Prop := ∀ j (h : j < qs.length), ∃ b off : Nat, ao = some ⟨b, off, none⟩ ∧ b < w.heap.size ∧
  w.cell? ⟨b, off + j * 4, none⟩ = some (.int .i64 qs[j].kind) ∧ w.cell? ⟨b, off + j * 4 + 1, none⟩ = some (.string qs[j].name) ∧ w.cell? ⟨b, off + j * 4 + 2, none⟩ = some (.string qs[j].text) ∧ w.cell? ⟨b, off + j * 4 + 3, none⟩ = some (.string qs[j].to)
theorem actsAt_keep {w w' : World} {ao : Option Addr} {qs : List ActD} (h : ActsAt w ao qs) (hb : Below w.heap.size w w') : ActsAt w' ao qs := by
  intro j hj
  obtain ⟨b, off, h1, h2, h3, h4, h5, h6⟩ := h j hj
  exact ⟨b, off, h1, Nat.lt_of_lt_of_le h2 hb.size, (hb.cell (p := ⟨b, off + j * 4, none⟩) h2).trans h3, (hb.cell (p := ⟨b, off + j * 4 + 1, none⟩) h2).trans h4, (hb.cell (p := ⟨b, off + j * 4 + 2, none⟩) h2).trans h5, (hb.cell (p := ⟨b, off + j * 4 + 3, none⟩) h2).trans h6⟩

theorem files_cells {w : World} {b off : Nat} {fs : List FileD} (h : FilesAt w (some ⟨b, off, none⟩) fs) : ∀ j u, (cellsF fs)[j]? = some u → w.cell? ((⟨b, off, none⟩ : Addr).add j) = some u := by
  intro j u hu
  have hjl : j < fs.length * 3 := by
    have := (List.getElem?_eq_some_iff.1 hu).1
    rw [cellsF_length] at this
    exact this
  have ha : ((⟨b, off, none⟩ : Addr).add j) = ⟨b, off + j, none⟩ := by cases j <;> simp [Addr.add]
  rw [ha]
  have hq : j / 3 < fs.length := by omega
  obtain ⟨b', off', e, _, h0, h1, h2⟩ := h (j / 3) hq
  obtain ⟨g0, g1, g2⟩ := cellsF_get fs (j / 3) hq
  cases e
  rcases (by omega : j = j / 3 * 3 ∨ j = j / 3 * 3 + 1 ∨ j = j / 3 * 3 + 2) with e | e | e
  · rw [← e] at h0 g0
    rw [h0, ← hu, g0]
  · rw [Nat.add_assoc, ← e] at h1
    rw [← e] at g1
    rw [h1, ← hu, g1]
  · rw [Nat.add_assoc, ← e] at h2
    rw [← e] at g2
    rw [h2, ← hu, g2]

/-- Some files are put behind a row of the call's own. -/
theorem app_files {ops : Array Oper} {rest : List Oper} {o : Oper} {a : Act} {Q : Exit → Act → World → Prop} (W : World) (B : Nat) (hgd : o.guard = none) (s x : Operand)
    (ho : o.op = .call { callee := .builtin .append, args := #[s, x], argTypes := #[27, 27] }) (v : Value) (fs : List FileD) (hs : a.eval s = v)
    (hown : W.ownsRow B 47 3 v 0 []) (b off cap : Nat) (hx : a.eval x = .slice (some ⟨b, off, none⟩) fs.length cap) (hfs : FilesAt W (some ⟨b, off, none⟩) fs)
    (hlen : fs.length ≤ 1048576) (hbase : B ≤ W.heap.size)
    (h : ∀ v' w', w'.ownsRow B 47 3 v' fs.length (cellsF fs) → Below B W w' → wpList Try.prog ops Q rest (a.put o.dst v') w') :
    wpList Try.prog ops Q (o :: rest) a W := by
  obtain ⟨i0, hi, hz0, hz1, hz2⟩ := info_parts Try.infoFile
  refine wpList_append_own W hgd s x 27 ho B 47 i0 (.agg #[.string ⟨#[]⟩, .string ⟨#[]⟩, .int .i64 0]) 3 40 Try.underlying27 hi hz0 hz1 hz2 rfl (by decide) v 0 [] hs hown ⟨b, off, none⟩ fs.length cap (cellsF fs) hx (cellsF_length fs)
    (files_cells hfs) (cellsF_one fs) (by unfold maxLen; omega) (by omega) hbase ?_
  intro v' w' hown' hgrow _
  have hlt := hown.lt
  rw [Nat.zero_add, List.nil_append] at hown'
  exact h v' w' hown' ((Below.refl B W).grown hgrow hbase (fun k hk => (hlt k hk).1))
end Go.Proofs.Ytnbpndnaoihinai
