/- Acts done one by one, plainly; what is added stands behind, what is dropped is gone. -/
import Derived.Test.YtcpbkllonamleaaFiles
import Derived.Test.YtcpbkllonamleaaLoseS0
namespace Go.Proofs.Ytcpbkllonamleaa
open Go.RowKit

/-- The text that FileAt finds. -/
def textAt (fs : List FileD) (nm : ByteArray) : ByteArray := ((fileD fs nm).map FileD.text).getD ⟨#[]⟩

theorem actD_raws {fs g : List FileD} {A : ActD} (h : actD fs A = some g) : rawD fs A = some g := by
  unfold actD at h
  split at h
  · cases hr : rawD fs A with
    | none => rw [hr] at h; cases h
    | some x =>
      rw [hr] at h
      simp only [Option.bind_some] at h
      split at h
      · exact h
      · cases h
  · cases h
theorem fileD_put (fs : List FileD) (F : FileD) (nm : ByteArray) (hn : F.name.toList = nm.toList) : fileD (putD fs F) nm = some F := by
  unfold fileD putD
  rw [List.append_assoc, List.find?_append]
  have h1 : List.find? (fun G : FileD => G.name.toList == nm.toList) (fs.filter (lessF F.name)) = none := List.find?_eq_none.2 (fun G hG => by
    have h2 := (List.mem_filter.1 hG).2
    unfold lessF at h2
    intro h3
    have h4 : G.name.toList = nm.toList := by simpa using h3
    rw [h4, hn, less_irrefl] at h2
    cases h2)
  rw [h1, List.singleton_append, List.find?_cons]
  have h5 : (F.name.toList == nm.toList) = true := by rw [hn]; exact beq_self_eq_true _
  rw [h5]
  rfl
theorem actF_name (fs : List FileD) (A : ActD) : (actF fs A).name.toList = A.name.toList := by
  unfold actF
  cases h : fileD fs A.name with
  | none => rfl
  | some F => have := List.find?_some h; simpa using this
theorem actF_text (fs : List FileD) (A : ActD) : (actF fs A).text = textAt fs A.name := by
  unfold actF textAt
  cases h : fileD fs A.name <;> rfl
/-- An act that adds. -/
theorem law_add {fs g : List FileD} {A : ActD} (h : actD fs A = some g) (hk : A.kind = 1) : (fileD g A.name).isSome = true ∧ textAt g A.name = textAt fs A.name ++ A.text := by
  have hr := actD_raws h
  unfold rawD at hr
  rw [if_pos hk] at hr
  cases hr
  have e := fileD_put fs ⟨(actF fs A).name, (actF fs A).text ++ A.text, (actF fs A).kept⟩ A.name (actF_name fs A)
  rw [e]
  refine ⟨rfl, ?_⟩
  rw [textAt, e, ← actF_text]
  rfl
/-- An act that drops. -/
theorem law_drop {fs g : List FileD} {A : ActD} (h : actD fs A = some g) (hk : A.kind = 4) : (fileD g A.name).isSome = false := by
  have hr := actD_raws h
  unfold rawD at hr
  rw [if_neg (by omega)] at hr
  split at hr
  · cases hr
  rw [if_neg (by omega), if_neg (by omega)] at hr
  try rw [if_pos hk] at hr
  cases hr
  unfold fileD withoutD
  rw [List.find?_eq_none.2]
  · rfl
  · intro G hG h3
    have h2 := (List.mem_filter.1 hG).2
    unfold otherF at h2
    rw [h3] at h2
    cases h2
/-- So many acts of a row are done, one by one. -/
theorem actsF_step {G : List FileD} {qs : List ActD} {k n : Nat} {R : List FileD} (hR : R = (actsF G (qs.drop k)).1) (hn : n = k + (actsF G (qs.drop k)).2) (h : k < n) :
    ∃ (hk : k < qs.length) (g : List FileD), actD G qs[k] = some g ∧ R = (actsF g (qs.drop (k + 1))).1 ∧ n = k + 1 + (actsF g (qs.drop (k + 1))).2 := by
  by_cases hk : k < qs.length
  · refine ⟨hk, ?_⟩
    cases ha : actD G qs[k] with
    | none => rw [actsF_no hk ha] at hn; simp at hn; omega
    | some g =>
      rw [actsF_yes hk ha] at hn hR
      exact ⟨g, rfl, hR, by simp at hn; omega⟩
  · rw [actsF_end (by omega)] at hn; simp at hn; omega
theorem actsF_last {G : List FileD} {qs : List ActD} {k n : Nat} {R : List FileD} (hR : R = (actsF G (qs.drop k)).1) (hn : n = k + (actsF G (qs.drop k)).2) (h : ¬ k < n) : R = G := by
  by_cases hk : k < qs.length
  · cases ha : actD G qs[k] with
    | none => rw [actsF_no hk ha] at hR; exact hR
    | some g => rw [actsF_yes hk ha] at hn; simp at hn; omega
  · rw [actsF_end (by omega)] at hR; exact hR

theorem intsAt_row {w : World} {B : Nat} {a : Option Addr} {c : Nat} {zs : List Int} (h : w.ownsRow B 3 1 (.slice a zs.length c) zs.length (zs.map (Value.int .i64))) (hb : ∀ z ∈ zs, -9223372036854775808 ≤ z ∧ z ≤ 9223372036854775807) : IntsAt w a zs := by
  intro j hj
  have h0 := h
  obtain ⟨_, h0⟩ := h0
  rcases h0 with h1 | ⟨b, cp, C, e, _, hC, _⟩
  · exfalso
    have := h1.2
    simp at this
    omega
  · cases e
    have hm := hb _ (List.getElem_mem hj)
    refine ⟨b, 0, rfl, (Array.getElem?_eq_some_iff.1 hC).1, ?_, hm.1, hm.2⟩
    rw [Nat.zero_add]
    exact (h.cellAt j (by omega)).trans (by rw [List.getElem?_map, List.getElem?_eq_getElem hj]; rfl)
end Go.Proofs.Ytcpbkllonamleaa
