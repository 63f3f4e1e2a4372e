/- A file is put into its place among files; files without that of a name: plainly. -/
import Derived.Test.YtmmchemgegmhhaaGreatDoorLoseP
import Derived.Test.YtmmchemgegmhhaaGreatDoorKeyL
import Derived.Sort.Walk0
namespace Go.Proofs.YtmmchemgegmhhaaGreatDoor
open Go.RowKit

def lessF (nm : ByteArray) (F : FileD) : Bool := Op.bytesLess F.name.toList nm.toList
def moreF (nm : ByteArray) (F : FileD) : Bool := !(Op.bytesLess F.name.toList nm.toList || F.name.toList == nm.toList)
def otherF (nm : ByteArray) (F : FileD) : Bool := !(F.name.toList == nm.toList)
/-- A file in its place. -/
def putD (fs : List FileD) (F : FileD) : List FileD := fs.filter (lessF F.name) ++ [F] ++ fs.filter (moreF F.name)
/-- Files without that of a name. -/
def withoutD (fs : List FileD) (nm : ByteArray) : List FileD := fs.filter (otherF nm)

theorem filter_next {fs : List FileD} {k : Nat} (p : FileD → Bool) (h : k < fs.length) : (fs.take (k + 1)).filter p = (fs.take k).filter p ++ (if p fs[k] = true then [fs[k]] else []) := by
  rw [List.take_add_one, List.getElem?_eq_getElem h, List.filter_append]
  congr 1
  simp only [Option.toList, List.filter_cons, List.filter_nil]
theorem filter_le {fs : List FileD} (p : FileD → Bool) (k : Nat) : ((fs.take k).filter p).length ≤ fs.length :=
  Nat.le_trans (List.length_filter_le _ _) (by rw [List.length_take]; omega)

/-! ### Right disks are in order -/
def srt (fs : List FileD) : Prop := fs.Pairwise (fun a b => Op.bytesLess a.name.toList b.name.toList = true)


theorem okFrom_some : ∀ (fs : List FileD) (p : ByteArray), okFrom (some p) fs = true ↔ ((∀ F ∈ fs, fileOkD F = true) ∧ (∀ F ∈ fs, Op.bytesLess p.toList F.name.toList = true) ∧ srt fs)
  | [], p => by simp [okFrom, srt]
  | F :: r, p => by
    simp only [okFrom, Bool.and_eq_true, okFrom_some r F.name, srt, List.pairwise_cons, List.mem_cons, forall_eq_or_imp]
    constructor
    · rintro ⟨h1, h2, h3, h4, h5⟩
      exact ⟨⟨h1, h3⟩, ⟨h2, fun G hG => less_trans h2 (h4 G hG)⟩, h4, h5⟩
    · rintro ⟨⟨h1, h3⟩, ⟨h2, _⟩, h4, h5⟩
      exact ⟨h1, h2, h3, h4, h5⟩
theorem okFrom_none (fs : List FileD) : okFrom none fs = true ↔ ((∀ F ∈ fs, fileOkD F = true) ∧ srt fs) := by
  cases fs with
  | nil => simp [okFrom, srt]
  | cons F r =>
    simp only [okFrom, Bool.and_eq_true, okFrom_some r F.name, srt, List.pairwise_cons, List.mem_cons, forall_eq_or_imp]
    constructor
    · rintro ⟨h1, h3, h4, h5⟩
      exact ⟨⟨h1, h3⟩, h4, h5⟩
    · rintro ⟨⟨h1, h3⟩, h4, h5⟩
      exact ⟨h1, h3, h4, h5⟩
theorem disk_iff (fs : List FileD) : diskOkD fs = true ↔ (fs.length ≤ 30 ∧ (∀ F ∈ fs, fileOkD F = true) ∧ srt fs) := by
  rw [diskOkD, Bool.and_eq_true, decide_eq_true_eq, okFrom_none]

theorem mem_putD {fs : List FileD} {F G : FileD} : G ∈ putD fs F ↔ (G ∈ fs ∧ lessF F.name G = true) ∨ G = F ∨ (G ∈ fs ∧ moreF F.name G = true) := by
  simp [putD]

theorem srt_putD {fs : List FileD} (F : FileD) (h : srt fs) : srt (putD fs F) := by
  unfold putD srt
  rw [List.pairwise_append, List.pairwise_append]
  refine ⟨⟨List.Pairwise.filter _ h, by simp, ?_⟩, List.Pairwise.filter _ h, ?_⟩
  · intro a ha b hb
    rw [List.mem_singleton] at hb
    subst hb
    exact (List.mem_filter.1 ha).2
  · intro a ha b hb
    have hb2 := (List.mem_filter.1 hb).2
    simp only [moreF, Bool.not_eq_true', Bool.or_eq_false_iff, beq_eq_false_iff_ne] at hb2
    have hFb : Op.bytesLess F.name.toList b.name.toList = true := less_total hb2.1 hb2.2
    rcases List.mem_append.1 ha with ha | ha
    · exact less_trans (List.mem_filter.1 ha).2 hFb
    · rw [List.mem_singleton] at ha
      subst ha
      exact hFb
theorem srt_without {fs : List FileD} (nm : ByteArray) (h : srt fs) : srt (withoutD fs nm) := List.Pairwise.filter _ h

theorem len_putD_le (fs : List FileD) (F : FileD) : (putD fs F).length ≤ fs.length + 1 := by
  have key : ∀ l : List FileD, (l.filter (lessF F.name)).length + (l.filter (moreF F.name)).length ≤ l.length := by
    intro l
    induction l with
    | nil => simp
    | cons G r ih =>
      simp only [List.filter_cons]
      by_cases h1 : lessF F.name G = true
      · have h2 : moreF F.name G = false := by simp only [lessF] at h1; simp [moreF, h1]
        simp [h1, h2]; omega
      · by_cases h2 : moreF F.name G = true
        · simp [h1, h2]; omega
        · simp [h1, h2]; omega
  have := key fs
  simp only [putD, List.length_append, List.length_singleton]
  omega
end Go.Proofs.YtmmchemgegmhhaaGreatDoor
