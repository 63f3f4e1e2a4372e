/- The program's add: a text is put behind that of a file, which may be new. -/
import Derived.Test.YtmmchemgegmhhaaGreatDoorShelfI
namespace Go.Proofs.YtmmchemgegmhhaaGreatDoor
open Go.RowKit Go.Maps

theorem Tryz.zeroP (w : World) : (zeroValue 247).run Tryz.prog w = .ok (.pointer none) w := by
  have hz : Tryz.t247.zero = some (.pointer none) := by kernel_rfl
  simp [zeroValue, go_sem, hz]

/-- A text behind that of the file of a name. -/
def addD (gs : List FileD) (nm tx : ByteArray) : Option (List FileD) :=
  if diskOkD (putD gs ⟨((fileD gs nm).getD ⟨nm, ⟨#[]⟩, 0⟩).name, ((fileD gs nm).getD ⟨nm, ⟨#[]⟩, 0⟩).text ++ tx, ((fileD gs nm).getD ⟨nm, ⟨#[]⟩, 0⟩).kept⟩) = true
  then some (putD gs ⟨((fileD gs nm).getD ⟨nm, ⟨#[]⟩, 0⟩).name, ((fileD gs nm).getD ⟨nm, ⟨#[]⟩, 0⟩).text ++ tx, ((fileD gs nm).getD ⟨nm, ⟨#[]⟩, 0⟩).kept⟩) else none

theorem fileD_some {gs : List FileD} {nm : ByteArray} {F : FileD} (h : fileD gs nm = some F) : F ∈ gs ∧ F.name = nm := by
  refine ⟨List.mem_of_find?_eq_some h, ?_⟩
  have := List.find?_some h
  by_cases e : F.name = nm
  · exact e
  · rw [toList_ne.2 e] at this; cases this
theorem fileD_none {gs : List FileD} {nm : ByteArray} (h : fileD gs nm = none) : ∀ G ∈ gs, G.name ≠ nm := by
  intro G hG e
  have := List.find?_eq_none.1 h G hG
  rw [e] at this
  simp at this

/-- The names of right files part them. -/
theorem srt_one {gs : List FileD} (h : srt gs) {F G : FileD} (hF : F ∈ gs) (hG : G ∈ gs) (e : F.name = G.name) : F = G := by
  obtain ⟨i, hi, rfl⟩ := List.getElem_of_mem hF
  obtain ⟨j, hj, rfl⟩ := List.getElem_of_mem hG
  rcases Nat.lt_trichotomy i j with h1 | h1 | h1
  · exact absurd e (less_ne (List.pairwise_iff_getElem.1 h i j hi hj h1))
  · subst h1; rfl
  · exact absurd e.symm (less_ne (List.pairwise_iff_getElem.1 h j i hj hi h1))

theorem put_len_old {gs : List FileD} {F F' : FileD} (hs : srt gs) (hF : F ∈ gs) (hn : F'.name = F.name) : (putD gs F').length = gs.length := by
  have key : ∀ l : List FileD, srt l → (l.filter (lessF F'.name)).length + (l.filter (moreF F'.name)).length + (if (∃ X ∈ l, X.name = F'.name) then 1 else 0) = l.length := by
    intro l
    induction l with
    | nil => intro _; simp
    | cons G r ih =>
      intro h
      have hr := ih (List.pairwise_cons.1 h).2
      have hlt := (List.pairwise_cons.1 h).1
      simp only [List.filter_cons]
      by_cases e : G.name = F'.name
      · have h1 : lessF F'.name G = false := by rw [lessF, e, less_irrefl]
        have h2 : moreF F'.name G = false := by rw [moreF, e]; simp
        have hno : ¬ ∃ X ∈ r, X.name = F'.name := by
          rintro ⟨X, hX, e2⟩
          exact less_ne (hlt X hX) (e.trans e2.symm)
        rw [if_neg hno] at hr
        have e1 : (if (∃ X ∈ G :: r, X.name = F'.name) then 1 else 0) = 1 := if_pos ⟨G, List.mem_cons_self, e⟩
        rw [h1, h2, e1]
        simp
        omega
      · have hiff : (∃ X ∈ G :: r, X.name = F'.name) ↔ ∃ X ∈ r, X.name = F'.name := by
          constructor
          · rintro ⟨X, hX, e2⟩
            rcases List.mem_cons.1 hX with rfl | hX
            · exact absurd e2 e
            · exact ⟨X, hX, e2⟩
          · rintro ⟨X, hX, e2⟩
            exact ⟨X, List.mem_cons_of_mem _ hX, e2⟩
        cases hl : Op.bytesLess G.name.toList F'.name.toList
        · have h1 : lessF F'.name G = false := hl
          have h2 : moreF F'.name G = true := by rw [moreF, hl, toList_ne.2 e]; rfl
          rw [h1, h2]
          simp only [hiff]
          simp
          omega
        · have h1 : lessF F'.name G = true := hl
          have h2 : moreF F'.name G = false := by rw [moreF, hl]; rfl
          rw [h1, h2]
          simp only [hiff]
          simp
          omega
  have := key gs hs
  rw [if_pos ⟨F, hF, hn.symm⟩] at this
  simp only [putD, List.length_append, List.length_singleton]
  omega

/-- A file of a right disk, written anew: the disk is right just when the file is. -/
theorem put_ok_old {gs : List FileD} {F F' : FileD} (h : diskOkD gs = true) (hF : F ∈ gs) (hn : F'.name = F.name) : diskOkD (putD gs F') = fileOkD F' := by
  obtain ⟨h1, h2, h3⟩ := (disk_iff gs).1 h
  cases hf : fileOkD F'
  · cases hd : diskOkD (putD gs F') with
    | false => rfl
    | true => rw [((disk_iff _).1 hd).2.1 F' (put_mem.2 (.inl rfl))] at hf; cases hf
  · refine (disk_iff _).2 ⟨by rw [put_len_old h3 hF hn]; exact h1, fun G hG => ?_, srt_putD F' h3⟩
    rcases put_mem.1 hG with rfl | ⟨hG, _⟩
    · exact hf
    · exact h2 G hG
theorem put_ok_new {gs : List FileD} {F' : FileD} (h : diskOkD gs = true) (hn : ∀ G ∈ gs, G.name ≠ F'.name) : diskOkD (putD gs F') = (fileOkD F' && decide (gs.length + 1 ≤ 30)) := by
  obtain ⟨h1, h2, h3⟩ := (disk_iff gs).1 h
  cases hf : fileOkD F'
  · cases hd : diskOkD (putD gs F') with
    | false => rfl
    | true => rw [((disk_iff _).1 hd).2.1 F' (put_mem.2 (.inl rfl))] at hf; cases hf
  · rw [Bool.true_and]
    by_cases hl : gs.length + 1 ≤ 30
    · rw [decide_eq_true hl]
      refine (disk_iff _).2 ⟨by rw [put_len_new hn]; exact hl, fun G hG => ?_, srt_putD F' h3⟩
      rcases put_mem.1 hG with rfl | ⟨hG, _⟩
      · exact hf
      · exact h2 G hG
    · rw [decide_eq_false hl]
      cases hd : diskOkD (putD gs F') with
      | false => rfl
      | true =>
        have := ((disk_iff _).1 hd).1
        rw [put_len_new hn] at this
        exact absurd this hl
end Go.Proofs.YtmmchemgegmhhaaGreatDoor
