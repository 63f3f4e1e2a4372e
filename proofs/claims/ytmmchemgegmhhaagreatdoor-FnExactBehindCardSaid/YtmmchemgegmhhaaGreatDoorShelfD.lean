/- The program's do: an act on a shelf. -/
import Derived.Test.YtmmchemgegmhhaaGreatDoorShelfM
import Derived.Test.YtmmchemgegmhhaaGreatDoorActS
namespace Go.Proofs.YtmmchemgegmhhaaGreatDoor
open Go.RowKit Go.Maps

theorem name_of_file {gs : List FileD} {nm : ByteArray} {F : FileD} (hok : diskOkD gs = true) (h : fileD gs nm = some F) : nameOkD nm = true := by
  obtain ⟨hF, rfl⟩ := fileD_some h
  obtain ⟨h1, h2, _⟩ := ok_file (((disk_iff gs).1 hok).2.1 F hF)
  simp [nameOkD, h1, h2]

theorem act_add {gs : List FileD} {nm tx tt : ByteArray} (hok : diskOkD gs = true) (het : tt.toList.isEmpty = true) : actD gs ⟨1, nm, tx, tt⟩ = addD gs nm tx := by
  cases hn : nameOkD nm
  · rw [actD_no (by simp [actOk, hok, hn])]
    have hF : fileD gs nm = none := by
      cases h : fileD gs nm with
      | none => rfl
      | some F => rw [name_of_file hok h] at hn; cases hn
    unfold addD
    rw [hF]
    simp only [Option.getD_none]
    rw [put_ok_new (F' := ⟨nm, ⟨#[]⟩ ++ tx, 0⟩) hok (fileD_none hF), new_file nm _ tx rfl, hn]
    rfl
  · have ha : actOk gs ⟨1, nm, tx, tt⟩ = true := by simp [actOk, hok, hn, het]
    have hr : rawD gs ⟨1, nm, tx, tt⟩ = some (putD gs ⟨((fileD gs nm).getD ⟨nm, ⟨#[]⟩, 0⟩).name, ((fileD gs nm).getD ⟨nm, ⟨#[]⟩, 0⟩).text ++ tx, ((fileD gs nm).getD ⟨nm, ⟨#[]⟩, 0⟩).kept⟩) := by simp [rawD, actF]
    unfold addD
    cases hd : diskOkD (putD gs ⟨((fileD gs nm).getD ⟨nm, ⟨#[]⟩, 0⟩).name, ((fileD gs nm).getD ⟨nm, ⟨#[]⟩, 0⟩).text ++ tx, ((fileD gs nm).getD ⟨nm, ⟨#[]⟩, 0⟩).kept⟩)
    · rw [actD_bad ha hr hd]; rfl
    · rw [actD_yes ha hr hd]; rfl

theorem act_none {gs : List FileD} {A : ActD} (hk : A.kind ≠ 1) (hF : fileD gs A.name = none) : actD gs A = none := by
  cases h : actOk gs A
  · exact actD_no h
  · refine actD_raw h ?_
    rw [rawD, if_neg hk, if_pos (by rw [hF]; rfl)]

theorem without_ok {gs : List FileD} (nm : ByteArray) (h : diskOkD gs = true) : diskOkD (withoutD gs nm) = true := by
  obtain ⟨h1, h2, h3⟩ := (disk_iff gs).1 h
  exact (disk_iff _).2 ⟨Nat.le_trans (List.length_filter_le _ _) h1, fun G hG => h2 G (without_mem.1 hG).1, srt_without nm h3⟩

theorem act_keep {gs : List FileD} {F : FileD} {nm tx tt : ByteArray} (hok : diskOkD gs = true) (hF : fileD gs nm = some F) (het : tt.toList.isEmpty = true) (hex : tx.toList.isEmpty = true) : actD gs ⟨2, nm, tx, tt⟩ = some (putD gs ⟨F.name, F.text, (F.text.size : Int)⟩) := by
  have hm := (fileD_some hF).1
  obtain ⟨n1, n2, n3, n4, n5⟩ := ok_file (((disk_iff gs).1 hok).2.1 F hm)
  refine actD_yes (by simp [actOk, hok, name_of_file hok hF, het, hex]) (by simp [rawD, actF, hF]) ?_
  rw [put_ok_old (F := F) (F' := ⟨F.name, F.text, (F.text.size : Int)⟩) hok hm rfl]
  have hn : nameOkD F.name = true := by simp [nameOkD, n1, n2]
  simp only [fileOkD, hn]
  simp [n3]
theorem act_drop {gs : List FileD} {F : FileD} {nm tx tt : ByteArray} (hok : diskOkD gs = true) (hF : fileD gs nm = some F) (het : tt.toList.isEmpty = true) (hex : tx.toList.isEmpty = true) : actD gs ⟨4, nm, tx, tt⟩ = some (withoutD gs nm) :=
  actD_yes (by simp [actOk, hok, name_of_file hok hF, het, hex]) (by simp [rawD, hF]) (without_ok nm hok)
theorem act_move {gs : List FileD} {F : FileD} {nm tx tt : ByteArray} (hok : diskOkD gs = true) (hF : fileD gs nm = some F) (hex : tx.toList.isEmpty = true) : actD gs ⟨3, nm, tx, tt⟩ = moveD gs F tt := by
  obtain ⟨hm, rfl⟩ := fileD_some hF
  obtain ⟨n1, n2, n3, n4, n5⟩ := ok_file (((disk_iff gs).1 hok).2.1 F hm)
  have ha : actOk gs ⟨3, F.name, tx, tt⟩ = true := by simp [actOk, hok, name_of_file hok hF, hex]
  have hsym : (tt.toList == F.name.toList) = (F.name.toList == tt.toList) := by
    cases h : (F.name.toList == tt.toList)
    · rw [beq_eq_false_iff_ne] at h ⊢; exact fun e => h e.symm
    · rw [beq_iff_eq] at h ⊢; exact h.symm
  cases hc : (decide (F.kept < (F.text.size : Int)) || (F.name.toList == tt.toList) || !nameOkD tt)
  · have hr : rawD gs ⟨3, F.name, tx, tt⟩ = some (putD (withoutD gs F.name) ⟨tt, F.text, F.kept⟩) := by
      rw [rawD]
      simp only [hF, actF, Option.getD_some, hsym, hc]
      simp
    have hn : nameOkD tt = true := by
      simp only [Bool.or_eq_false_iff, Bool.not_eq_false'] at hc
      exact hc.2
    have hok' := without_ok F.name hok
    obtain ⟨h1, h2, h3⟩ := (disk_iff _).1 hok'
    have hd : diskOkD (putD (withoutD gs F.name) ⟨tt, F.text, F.kept⟩) = true := by
      refine (disk_iff _).2 ⟨?_, fun G hG => ?_, srt_putD _ h3⟩
      · have hl1 := len_putD_le (withoutD gs F.name) ⟨tt, F.text, F.kept⟩
        have hl2 := without_len ((disk_iff gs).1 hok).2.2 hm
        have hl3 := ((disk_iff gs).1 hok).1
        omega
      · rcases put_mem.1 hG with rfl | ⟨hG, _⟩
        · simp only [fileOkD, hn]
          simp [n3, n4, n5]
        · exact h2 G hG
    rw [actD_yes ha hr hd, moveD, if_neg (by rw [hc]; decide)]
  · have hr : rawD gs ⟨3, F.name, tx, tt⟩ = none := by
      rw [rawD]
      simp only [hF, actF, Option.getD_some, hsym, hc]
      simp
    rw [actD_raw ha hr, moveD, if_pos hc]
theorem act_other {gs : List FileD} {kd : Int} {nm tx tt : ByteArray} (h1 : kd ≠ 1) (h2 : kd ≠ 2) (h3 : kd ≠ 3) (h4 : kd ≠ 4) : actD gs ⟨kd, nm, tx, tt⟩ = none := by
  cases h : actOk gs ⟨kd, nm, tx, tt⟩
  · exact actD_no h
  · refine actD_raw h ?_
    simp [rawD, h1, h2, h3, h4]
end Go.Proofs.YtmmchemgegmhhaaGreatDoor
