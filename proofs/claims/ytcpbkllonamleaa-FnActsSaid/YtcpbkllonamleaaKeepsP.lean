/- Plain facts: a file put into a right disk; what the power leaves of a right disk. -/
import Derived.Test.YtcpbkllonamleaaFiles
namespace Go.Proofs.Ytcpbkllonamleaa
open Go.RowKit

theorem file_ok {F : FileD} (h1 : 1 ≤ F.name.size) (h2 : F.name.size ≤ 8) (h3 : F.text.size ≤ 20000) (h4 : 0 ≤ F.kept) (h5 : F.kept ≤ F.text.size) : fileOkD F = true := by
  simp only [fileOkD, nameOkD, Bool.and_eq_true, decide_eq_true_eq]
  exact ⟨⟨h1, h2⟩, h3, h4, h5⟩

theorem ok_put {fs : List FileD} {F : FileD} (h : diskOkD fs = true) (hF : fileOkD F = true) (hl : fs.length < 30) : diskOkD (putD fs F) = true := by
  rw [disk_iff] at h ⊢
  refine ⟨by have := len_putD_le fs F; omega, ?_, srt_putD F h.2.2⟩
  intro G hG
  rcases mem_putD.1 hG with ⟨h1, _⟩ | rfl | ⟨h1, _⟩
  · exact h.2.1 G h1
  · exact hF
  · exact h.2.1 G h1

theorem lostF_size {F : FileD} (n : Int) (h : fileOkD F = true) : ((lostF F n).text.size : Int) = staysI F n ∧ (lostF F n).kept = staysI F n := by
  obtain ⟨_, _, h3, h4, h5⟩ := ok_file h
  have hb := stays_bd n h4 h5
  refine ⟨?_, rfl⟩
  show ((F.text.extract 0 (staysI F n).toNat).size : Int) = _
  rw [ByteArray.size_extract]
  omega
theorem lostF_ok {F : FileD} (n : Int) (h : fileOkD F = true) : fileOkD (lostF F n) = true := by
  obtain ⟨h1, h2, h3, h4, h5⟩ := ok_file h
  have hb := stays_bd n h4 h5
  obtain ⟨e1, e2⟩ := lostF_size n h
  exact file_ok h1 h2 (by omega) (by omega) (by omega)
theorem lostF_again {F : FileD} (n : Int) (h : fileOkD F = true) : lostF (lostF F n) 0 = lostF F n := by
  obtain ⟨h1, h2, h3, h4, h5⟩ := ok_file h
  have hb := stays_bd n h4 h5
  obtain ⟨e1, e2⟩ := lostF_size n h
  have es : staysI (lostF F n) 0 = staysI F n := by
    generalize staysI F n = q at e1 e2 hb ⊢
    unfold staysI
    rw [if_neg (by rw [e1]; omega), e2]
    split <;> omega
  have ex : (lostF F n).text.extract 0 (staysI F n).toNat = (lostF F n).text := by
    apply ByteArray.ext
    apply Array.toList_inj.1
    rw [ByteArray.data_extract, Array.toList_extract, List.extract_eq_take_drop, List.drop_zero]
    refine List.take_of_length_le ?_
    rw [Array.length_toList]
    show (lostF F n).text.size ≤ _
    omega
  show FileD.mk (lostF F n).name ((lostF F n).text.extract 0 (staysI (lostF F n) 0).toNat) (staysI (lostF F n) 0) = lostF F n
  rw [es, ex]
  rfl

theorem lostD_again : ∀ (fs : List FileD) (ls : List Int), (∀ F ∈ fs, fileOkD F = true) → lostD (lostD fs ls) [] = lostD fs ls
  | [], _, _ => rfl
  | F :: r, [], h => by
    show lostF (lostF F 0) 0 :: lostD (lostD r []) [] = lostF F 0 :: lostD r []
    rw [lostF_again 0 (h F (by simp)), lostD_again r [] (fun G hG => h G (by simp [hG]))]
  | F :: r, n :: l, h => by
    show lostF (lostF F n) 0 :: lostD (lostD r l) [] = lostF F n :: lostD r l
    rw [lostF_again n (h F (by simp)), lostD_again r l (fun G hG => h G (by simp [hG]))]

theorem lostD_mem : ∀ (fs : List FileD) (ls : List Int), ∀ G ∈ lostD fs ls, ∃ F ∈ fs, ∃ n, G = lostF F n
  | [], _, G, h => absurd h List.not_mem_nil
  | F :: r, [], G, h => by
    rcases List.mem_cons.1 h with rfl | h
    · exact ⟨F, by simp, 0, rfl⟩
    · obtain ⟨F', h1, n, h2⟩ := lostD_mem r [] G h
      exact ⟨F', by simp [h1], n, h2⟩
  | F :: r, n :: l, G, h => by
    rcases List.mem_cons.1 h with rfl | h
    · exact ⟨F, by simp, n, rfl⟩
    · obtain ⟨F', h1, n, h2⟩ := lostD_mem r l G h
      exact ⟨F', by simp [h1], n, h2⟩
theorem lostD_names : ∀ (fs : List FileD) (ls : List Int), (lostD fs ls).map FileD.name = fs.map FileD.name
  | [], _ => rfl
  | F :: r, [] => by simp only [lostD, List.map_cons, lostD_names r []]; rfl
  | F :: r, n :: l => by simp only [lostD, List.map_cons, lostD_names r l]; rfl
theorem srt_names (fs : List FileD) : srt fs ↔ (fs.map FileD.name).Pairwise (fun a b => Op.bytesLess a.toList b.toList = true) := by
  unfold srt
  rw [List.pairwise_map]

theorem lostD_ok {fs : List FileD} (ls : List Int) (h : diskOkD fs = true) : diskOkD (lostD fs ls) = true := by
  rw [disk_iff] at h ⊢
  refine ⟨by rw [lostD_length]; exact h.1, ?_, ?_⟩
  · intro G hG
    obtain ⟨F, hF, n, rfl⟩ := lostD_mem fs ls G hG
    exact lostF_ok n (h.2.1 F hF)
  · rw [srt_names, lostD_names, ← srt_names]; exact h.2.2
theorem lostD_kept {fs : List FileD} (ls : List Int) (h : diskOkD fs = true) : allKeptD (lostD fs ls) = true := by
  unfold allKeptD
  rw [lostD_ok ls h, Bool.true_and, keptD, List.all_eq_true]
  intro G hG
  obtain ⟨F, hF, n, rfl⟩ := lostD_mem fs ls G hG
  obtain ⟨e1, e2⟩ := lostF_size n (((disk_iff fs).1 h).2.1 F hF)
  simp only [Bool.not_eq_true', decide_eq_false_iff_not]
  omega

/-- Of what is left: a beginning of what was there, and what was kept is a beginning of it. -/
theorem lostF_begins {F : FileD} (n : Int) (h : fileOkD F = true) : (lostF F n).text = F.text.extract 0 (lostF F n).text.size ∧ (lostF F n).text.size ≤ F.text.size ∧
    F.text.extract 0 F.kept.toNat = (lostF F n).text.extract 0 (F.text.extract 0 F.kept.toNat).size ∧ (F.text.extract 0 F.kept.toNat).size ≤ (lostF F n).text.size ∧ (F.text.extract 0 F.kept.toNat).size ≤ 20000 := by
  obtain ⟨h1, h2, h3, h4, h5⟩ := ok_file h
  have hb := stays_bd n h4 h5
  obtain ⟨e1, e2⟩ := lostF_size n h
  have hk : (F.text.extract 0 F.kept.toNat).size = F.kept.toNat := by rw [ByteArray.size_extract]; omega
  have hs : (lostF F n).text.size = (staysI F n).toNat := by omega
  refine ⟨by rw [hs]; rfl, by omega, ?_, by omega, by omega⟩
  rw [hk]
  apply ByteArray.ext
  apply Array.toList_inj.1
  show _ = ((F.text.extract 0 (staysI F n).toNat).extract 0 F.kept.toNat).data.toList
  simp only [ByteArray.data_extract, Array.toList_extract, List.extract_eq_take_drop, List.drop_zero, List.take_take, Nat.sub_zero]
  congr 1
  omega
end Go.Proofs.Ytcpbkllonamleaa
