/- The specification's CutActs, on a disk that may be nil. -/
import Derived.Test.YtmmchemgegmhhaaGreatDoorCutAll
import Derived.Test.YtmmchemgegmhhaaGreatDoorActsSO
namespace Go.Proofs.YtmmchemgegmhhaaGreatDoor
open Go.RowKit

set_option maxRecDepth 100000 in
set_option maxHeartbeats 4000000 in
theorem specCutO_any (fs : List FileD) (ao0 : Option Addr) (cap : Nat) (qs : List ActD) (ba offa capa : Nat) (wh : Int) (ls : List Int) (al : Option Addr) (capl : Nat) (w : World) (hl : fs.length ≤ 1048576) (hfs : FilesAt w ao0 fs) (hsz : ∀ F ∈ fs, F.name.size ≤ 1048576 ∧ F.text.size ≤ 1048576)
    (hla : qs.length ≤ 1048576) (has : ActsAt w (some ⟨ba, offa, none⟩) qs) (hsa : ∀ A ∈ qs, A.name.size ≤ 1048576 ∧ A.text.size ≤ 1048576 ∧ A.toN.size ≤ 1048576) (hls : IntsAt w al ls) (hca : qs.length ≤ capa) :
    Calls Tryz.prog 74 #[.agg #[.slice ao0 fs.length cap], .slice (some ⟨ba, offa, none⟩) qs.length capa, .int .i64 wh, .slice al ls.length capl] w fun e w' => ∃ v, e = .returned (.tuple #[.agg #[v], .bool (cutD fs qs wh ls).isSome]) ∧ RowF w' w.heap.size v ((cutD fs qs wh ls).getD []) ∧ Below w.heap.size w w' := by
  have HF := hide hfs
  have HS := hide hsz
  have HA := hide has
  have HSA := hide hsa
  have HL := hide hls
  clear hfs hsz has hsa hls
  obtain ⟨w2, hw2⟩ : ∃ w2, w2 = (w.alloc (.cells #[.slice ao0 fs.length cap] 27)).alloc (.cells #[.slice none 0 0] 27) := ⟨_, rfl⟩
  have hs2 : w.heap.size + 1 < w2.heap.size := by rw [hw2]; simp
  have HB2 : Hid (Below w.heap.size w w2) := by rw [hw2]; exact ((Below.refl _ w).alloc (Nat.le_refl _) _).alloc (by simp) _
  have D2 : Hid (w2.heap[w.heap.size]? = some (.cells #[.slice ao0 fs.length cap] 27 (0, 0))) := by rw [hw2]; exact blk_below (heap_alloc_new w _) ((Below.refl _ _).alloc (Nat.le_refl _) _)
  have R2 : Hid (w2.heap[w.heap.size + 1]? = some (.cells #[.slice none 0 0] 27 (0, 0))) := by
    rw [hw2, show w.heap.size + 1 = (w.alloc (.cells #[.slice ao0 fs.length cap] 27)).heap.size from by simp]
    exact heap_alloc_new _ _
  have hR0 := box_of R2.out
  have hR1 := frozen_of_row w2 (w.heap.size + 1) 0 _ _ R2.out
  by_cases hout : wh < 0 ∨ (qs.length : Int) < wh
  · have hE := hide (cutD_out (fs := fs) (ls := ls) hout)
    have hout' := hout
    rw [hw2] at hR0 hR1
    go_enter Tryz.func74, Tryz.ntmps74
    go_wp2_with (first | (go_at_call 43; refine (l01In_val _ _ _ false _ (by simp; omega)).mono ?_; rintro e wi ⟨rfl, rfl⟩))
    rw [← hw2] at hR0 hR1 ⊢
    refine bodyPost_ret (v := .tuple #[.agg #[.slice none 0 0], .bool false]) (by simp [results, Tryz.results74, go_sem, hR0]) rfl ⟨.slice none 0 0, by rw [hE.out]; rfl, .inl ⟨rfl, by rw [hE.out]; rfl⟩, HB2.out⟩
  · obtain ⟨n, rfl⟩ := Int.eq_ofNat_of_zero_le (show 0 ≤ wh by omega)
    obtain ⟨Q, hQ, hQl⟩ : ∃ Q, qs.take n = Q ∧ n = Q.length := ⟨_, rfl, by rw [List.length_take]; omega⟩
    subst hQl
    have hql : Q.length ≤ qs.length := by omega
    have HQ := hide hQ
    have hQa := hide (actsAt_take HA.out hQ hql)
    have hQs : Hid (∀ A ∈ Q, A.name.size ≤ 1048576 ∧ A.text.size ≤ 1048576 ∧ A.toN.size ≤ 1048576) := fun A hA => HSA.out A (by rw [← hQ] at hA; exact List.mem_of_mem_take hA)
    have hd0 : decide ((Q.length : Int) < 0) = false := by simp
    have hd1 : decide ((qs.length : Int) < (Q.length : Int)) = false := by simp; omega
    have hi0 : (0 : Int) ≤ (Q.length : Int) := by omega
    have hi1 : (Q.length : Int) ≤ (capa : Int) := by omega
    obtain ⟨R, HRR⟩ : ∃ R, Hid ((actsF fs Q).1 = R) := ⟨_, hide rfl⟩
    obtain ⟨cc, HCC⟩ : ∃ cc, Hid ((actsF fs Q).2 = cc) := ⟨_, hide rfl⟩
    have hRl : R.length ≤ 1048576 := by rw [← HRR.out]; exact actsF_len Q fs hl
    have HRs : Hid (∀ F ∈ R, F.name.size ≤ 1048576 ∧ F.text.size ≤ 1048576) := by rw [← HRR.out]; exact actsF_small Q fs HS.out
    have hcl : cc ≤ Q.length := by rw [← HCC.out]; exact actsF_count Q fs
    clear hout hQ
    go_enter Tryz.func74, Tryz.ntmps74
    go_upto_region 3 with (first | (go_at_call 43; refine (l01In_val _ _ _ true _ (by simp; omega)).mono ?_; rintro e wi ⟨rfl, rfl⟩))
    rw [← hw2]
    clear hw2
    go_cut [10, 11] from 12 (fun s10 s11 wx => ∃ β a9 c9, s10 = .pointer (some ⟨β, 0, none⟩) ∧ s11 = .int .i64 (cc : Int) ∧ GotF w2 wx β (.slice a9 R.length c9) R)
    case first =>
      rename_i hJ9 hK9
      have hk := box_of D2.out
      have hW0 : w.heap.size < w2.heap.size := by omega
      have KS : Hid (∀ X, Below w2.heap.size w2 X → X.cell? ⟨w.heap.size, 0, none⟩ = some (.slice ao0 fs.length cap)) := fun X hX => (hX.cell (p := ⟨w.heap.size, 0, none⟩) hW0).trans hk
      have HFk : Hid (∀ X, Below w2.heap.size w2 X → FilesAt X ao0 fs) := fun X hX => filesAt_keep HF.out (HB2.out.trans (hX.mono HB2.out.size))
      have HAk : Hid (∀ X, Below w2.heap.size w2 X → ActsAt X (some ⟨ba, offa, none⟩) Q) := fun X hX => actsAt_keep hQa.out (HB2.out.trans (hX.mono HB2.out.size))
      go_region_held3 (fun w' => w'.cell? ⟨w.heap.size, 0, none⟩ = some (.slice ao0 fs.length cap)) (first | (exact KS.out _ ((Below.refl _ _).drew)) | (exact KS.out _ (((Below.refl _ w2).alloc (Nat.le_refl _) _).drew)) | (exact KS.out _ e5) | (exact KS.out _ (e5.alloc e5.size _)) | (exact KS.out _ (e5.setCell (p := ⟨_, 0, none⟩) wb _)) | fail) ((first | (go_at_call 115; refine (specActsO_any fs _ _ Q _ _ _ hl (HFk.out _ ((Below.refl _ _).drew)) HS.out (by omega) (HAk.out _ ((Below.refl _ _).drew)) hQs.out).mono ?_; rintro e w5 ⟨v5, rfl, hrow5, b5⟩; rw [HRR.out] at hrow5; rw [HCC.out]; obtain ⟨a5, c5, rfl, _⟩ := rowF_at hrow5; have e5 : Below w2.heap.size w2 w5 := ((Below.refl _ _).drew).trans b5) | (go_at_call 115; refine (specActsO_any fs _ _ Q _ _ _ hl (HFk.out _ (((Below.refl _ w2).alloc (Nat.le_refl _) _).drew)) HS.out (by omega) (HAk.out _ (((Below.refl _ w2).alloc (Nat.le_refl _) _).drew)) hQs.out).mono ?_; rintro e w5 ⟨v5, rfl, hrow5, b5⟩; rw [HRR.out] at hrow5; rw [HCC.out]; obtain ⟨a5, c5, rfl, _⟩ := rowF_at hrow5; have e5 : Below w2.heap.size w2 w5 := (((Below.refl _ w2).alloc (Nat.le_refl _) _).drew).trans (b5.mono (by simp)); have q5 : Hid (w5.heap[w2.heap.size]? = some (.cells #[.slice none 0 0] 27 (0, 0))) := (b5.block _ (by simp)).trans (heap_alloc_new w2 _); have wb := Nat.le_refl w2.heap.size; have zb : w2.heap.size < (w2.alloc (.cells #[.slice none 0 0] 27)).drew.heap.size := (by simp); have hq4 := box_of q5.out; have hq5 := frozen_of_row w5 _ 0 _ _ q5.out) | fail))
      all_goals (refine hK9 _ _ (Met.intro (hJ9 _ _ ?_)); (repeat apply Exists.intro); refine ⟨?_, rfl⟩)
      all_goals first | (exact ⟨_, _, _, rfl, rfl, got_old hrow5 zb wb e5 q5.out⟩) | (exact ⟨_, _, _, rfl, rfl, got_new hrow5 (Nat.le_refl _) e5⟩)
    case rest =>
      obtain ⟨βW, aW, cW, rfl, rfl, hgot⟩ := hcut
      obtain ⟨wW, hwc⟩ : ∃ x, x = wc := ⟨_, rfl⟩
      subst hwc
      obtain ⟨hb0, hrow, hU, b_wW, hβ1, hβ2⟩ := hgot
      have bW := hide hb0
      have rW := hide hrow
      have HBW : Hid (Below w.heap.size w wW) := HB2.out.trans (b_wW.mono HB2.out.size)
      have RW := hide (blk_below R2.out b_wW)
      have hsW := b_wW.size
      clear hb0 hrow hU b_wW hR0 hR1 hβ1 hβ2
      have hR0 := box_of RW.out
      have hR1 := frozen_of_row wW (w.heap.size + 1) 0 _ _ RW.out
      by_cases hfew : cc < Q.length
      · have hE := hide (cutD_few (ls := ls) rfl hql HQ.out (by rw [HCC.out]; exact hfew))
        have hd : decide ((cc : Int) < (Q.length : Int)) = true := by simp; omega
        go_wp2_with fail
        refine bodyPost_ret (v := .tuple #[.agg #[.slice none 0 0], .bool false]) (by simp [results, Tryz.results74, go_sem, hR0]) rfl ⟨.slice none 0 0, by rw [hE.out]; rfl, .inl ⟨rfl, by rw [hE.out]; rfl⟩, by first | exact HBW.out | exact HBW.out.setCell (p := ⟨w.heap.size + 1, 0, none⟩) (by show w.heap.size ≤ w.heap.size + 1; omega) _⟩
      · obtain ⟨hE1, hE2⟩ := cutD_all (ls := ls) rfl hql HQ.out (fs := fs) (by rw [HCC.out]; exact hfew)
        rw [HRR.out] at hE1 hE2
        have HE1 := hide hE1
        have HE2 := hide hE2
        clear hE1 hE2
        have hd : decide ((cc : Int) < (Q.length : Int)) = false := by simp; omega
        have hbW := box_of bW.out
        go_wp2_with fail
        refine (specLose_all R _ _ ls _ _ _ hRl (rowF_files rW.out) (intsAt_keep HL.out HBW.out) HRs.out).mono ?_
        rintro e w9 ⟨v9, rfl, hrow9, b9⟩
        obtain ⟨a9, c9, rfl, _⟩ := rowF_at hrow9
        have H9 := hide hrow9
        have HB9 : Hid (Below w.heap.size w w9) := HBW.out.trans (b9.mono HBW.out.size)
        have hR9 := blk_below RW.out b9
        have hx0 := box_of hR9
        have hx1 := frozen_of_row w9 (w.heap.size + 1) 0 _ _ hR9
        clear hrow9 b9 hR9 hR0 hR1 hbW
        go_wp2_with fail
        refine bodyPost_ret (v := .tuple #[.agg #[.slice a9 (loseR R ls).length c9], .bool (diskOkD R)]) (by simp [results, Tryz.results74, go_sem, hx0]) rfl ⟨.slice a9 (loseR R ls).length c9, by rw [HE1.out], ?_, HB9.out.setCell (p := ⟨w.heap.size + 1, 0, none⟩) (by show w.heap.size ≤ w.heap.size + 1; omega) _⟩
        rw [HE2.out]
        exact rowF_le (rowF_grown H9.out (grownBy_store (World.grownBy.refl _ _) 0 _) (fun g hg e => by have h1 := (rowF_lt H9.out g hg).1; cases e; omega)) (by omega)
end Go.Proofs.YtmmchemgegmhhaaGreatDoor
