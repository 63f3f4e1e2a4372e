import Derived.Test.YtlcfblodflgleaaGreatDoorBe45
import Derived.Test.YtlcfblodflgleaaGreatDoorBe6
import Derived.Test.YtlcfblodflgleaaGreatDoorBe44
import Derived.Test.YtlcfblodflgleaaGreatDoorBe46
import Derived.Test.YtlcfblodflgleaaGreatDoorBe1
import Derived.Test.YtlcfblodflgleaaGreatDoorBe7
import Derived.Test.YtlcfblodflgleaaGreatDoorBe43
set_option maxRecDepth 100000
set_option maxHeartbeats 4000000
namespace Go.Proofs.YtlcfblodflgleaaGreatDoor
open Go.RowKit
theorem specCutO_any (fs : List FileD) (ao0 : Option Addr) (cap : Nat) (qs : List ActD) (ba offa capa : Nat) (wh : Int) (ls : List Int) (al : Option Addr) (capl : Nat) (w : World) (hl : fs.length ≤ 1048576) (hfs : FilesAt w ao0 fs) (hsz : ∀ F ∈ fs, F.name.size ≤ 1048576 ∧ F.text.size ≤ 1048576)
    (hla : qs.length ≤ 1048576) (has : ActsAt w (some ⟨ba, offa, none⟩) qs) (hsa : ∀ A ∈ qs, A.name.size ≤ 1048576 ∧ A.text.size ≤ 1048576 ∧ A.toN.size ≤ 1048576) (hls : IntsAt w al ls) (hca : qs.length ≤ capa) :
    Calls Tryz.prog 41 #[.agg #[.slice ao0 fs.length cap], .slice (some ⟨ba, offa, none⟩) qs.length capa, .int .i64 wh, .slice al ls.length capl] w fun e w' => ∃ v, e = .returned (.tuple #[.agg #[v], .bool (cutD fs qs wh ls).isSome]) ∧ RowF w' w.heap.size v ((cutD fs qs wh ls).getD []) ∧ Below w.heap.size w w' := by
  have HF := hide hfs
  have HS := hide hsz
  have HA := hide has
  have HSA := hide hsa
  have HL := hide hls
  clear hfs hsz has hsa hls
  obtain ⟨w2, hw2⟩ : ∃ w2, w2 = (w.alloc (.cells #[.slice ao0 fs.length cap] 31)).alloc (.cells #[.slice none 0 0] 31) := ⟨_, rfl⟩
  have hs2 : w.heap.size + 1 < w2.heap.size := by rw [hw2]; simp
  have HB2 : Hid (Below w.heap.size w w2) := by rw [hw2]; exact ((Below.refl _ w).alloc (Nat.le_refl _) _).alloc (by simp) _
  have D2 : Hid (w2.heap[w.heap.size]? = some (.cells #[.slice ao0 fs.length cap] 31 (0, 0))) := by rw [hw2]; exact blk_below (heap_alloc_new w _) ((Below.refl _ _).alloc (Nat.le_refl _) _)
  have R2 : Hid (w2.heap[w.heap.size + 1]? = some (.cells #[.slice none 0 0] 31 (0, 0))) := by
    rw [hw2, show w.heap.size + 1 = (w.alloc (.cells #[.slice ao0 fs.length cap] 31)).heap.size from by simp]
    exact heap_alloc_new _ _
  have hR0 := box_of R2.out
  have hR1 := frozen_of_row w2 (w.heap.size + 1) 0 _ _ R2.out
  by_cases hout : wh < 0 ∨ (qs.length : Int) < wh
  · have hE := hide (cutD_out (fs := fs) (ls := ls) hout)
    have hout' := hout
    rw [hw2] at hR0 hR1
    go_enter Tryz.func41, Tryz.ntmps41
    go_wp2_with (first | (go_at_call 64; refine (l01In_val _ _ _ false _ (by simp; omega)).mono ?_; rintro e wi ⟨rfl, rfl⟩))
    rw [← hw2] at hR0 hR1 ⊢
    refine bodyPost_ret (v := .tuple #[.agg #[.slice none 0 0], .bool false]) (by simp [results, Tryz.results41, go_sem, hR0]) rfl ⟨.slice none 0 0, by rw [hE.out]; rfl, .inl ⟨rfl, by rw [hE.out]; rfl⟩, HB2.out⟩
  · obtain ⟨n, rfl⟩ := Int.eq_ofNat_of_zero_le (show 0 ≤ wh by omega)
    obtain ⟨Q, hQ, hQl⟩ : ∃ Q, qs.take n = Q ∧ n = Q.length := ⟨_, rfl, by rw [List.length_take]; omega⟩
    subst hQl
    have hql : Q.length ≤ qs.length := by omega
    have HQ := hide hQ
    have hQa := hide (actsAt_take HA.out hQ hql)
    have hQs : Hid (∀ A ∈ Q, A.name.size ≤ 1048576 ∧ A.text.size ≤ 1048576 ∧ A.toN.size ≤ 1048576) := fun A hA => HSA.out A (by rw [← hQ] at hA; exact List.mem_of_mem_take hA)
    have hd0 : decide ((Q.length : Int) < 0) = false := by simp
    have hd1 : decide ((qs.length : Int) < (Q.length : Int)) = false := by simp; omega
    have hi0 : (0 : Int) ≤ (Q.length : Int) := by omega
    have hi1 : (Q.length : Int) ≤ (capa : Int) := by omega
    obtain ⟨R, HRR⟩ : ∃ R, Hid ((actsF fs Q).1 = R) := ⟨_, hide rfl⟩
    obtain ⟨cc, HCC⟩ : ∃ cc, Hid ((actsF fs Q).2 = cc) := ⟨_, hide rfl⟩
    have hRl : R.length ≤ 1048576 := by rw [← HRR.out]; exact actsF_len Q fs hl
    have HRs : Hid (∀ F ∈ R, F.name.size ≤ 1048576 ∧ F.text.size ≤ 1048576) := by rw [← HRR.out]; exact actsF_small Q fs HS.out
    have hcl : cc ≤ Q.length := by rw [← HCC.out]; exact actsF_count Q fs
    clear hout hQ
    go_enter Tryz.func41, Tryz.ntmps41
    go_upto_region 3 with (first | (go_at_call 64; refine (l01In_val _ _ _ true _ (by simp; omega)).mono ?_; rintro e wi ⟨rfl, rfl⟩))
    rw [← hw2]
    clear hw2
    go_cut [10, 11] from 12 (fun s10 s11 wx => ∃ β a9 c9, s10 = .pointer (some ⟨β, 0, none⟩) ∧ s11 = .int .i64 (cc : Int) ∧ GotF w2 wx β (.slice a9 R.length c9) R)
    case first =>
      rename_i hJ9 hK9
      have hk := box_of D2.out
      have hW0 : w.heap.size < w2.heap.size := by omega
      have KS : Hid (∀ X, Below w2.heap.size w2 X → X.cell? ⟨w.heap.size, 0, none⟩ = some (.slice ao0 fs.length cap)) := fun X hX => (hX.cell (p := ⟨w.heap.size, 0, none⟩) hW0).trans hk
      have HFk : Hid (∀ X, Below w2.heap.size w2 X → FilesAt X ao0 fs) := fun X hX => filesAt_keep HF.out (HB2.out.trans (hX.mono HB2.out.size))
      have HAk : Hid (∀ X, Below w2.heap.size w2 X → ActsAt X (some ⟨ba, offa, none⟩) Q) := fun X hX => actsAt_keep hQa.out (HB2.out.trans (hX.mono HB2.out.size))
      go_region_held3 (fun w' => w'.cell? ⟨w.heap.size, 0, none⟩ = some (.slice ao0 fs.length cap)) (first | (exact KS.out _ ((Below.refl _ _).drew)) | (exact KS.out _ (((Below.refl _ w2).alloc (Nat.le_refl _) _).drew)) | (exact KS.out _ e5) | (exact KS.out _ (e5.alloc e5.size _)) | (exact KS.out _ (e5.setCell (p := ⟨_, 0, none⟩) wb _)) | fail) ((first | (go_at_call 68; refine (specActsO_any fs _ _ Q _ _ _ hl (HFk.out _ ((Below.refl _ _).drew)) HS.out (by omega) (HAk.out _ ((Below.refl _ _).drew)) hQs.out).mono ?_; rintro e w5 ⟨v5, rfl, hrow5, b5⟩; rw [HRR.out] at hrow5; rw [HCC.out]; obtain ⟨a5, c5, rfl, _⟩ := rowF_at hrow5; have e5 : Below w2.heap.size w2 w5 := ((Below.refl _ _).drew).trans b5) | (go_at_call 68; refine (specActsO_any fs _ _ Q _ _ _ hl (HFk.out _ (((Below.refl _ w2).alloc (Nat.le_refl _) _).drew)) HS.out (by omega) (HAk.out _ (((Below.refl _ w2).alloc (Nat.le_refl _) _).drew)) hQs.out).mono ?_; rintro e w5 ⟨v5, rfl, hrow5, b5⟩; rw [HRR.out] at hrow5; rw [HCC.out]; obtain ⟨a5, c5, rfl, _⟩ := rowF_at hrow5; have e5 : Below w2.heap.size w2 w5 := (((Below.refl _ w2).alloc (Nat.le_refl _) _).drew).trans (b5.mono (by simp)); have q5 : Hid (w5.heap[w2.heap.size]? = some (.cells #[.slice none 0 0] 31 (0, 0))) := (b5.block _ (by simp)).trans (heap_alloc_new w2 _); have wb := Nat.le_refl w2.heap.size; have zb : w2.heap.size < (w2.alloc (.cells #[.slice none 0 0] 31)).drew.heap.size := (by simp); have hq4 := box_of q5.out; have hq5 := frozen_of_row w5 _ 0 _ _ q5.out) | fail))
      all_goals (refine hK9 _ _ (Met.intro (hJ9 _ _ ?_)); (repeat apply Exists.intro); refine ⟨?_, rfl⟩)
      all_goals first | (exact ⟨_, _, _, rfl, rfl, got_old hrow5 zb wb e5 q5.out⟩) | (exact ⟨_, _, _, rfl, rfl, got_new hrow5 (Nat.le_refl _) e5⟩)
    case rest =>
      obtain ⟨βW, aW, cW, rfl, rfl, hgot⟩ := hcut
      obtain ⟨wW, hwc⟩ : ∃ x, x = wc := ⟨_, rfl⟩
      subst hwc
      obtain ⟨hb0, hrow, hU, b_wW, hβ1, hβ2⟩ := hgot
      have bW := hide hb0
      have rW := hide hrow
      have HBW : Hid (Below w.heap.size w wW) := HB2.out.trans (b_wW.mono HB2.out.size)
      have RW := hide (blk_below R2.out b_wW)
      have hsW := b_wW.size
      clear hb0 hrow hU b_wW hR0 hR1 hβ1 hβ2
      have hR0 := box_of RW.out
      have hR1 := frozen_of_row wW (w.heap.size + 1) 0 _ _ RW.out
      by_cases hfew : cc < Q.length
      · have hE := hide (cutD_few (ls := ls) rfl hql HQ.out (by rw [HCC.out]; exact hfew))
        have hd : decide ((cc : Int) < (Q.length : Int)) = true := by simp; omega
        go_wp2_with fail
        refine bodyPost_ret (v := .tuple #[.agg #[.slice none 0 0], .bool false]) (by simp [results, Tryz.results41, go_sem, hR0]) rfl ⟨.slice none 0 0, by rw [hE.out]; rfl, .inl ⟨rfl, by rw [hE.out]; rfl⟩, by first | exact HBW.out | exact HBW.out.setCell (p := ⟨w.heap.size + 1, 0, none⟩) (by show w.heap.size ≤ w.heap.size + 1; omega) _⟩
      · obtain ⟨hE1, hE2⟩ := cutD_all (ls := ls) rfl hql HQ.out (fs := fs) (by rw [HCC.out]; exact hfew)
        rw [HRR.out] at hE1 hE2
        have HE1 := hide hE1
        have HE2 := hide hE2
        clear hE1 hE2
        have hd : decide ((cc : Int) < (Q.length : Int)) = false := by simp; omega
        have hbW := box_of bW.out
        go_wp2_with fail
        refine (specLose_all R _ _ ls _ _ _ hRl (rowF_files rW.out) (intsAt_keep HL.out HBW.out) HRs.out).mono ?_
        rintro e w9 ⟨v9, rfl, hrow9, b9⟩
        obtain ⟨a9, c9, rfl, _⟩ := rowF_at hrow9
        have H9 := hide hrow9
        have HB9 : Hid (Below w.heap.size w w9) := HBW.out.trans (b9.mono HBW.out.size)
        have hR9 := blk_below RW.out b9
        have hx0 := box_of hR9
        have hx1 := frozen_of_row w9 (w.heap.size + 1) 0 _ _ hR9
        clear hrow9 b9 hR9 hR0 hR1 hbW
        go_wp2_with fail
        refine bodyPost_ret (v := .tuple #[.agg #[.slice a9 (loseR R ls).length c9], .bool (diskOkD R)]) (by simp [results, Tryz.results41, go_sem, hx0]) rfl ⟨.slice a9 (loseR R ls).length c9, by rw [HE1.out], ?_, HB9.out.setCell (p := ⟨w.heap.size + 1, 0, none⟩) (by show w.heap.size ≤ w.heap.size + 1; omega) _⟩
        rw [HE2.out]
        exact rowF_le (rowF_grown H9.out (grownBy_store (World.grownBy.refl _ _) 0 _) (fun g hg e => by have h1 := (rowF_lt H9.out g hg).1; cases e; omega)) (by omega)
theorem specBehind_any (fs : List FileD) (ao ad : Option Addr) (cap dl cd : Nat) (room act seq : Int) (qs : List ActD) (ba offa capa : Nat) (wh : Int) (ls : List Int) (al : Option Addr) (capl : Nat) (w : World) (hl : fs.length ≤ 1048576) (hfs : FilesAt w ao fs) (hsz : ∀ F ∈ fs, F.name.size ≤ 1048576 ∧ F.text.size ≤ 1048576)
    (hla : qs.length ≤ 1048576) (has : ActsAt w (some ⟨ba, offa, none⟩) qs) (hsa : ∀ A ∈ qs, A.name.size ≤ 1048576 ∧ A.text.size ≤ 1048576 ∧ A.toN.size ≤ 1048576) (hls : IntsAt w al ls) (hca : qs.length ≤ capa) :
    Calls Tryz.prog 16 #[.agg #[.slice ao fs.length cap, .int .i64 room, .int .i64 act, .int .i64 seq, .slice ad dl cd], .slice (some ⟨ba, offa, none⟩) qs.length capa, .int .i64 wh, .slice al ls.length capl] w fun e w' => BehPost fs qs wh ls room w e w' := by
  have HCU := hide (fun W hW => specCutO_any fs ao cap qs ba offa capa wh ls al capl W hl (filesAt_keep hfs hW) hsz hla (actsAt_keep has hW) hsa (intsAt_keep hls hW) hca)
  clear hfs hsz has hsa hls
  obtain ⟨wb, hwb⟩ : ∃ wb, wb = (w.alloc (.cells #[.slice ao fs.length cap, .int .i64 room, .int .i64 act, .int .i64 seq, .slice ad dl cd] 34)).alloc (.cells #[.slice none 0 0, .int .i64 0, .int .i64 0, .int .i64 0, .slice none 0 0] 34) := ⟨_, rfl⟩
  have HB0 : Hid (Below w.heap.size w wb) := by rw [hwb]; exact ((Below.refl _ w).alloc (Nat.le_refl _) _).alloc (by simp) _
  have HBE : Hid (wb.heap[w.heap.size + 1]? = some (.cells #[.slice none 0 0, .int .i64 0, .int .i64 0, .int .i64 0, .slice none 0 0] 34 (0, 0))) := by
    show _ = _
    rw [hwb, show w.heap.size + 1 = (w.alloc (.cells #[.slice ao fs.length cap, .int .i64 room, .int .i64 act, .int .i64 seq, .slice ad dl cd] 34)).heap.size from by simp]
    exact heap_alloc_new _ _
  have HBK : Hid (wb.heap[w.heap.size]? = some (.cells #[.slice ao fs.length cap, .int .i64 room, .int .i64 act, .int .i64 seq, .slice ad dl cd] 34 (0, 0))) := by
    show _ = _
    rw [hwb]
    exact (((Below.refl _ _).alloc (Nat.le_refl _) _).block _ (by simp)).trans (heap_alloc_new w _)
  obtain ⟨hz0, hz1, hz2, hz3, hz4, -⟩ := five_cells HBK.out
  go_enter Tryz.func16, Tryz.ntmps16
  go_wp2_with fail
  rw [← hwb]
  clear hwb
  refine (HCU.out _ HB0.out).mono ?_
  rintro e w1 ⟨v1, rfl, r1, b1⟩
  have B1 := hide (HB0.out.trans (b1.mono HB0.out.size))
  have HE1 := hide ((b1.block _ (heap_lt HBE.out)).trans HBE.out)
  have HK1 := hide ((b1.block _ (heap_lt HBK.out)).trans HBK.out)
  cases hc : cutD fs qs wh ls with
  | none =>
    have hno : behOk fs qs wh ls room = false := by unfold behOk; rw [hc]
    rw [hc] at r1
    obtain ⟨a1, c1, rfl, -⟩ := rowF_at r1
    clear r1 b1
    obtain ⟨wD, hwD⟩ : ∃ wD, wD = w1.alloc (.cells #[.slice a1 0 c1] 31) := ⟨_, rfl⟩
    have bD : Below w1.heap.size w1 wD := by rw [hwD]; exact (Below.refl _ _).alloc (Nat.le_refl _) _
    have BD := hide (B1.out.trans (bD.mono B1.out.size))
    have HED := hide ((bD.block _ (heap_lt HE1.out)).trans HE1.out)
    clear bD
    obtain ⟨z0, z1, z2, z3, z4, f0, f1, f2, f3, f4⟩ := five_cells HED.out
    subst hwD
    simp only [Option.isSome_none, Option.getD_none, List.length_nil]
    go_wp2
    clear z0 z1 z2 z3 z4 f0 f1 f2 f3 f4
    obtain ⟨y0, y1, y2⟩ := box5 (.slice none 0 0) (.int .i64 0) (.int .i64 0) (.int .i64 0) (.slice none 0 0) HED.out BD.out (Nat.le_succ _) _ rfl
    obtain ⟨x0, x1, x2, x3, x4, -⟩ := five_cells y0
    refine bodyPost_ret (v := .tuple #[.agg #[.slice none 0 0, .int .i64 0, .int .i64 0, .int .i64 0, .slice none 0 0], .bool false]) ?_ rfl ?_
    · simp [results, Tryz.results16, go_sem, x0, x1, x2, x3, x4]
    · exact beh_no hno y1
  | some g =>
    have HG := hide hc
    rw [hc] at r1
    obtain ⟨a1, c1, rfl, hf1⟩ := rowF_at r1
    obtain ⟨hg1, hg2⟩ := cut_small hc
    obtain ⟨wD, hwD⟩ : ∃ wD, wD = w1.alloc (.cells #[.slice a1 g.length c1] 31) := ⟨_, rfl⟩
    have bD : Below w1.heap.size w1 wD := by rw [hwD]; exact (Below.refl _ _).alloc (Nat.le_refl _) _
    have BD := hide (B1.out.trans (bD.mono B1.out.size))
    have HED := hide ((bD.block _ (heap_lt HE1.out)).trans HE1.out)
    have HKD := hide ((bD.block _ (heap_lt HK1.out)).trans HK1.out)
    have HOE := hide (specOpenEngine_any g a1 c1 room wD (by omega) (filesAt_keep hf1 bD) hg2)
    clear r1 b1 hf1 hg2 bD
    obtain ⟨hx0, hx1, hx2, hx3, hx4, -⟩ := five_cells HKD.out
    simp only [Option.isSome_some, Option.getD_some]
    subst hwD
    go_wp2_with fail
    refine HOE.out.mono ?_
    rintro e w2 ⟨b2, ⟨hsm, vd, vr, va, rfl, hrd, hrs, hra⟩ | ⟨hsm, va, rfl, hra⟩⟩
    · have hlf : (actsF g (actsS g)).1.length ≤ 1048576 := actsF_len _ _ (by omega)
      have hld : (dirD g).length ≤ 1048576 := by have := dirD_len g; omega
      obtain ⟨a2, c2, rfl, hF2⟩ := rowF_at hrd
      obtain ⟨d2, e2, rfl, hD2⟩ := rowSpot_at hrs
      have B2 := hide (BD.out.trans (b2.mono BD.out.size))
      have HE2 := hide ((b2.block _ (heap_lt HED.out)).trans HED.out)
      have HF2 := hide hF2
      have HD2 := hide hD2
      clear b2 hrd hrs hF2 hD2
      generalize hFx : (actsF g (actsS g)).1 = Fx at HF2 hlf ⊢
      generalize hLn : ((lastG g).num : Int) = Ln
      generalize hSq : seqD (segsL g) = Sq
      generalize hDx : dirD g = Dx at HD2 hld ⊢
      obtain ⟨wE, hwE⟩ : ∃ wE, wE = w2.alloc (.cells #[.slice a2 Fx.length c2, .int .i64 room, .int .i64 Ln, .int .i64 Sq, .slice d2 Dx.length e2] 34) := ⟨_, rfl⟩
      have bE : Below w2.heap.size w2 wE := by rw [hwE]; exact (Below.refl _ _).alloc (Nat.le_refl _) _
      have BE := hide (B2.out.trans (bE.mono B2.out.size))
      have HEE := hide ((bE.block _ (heap_lt HE2.out)).trans HE2.out)
      have HKE : Hid (wE.heap[w2.heap.size]? = some (.cells #[.slice a2 Fx.length c2, .int .i64 room, .int .i64 Ln, .int .i64 Sq, .slice d2 Dx.length e2] 34 (0, 0))) := by rw [hwE]; exact heap_alloc_new _ _
      have HCO := hide (l08Copy_any Fx a2 d2 c2 e2 room Ln Sq Dx wE hlf (filesAt_keep HF2.out bE) hld (spotsAt_keep HD2.out bE))
      clear bE
      obtain ⟨z0, z1, z2, z3, z4, -⟩ := five_cells HKE.out
      subst hwE
      go_wp2_with fail
      refine HCO.out.mono ?_
      rintro e w3 ⟨⟨vd3, vr3, rfl, hrd3, hrs3⟩, b3⟩
      obtain ⟨a3, c3, rfl, -⟩ := rowF_at hrd3
      obtain ⟨d3, e3, rfl, -⟩ := rowSpot_at hrs3
      have B3 := hide (BE.out.trans (b3.mono BE.out.size))
      have HE3 := hide ((b3.block _ (heap_lt HEE.out)).trans HEE.out)
      have HR3 := hide (rowF_le hrd3 BE.out.size)
      have HS3 := hide (rowSpot_le hrs3 BE.out.size)
      clear b3 hrd3 hrs3 z0 z1 z2 z3 z4
      obtain ⟨z0, z1, z2, z3, z4, f0, f1, f2, f3, f4⟩ := five_cells HE3.out
      go_wp2
      clear z0 z1 z2 z3 z4 f0 f1 f2 f3 f4
      obtain ⟨y0, y1, y2⟩ := box5 (.slice a3 Fx.length c3) (.int .i64 room) (.int .i64 Ln) (.int .i64 Sq) (.slice d3 Dx.length e3) HE3.out B3.out (Nat.le_succ _) _ rfl
      obtain ⟨x0, x1, x2, x3, x4, -⟩ := five_cells y0
      refine bodyPost_ret (v := .tuple #[.agg #[.slice a3 Fx.length c3, .int .i64 room, .int .i64 Ln, .int .i64 Sq, .slice d3 Dx.length e3], .bool true]) ?_ rfl ?_
      · simp [results, Tryz.results16, go_sem, x0, x1, x2, x3, x4]
      · subst hFx hLn hSq hDx
        exact beh_yes HG.out hsm y1 (files_box HR3.out HE3.out y2) (spots_box HS3.out HE3.out y2)
    · have hno : behOk fs qs wh ls room = false := by unfold behOk; rw [hc]; exact hsm
      have B2 := hide (BD.out.trans (b2.mono BD.out.size))
      have HE2 := hide ((b2.block _ (heap_lt HED.out)).trans HED.out)
      obtain ⟨av, cv, rfl⟩ := slice_form hra
      clear b2 hra
      obtain ⟨wE, hwE⟩ : ∃ wE, wE = w2.alloc (.cells #[.slice none 0 0, .int .i64 0, .int .i64 0, .int .i64 0, .slice none 0 0] 34) := ⟨_, rfl⟩
      have bE : Below w2.heap.size w2 wE := by rw [hwE]; exact (Below.refl _ _).alloc (Nat.le_refl _) _
      have BE := hide (B2.out.trans (bE.mono B2.out.size))
      have HEE := hide ((bE.block _ (heap_lt HE2.out)).trans HE2.out)
      clear bE
      obtain ⟨z0, z1, z2, z3, z4, f0, f1, f2, f3, f4⟩ := five_cells HEE.out
      subst hwE
      go_wp2
      clear z0 z1 z2 z3 z4 f0 f1 f2 f3 f4
      obtain ⟨y0, y1, y2⟩ := box5 (.slice none 0 0) (.int .i64 0) (.int .i64 0) (.int .i64 0) (.slice none 0 0) HEE.out BE.out (Nat.le_succ _) _ rfl
      obtain ⟨x0, x1, x2, x3, x4, -⟩ := five_cells y0
      refine bodyPost_ret (v := .tuple #[.agg #[.slice none 0 0, .int .i64 0, .int .i64 0, .int .i64 0, .slice none 0 0], .bool false]) ?_ rfl ?_
      · simp [results, Tryz.results16, go_sem, x0, x1, x2, x3, x4]
      · exact beh_no hno y1
theorem rowF_rowsE {w : World} {B n c : Nat} {a : Option Addr} {fs : List FileD} (h : RowF w B (.slice a n c) fs) : FilesAt w a fs := by
  obtain ⟨ao, cap, e, hf⟩ := rowF_at h
  cases e
  exact hf
theorem szFs_le3 : ∀ (fs : List FileD) (n : Int), 0 ≤ n → szFs fs n ≤ n
  | [], _, _ => Int.le_refl _
  | F :: r, n, h => by
    unfold szFs
    split
    · omega
    · have := szF_le F n h
      have := szFs_le3 r (szF F n) (by omega)
      omega
theorem toEngine_row (fs : List FileD) (ao ad : Option Addr) (cap cd : Nat) (room act seq : Int) (dir : List SpotD) (w : World) (hl : fs.length ≤ 1048576) (hfs : FilesAt w ao fs) (hld : dir.length ≤ 1048576) (hds : SpotsAt w ad dir) :
    Calls Tryz.prog 7 #[.agg #[.slice ao fs.length cap, .int .i64 room, .int .i64 act, .int .i64 seq, .slice ad dir.length cd]] w fun e w' => (∃ a1 a2 : Option Addr, e = .returned (.agg #[.slice a1 fs.length fs.length, .int .i64 room, .int .i64 act, .int .i64 seq, .slice a2 dir.length dir.length]) ∧ RowF w' w.heap.size (.slice a1 fs.length fs.length) fs ∧ RowSpot w' w.heap.size (.slice a2 dir.length dir.length) dir) ∧ Below w.heap.size w w' := by
  have HF := hide hfs
  have HD := hide hds
  clear hfs hds
  obtain ⟨wb, hwb⟩ : ∃ wb, wb = ((w.alloc (.cells #[.slice ao fs.length cap, .int .i64 room, .int .i64 act, .int .i64 seq, .slice ad dir.length cd] 27)).alloc (.cells #[.slice none 0 0, .int .i64 0, .int .i64 0, .int .i64 0, .slice none 0 0] 34)).alloc (.cells #[.slice none 0 0, .int .i64 0, .int .i64 0, .int .i64 0, .slice none 0 0] 34) := ⟨_, rfl⟩
  have HB0 : Hid (Below w.heap.size w wb) := by rw [hwb]; exact (((Below.refl _ w).alloc (Nat.le_refl _) _).alloc (by simp) _).alloc (by simp; omega) _
  have hbs : wb.heap.size = w.heap.size + 3 := by rw [hwb]; simp
  have HBA : Hid (wb.heap[w.heap.size]? = some (.cells #[.slice ao fs.length cap, .int .i64 room, .int .i64 act, .int .i64 seq, .slice ad dir.length cd] 27 (0, 0))) := by
    show _ = _
    rw [hwb]
    exact (Below.heap_alloc _ _ _ (by simp; omega)).trans ((Below.heap_alloc _ _ _ (by simp)).trans (heap_alloc_new w _))
  have HB1 : Hid (wb.heap[w.heap.size + 1]? = some (.cells #[.slice none 0 0, .int .i64 0, .int .i64 0, .int .i64 0, .slice none 0 0] 34 (0, 0))) := by
    show _ = _
    rw [hwb]
    refine (Below.heap_alloc _ _ _ (by simp)).trans ?_
    have := heap_alloc_new (w.alloc (.cells #[.slice ao fs.length cap, .int .i64 room, .int .i64 act, .int .i64 seq, .slice ad dir.length cd] 27)) (.cells #[.slice none 0 0, .int .i64 0, .int .i64 0, .int .i64 0, .slice none 0 0] 34)
    rwa [World.size_alloc] at this
  have HB2 : Hid (wb.heap[w.heap.size + 1 + 1]? = some (.cells #[.slice none 0 0, .int .i64 0, .int .i64 0, .int .i64 0, .slice none 0 0] 34 (0, 0))) := by
    show _ = _
    rw [hwb]
    have := heap_alloc_new ((w.alloc (.cells #[.slice ao fs.length cap, .int .i64 room, .int .i64 act, .int .i64 seq, .slice ad dir.length cd] 27)).alloc (.cells #[.slice none 0 0, .int .i64 0, .int .i64 0, .int .i64 0, .slice none 0 0] 34)) (.cells #[.slice none 0 0, .int .i64 0, .int .i64 0, .int .i64 0, .slice none 0 0] 34)
    rwa [World.size_alloc, World.size_alloc] at this
  obtain ⟨ha0, ha1, ha2, ha3, ha4, -⟩ := five_cells HBA.out
  go_enter Tryz.func7, Tryz.ntmps7
  go_wp2_with fail
  rw [← hwb]
  clear hwb
  go_wp2_with fail
  refine (toDisk_any fs ao cap _ hl (filesAt_keep HF.out HB0.out)).mono ?_
  rintro e w1 ⟨⟨g1, C1, rfl, hg1, hC1, hCs1, hI1⟩, b1⟩
  have BB1 := hide b1
  have HF1 := hide (filesAt_own hC1 hI1)
  have hw1 : wb.heap.size ≤ w1.heap.size := b1.size
  have HA1 := hide ((b1.block _ (heap_lt HBA.out)).trans HBA.out)
  have H11 := hide ((b1.block _ (heap_lt HB1.out)).trans HB1.out)
  have H12 := hide ((b1.block _ (heap_lt HB2.out)).trans HB2.out)
  obtain ⟨hy0, hy1, hy2, hy3, hy4, -⟩ := five_cells HA1.out
  obtain ⟨hx0, hx1, hx2, hx3, hx4, hf0, hf1, hf2, hf3, hf4⟩ := five_cells H12.out
  have HC1 := hide hC1
  have HI1 := hide hI1
  clear b1 hC1 hI1 ha0 ha1 ha2 ha3 ha4
  obtain ⟨W4, hW4⟩ : ∃ W, W = (((w1.setCell ⟨w.heap.size + 1 + 1, 0, none⟩ (.slice (some ⟨g1, 0, none⟩) fs.length fs.length)).setCell ⟨w.heap.size + 1 + 1, 1, none⟩ (.int .i64 room)).setCell ⟨w.heap.size + 1 + 1, 2, none⟩ (.int .i64 act)).setCell ⟨w.heap.size + 1 + 1, 3, none⟩ (.int .i64 seq) := ⟨_, rfl⟩
  have G4 : Hid (w1.grownBy W4 (some (w.heap.size + 1 + 1))) := by rw [hW4]; exact grownBy_store (grownBy_store (grownBy_store (grownBy_store (World.grownBy.refl w1 _) 0 _) 1 _) 2 _) 3 _
  have H42 : Hid (W4.heap[w.heap.size + 1 + 1]? = some (.cells #[.slice (some ⟨g1, 0, none⟩) fs.length fs.length, .int .i64 room, .int .i64 act, .int .i64 seq, .slice none 0 0] 34 (0, 0))) := by
    have c0 := (heap_setCell_same w1 (w.heap.size + 1 + 1) 0 _ _ (.slice (some ⟨g1, 0, none⟩) fs.length fs.length) H12.out).trans rfl
    have c1 := (heap_setCell_same _ (w.heap.size + 1 + 1) 1 _ _ (.int .i64 room) c0).trans rfl
    have c2 := (heap_setCell_same _ (w.heap.size + 1 + 1) 2 _ _ (.int .i64 act) c1).trans rfl
    have c3 := (heap_setCell_same _ (w.heap.size + 1 + 1) 3 _ _ (.int .i64 seq) c2).trans rfl
    rw [hW4]
    show _ = _
    rw [c3]
    rfl
  have H41 := hide ((G4.out.block _ (heap_lt H11.out) (by simp)).trans H11.out)
  have HC4 := hide ((G4.out.block _ (heap_lt HC1.out) (by simp; omega)).trans HC1.out)
  have B04 : Hid (Below w.heap.size w W4) := (HB0.out.trans (BB1.out.mono HB0.out.size)).grown G4.out (by have := HB0.out.size; omega) (fun k hk => by cases hk; omega)
  have hs4 : w1.heap.size ≤ W4.heap.size := G4.out.size
  go_wp2_with fail
  rw [← hW4]
  clear hW4 hy0 hy1 hy2 hy3 hy4 hx0 hx1 hx2 hx3 hx4 hf0 hf1 hf2 hf3 hf4
  refine (toSpotS_any dir ad cd _ hld (spotsAt_keep HD.out B04.out)).mono ?_
  rintro e w2 ⟨⟨C2, rfl, hC2, hCs2, hI2⟩, b2⟩
  have B02 := hide (B04.out.trans (b2.mono B04.out.size))
  have HS2 := hide hC2
  have HI2 := hide hI2
  have H22 := hide ((b2.block _ (heap_lt H42.out)).trans H42.out)
  have H21 := hide ((b2.block _ (heap_lt H41.out)).trans H41.out)
  have HC2' := hide ((b2.block _ (heap_lt HC4.out)).trans HC4.out)
  have hs2 := b2.size
  obtain ⟨hx0, hx1, hx2, hx3, hx4, hf0, hf1, hf2, hf3, hf4⟩ := five_cells H22.out
  clear b2 hC2 hI2
  obtain ⟨W5, hW5⟩ : ∃ W, W = w2.setCell ⟨w.heap.size + 1 + 1, 4, none⟩ (.slice (some ⟨W4.heap.size, 0, none⟩) dir.length dir.length) := ⟨_, rfl⟩
  have G5 : Hid (w2.grownBy W5 (some (w.heap.size + 1 + 1))) := by rw [hW5]; exact grownBy_store (World.grownBy.refl w2 _) 4 _
  have H52 : Hid (W5.heap[w.heap.size + 1 + 1]? = some (.cells #[.slice (some ⟨g1, 0, none⟩) fs.length fs.length, .int .i64 room, .int .i64 act, .int .i64 seq, .slice (some ⟨W4.heap.size, 0, none⟩) dir.length dir.length] 34 (0, 0))) := by
    have c0 := (heap_setCell_same w2 (w.heap.size + 1 + 1) 4 _ _ (.slice (some ⟨W4.heap.size, 0, none⟩) dir.length dir.length) H22.out).trans rfl
    rw [hW5]
    show _ = _
    rw [c0]
    rfl
  have H51 := hide ((G5.out.block _ (heap_lt H21.out) (by simp)).trans H21.out)
  have HC5 := hide ((G5.out.block _ (heap_lt HC2'.out) (by simp; omega)).trans HC2'.out)
  have HS5 := hide ((G5.out.block _ (heap_lt HS2.out) (by simp; omega)).trans HS2.out)
  have B05 : Hid (Below w.heap.size w W5) := B02.out.grown G5.out (by have := B02.out.size; omega) (fun k hk => by cases hk; omega)
  obtain ⟨hv0, hv1, hv2, hv3, hv4, -⟩ := five_cells H52.out
  obtain ⟨hu0, hu1, hu2, hu3, hu4, hk0, hk1, hk2, hk3, hk4⟩ := five_cells H51.out
  subst hW5
  go_wp2
  obtain ⟨y0, y1, y2⟩ := box5 (.slice (some ⟨g1, 0, none⟩) fs.length fs.length) (.int .i64 room) (.int .i64 act) (.int .i64 seq) (.slice (some ⟨W4.heap.size, 0, none⟩) dir.length dir.length) H51.out B05.out (Nat.le_succ _) _ rfl
  obtain ⟨x0, x1, x2, x3, x4, -⟩ := five_cells y0
  refine bodyPost_ret (v := .agg #[.slice (some ⟨g1, 0, none⟩) fs.length fs.length, .int .i64 room, .int .i64 act, .int .i64 seq, .slice (some ⟨W4.heap.size, 0, none⟩) dir.length dir.length]) ?_ rfl ?_
  · simp [results, Tryz.results7, go_sem, x0, x1, x2, x3, x4]
  · exact ⟨⟨_, _, rfl, .inr ⟨g1, fs.length, C1, rfl, by omega, (y2.block _ (heap_lt HC5.out) (by simp; omega)).trans HC5.out, by omega, HI1.out⟩, .inr ⟨W4.heap.size, dir.length, C2, rfl, by omega, (y2.block _ (heap_lt HS5.out) (by simp; omega)).trans HS5.out, by omega, HI2.out⟩⟩, y1⟩
theorem toEngine_any (fs : List FileD) (ao ad : Option Addr) (cap cd : Nat) (room act seq : Int) (dir : List SpotD) (w : World) (hl : fs.length ≤ 1048576) (hfs : FilesAt w ao fs) (hld : dir.length ≤ 1048576) (hds : SpotsAt w ad dir) :
    Calls Tryz.prog 7 #[.agg #[.slice ao fs.length cap, .int .i64 room, .int .i64 act, .int .i64 seq, .slice ad dir.length cd]] w fun e w' => (∃ a1 a2 : Option Addr, e = .returned (.agg #[.slice a1 fs.length fs.length, .int .i64 room, .int .i64 act, .int .i64 seq, .slice a2 dir.length dir.length]) ∧ FilesAt w' a1 fs ∧ SpotsAt w' a2 dir) ∧ Below w.heap.size w w' := by
  refine (toEngine_row fs ao ad cap cd room act seq dir w hl hfs hld hds).mono ?_
  rintro e w' ⟨⟨a1, a2, h1, h2, h3⟩, h4⟩
  refine ⟨⟨a1, a2, h1, ?_, rowSpot_rows h3⟩, h4⟩
  obtain ⟨ao', cap', e', hf⟩ := rowF_at h2
  cases e'
  exact hf
theorem eqEngine_same (fs : List FileD) (a1 a2 d1 d2 : Option Addr) (c1 c2 e1 e2 : Nat) (room act seq : Int) (dir : List SpotD) (w : World) (hl : fs.length ≤ maxLen) (h1 : FilesAt w a1 fs) (h2 : FilesAt w a2 fs) (hld : dir.length ≤ maxLen) (h3 : SpotsAt w d1 dir) (h4 : SpotsAt w d2 dir) :
    Calls Tryz.prog 9 #[.agg #[.slice a1 fs.length c1, .int .i64 room, .int .i64 act, .int .i64 seq, .slice d1 dir.length e1], .agg #[.slice a2 fs.length c2, .int .i64 room, .int .i64 act, .int .i64 seq, .slice d2 dir.length e2]] w fun e w' => e = .returned (.bool true) ∧ Below w.heap.size w w' := by
  have H1 := hide h1
  have H2 := hide h2
  have H3 := hide h3
  have H4 := hide h4
  clear h1 h2 h3 h4
  obtain ⟨wb, hwb⟩ : ∃ wb, wb = (w.alloc (.cells #[.slice a1 fs.length c1, .int .i64 room, .int .i64 act, .int .i64 seq, .slice d1 dir.length e1] 34)).alloc (.cells #[.slice a2 fs.length c2, .int .i64 room, .int .i64 act, .int .i64 seq, .slice d2 dir.length e2] 34) := ⟨_, rfl⟩
  have HB0 : Hid (Below w.heap.size w wb) := by rw [hwb]; exact ((Below.refl _ w).alloc (Nat.le_refl _) _).alloc (by simp) _
  have HBA : Hid (wb.heap[w.heap.size]? = some (.cells #[.slice a1 fs.length c1, .int .i64 room, .int .i64 act, .int .i64 seq, .slice d1 dir.length e1] 34 (0, 0))) := by
    show _ = _
    rw [hwb]
    exact (Below.heap_alloc _ _ _ (by simp)).trans (heap_alloc_new w _)
  have HBB : Hid (wb.heap[w.heap.size + 1]? = some (.cells #[.slice a2 fs.length c2, .int .i64 room, .int .i64 act, .int .i64 seq, .slice d2 dir.length e2] 34 (0, 0))) := by
    show _ = _
    rw [hwb]
    have := heap_alloc_new (w.alloc (.cells #[.slice a1 fs.length c1, .int .i64 room, .int .i64 act, .int .i64 seq, .slice d1 dir.length e1] 34)) (.cells #[.slice a2 fs.length c2, .int .i64 room, .int .i64 act, .int .i64 seq, .slice d2 dir.length e2] 34)
    rwa [World.size_alloc] at this
  go_enter Tryz.func9, Tryz.ntmps9
  go_wp2_with fail
  rw [← hwb]
  clear hwb
  refine (eqDisk_same fs a1 a2 c1 c2 _ hl (filesAt_keep H1.out HB0.out) (filesAt_keep H2.out HB0.out)).mono ?_
  rintro e w1 ⟨rfl, b1⟩
  have B1 := hide (HB0.out.trans (b1.mono HB0.out.size))
  obtain ⟨hy0, hy1, hy2, hy3, hy4, -⟩ := five_cells ((b1.block _ (heap_lt HBA.out)).trans HBA.out)
  obtain ⟨hx0, hx1, hx2, hx3, hx4, -⟩ := five_cells ((b1.block _ (heap_lt HBB.out)).trans HBB.out)
  have hn1 : (room != room) = false := by simp
  have hn2 : (act != act) = false := by simp
  have hn3 : (seq != seq) = false := by simp
  clear b1
  go_wp2_with fail
  refine (eqSpotS_same dir d1 d2 e1 e2 _ hld (spotsAt_keep H3.out B1.out) (spotsAt_keep H4.out B1.out)).mono ?_
  rintro e w2 ⟨rfl, b2⟩
  go_wp2
  go_ret
  exact ⟨rfl, B1.out.trans (b2.mono B1.out.size)⟩
end Go.Proofs.YtlcfblodflgleaaGreatDoor
