/- The specification's Behind. -/
import Derived.Test.YtmmchemgegmhhaaGreatDoorBehS0
import Derived.Test.YtmmchemgegmhhaaGreatDoorBehI
import Derived.Test.YtmmchemgegmhhaaGreatDoorCutSO
namespace Go.Proofs.YtmmchemgegmhhaaGreatDoor
open Go.RowKit

set_option maxRecDepth 100000 in
set_option maxHeartbeats 3200000 in
theorem specBehind_any (fs : List FileD) (ao ad : Option Addr) (cap dl cd : Nat) (room act seq : Int) (qs : List ActD) (ba offa capa : Nat) (wh : Int) (ls : List Int) (al : Option Addr) (capl : Nat) (w : World) (hl : fs.length ≤ 1048576) (hfs : FilesAt w ao fs) (hsz : ∀ F ∈ fs, F.name.size ≤ 1048576 ∧ F.text.size ≤ 1048576)
    (hla : qs.length ≤ 1048576) (has : ActsAt w (some ⟨ba, offa, none⟩) qs) (hsa : ∀ A ∈ qs, A.name.size ≤ 1048576 ∧ A.text.size ≤ 1048576 ∧ A.toN.size ≤ 1048576) (hls : IntsAt w al ls) (hca : qs.length ≤ capa) :
    Calls Tryz.prog 29 #[.agg #[.slice ao fs.length cap, .int .i64 room, .int .i64 act, .int .i64 seq, .slice ad dl cd], .slice (some ⟨ba, offa, none⟩) qs.length capa, .int .i64 wh, .slice al ls.length capl] w fun e w' => BehPost fs qs wh ls room w e w' := by
  have HCU := hide (fun W hW => specCutO_any fs ao cap qs ba offa capa wh ls al capl W hl (filesAt_keep hfs hW) hsz hla (actsAt_keep has hW) hsa (intsAt_keep hls hW) hca)
  clear hfs hsz has hsa hls
  obtain ⟨wb, hwb⟩ : ∃ wb, wb = (w.alloc (.cells #[.slice ao fs.length cap, .int .i64 room, .int .i64 act, .int .i64 seq, .slice ad dl cd] 30)).alloc (.cells #[.slice none 0 0, .int .i64 0, .int .i64 0, .int .i64 0, .slice none 0 0] 30) := ⟨_, rfl⟩
  have HB0 : Hid (Below w.heap.size w wb) := by rw [hwb]; exact ((Below.refl _ w).alloc (Nat.le_refl _) _).alloc (by simp) _
  have HBE : Hid (wb.heap[w.heap.size + 1]? = some (.cells #[.slice none 0 0, .int .i64 0, .int .i64 0, .int .i64 0, .slice none 0 0] 30 (0, 0))) := by
    show _ = _
    rw [hwb, show w.heap.size + 1 = (w.alloc (.cells #[.slice ao fs.length cap, .int .i64 room, .int .i64 act, .int .i64 seq, .slice ad dl cd] 30)).heap.size from by simp]
    exact heap_alloc_new _ _
  have HBK : Hid (wb.heap[w.heap.size]? = some (.cells #[.slice ao fs.length cap, .int .i64 room, .int .i64 act, .int .i64 seq, .slice ad dl cd] 30 (0, 0))) := by
    show _ = _
    rw [hwb]
    exact (((Below.refl _ _).alloc (Nat.le_refl _) _).block _ (by simp)).trans (heap_alloc_new w _)
  obtain ⟨hz0, hz1, hz2, hz3, hz4, -⟩ := five_cells HBK.out
  go_enter Tryz.func29, Tryz.ntmps29
  go_wp2_with fail
  rw [← hwb]
  clear hwb
  refine (HCU.out _ HB0.out).mono ?_
  rintro e w1 ⟨v1, rfl, r1, b1⟩
  have B1 := hide (HB0.out.trans (b1.mono HB0.out.size))
  have HE1 := hide ((b1.block _ (heap_lt HBE.out)).trans HBE.out)
  have HK1 := hide ((b1.block _ (heap_lt HBK.out)).trans HBK.out)
  cases hc : cutD fs qs wh ls with
  | none =>
    have hno : behOk fs qs wh ls room = false := by unfold behOk; rw [hc]
    rw [hc] at r1
    obtain ⟨a1, c1, rfl, -⟩ := rowF_at r1
    clear r1 b1
    obtain ⟨wD, hwD⟩ : ∃ wD, wD = w1.alloc (.cells #[.slice a1 0 c1] 27) := ⟨_, rfl⟩
    have bD : Below w1.heap.size w1 wD := by rw [hwD]; exact (Below.refl _ _).alloc (Nat.le_refl _) _
    have BD := hide (B1.out.trans (bD.mono B1.out.size))
    have HED := hide ((bD.block _ (heap_lt HE1.out)).trans HE1.out)
    clear bD
    obtain ⟨z0, z1, z2, z3, z4, f0, f1, f2, f3, f4⟩ := five_cells HED.out
    subst hwD
    simp only [Option.isSome_none, Option.getD_none, List.length_nil]
    go_wp2
    clear z0 z1 z2 z3 z4 f0 f1 f2 f3 f4
    obtain ⟨y0, y1, y2⟩ := box5 (.slice none 0 0) (.int .i64 0) (.int .i64 0) (.int .i64 0) (.slice none 0 0) HED.out BD.out (Nat.le_succ _) _ rfl
    obtain ⟨x0, x1, x2, x3, x4, -⟩ := five_cells y0
    refine bodyPost_ret (v := .tuple #[.agg #[.slice none 0 0, .int .i64 0, .int .i64 0, .int .i64 0, .slice none 0 0], .bool false]) ?_ rfl ?_
    · simp [results, Tryz.results29, go_sem, x0, x1, x2, x3, x4]
    · exact beh_no hno y1
  | some g =>
    have HG := hide hc
    rw [hc] at r1
    obtain ⟨a1, c1, rfl, hf1⟩ := rowF_at r1
    obtain ⟨hg1, hg2⟩ := cut_small hc
    obtain ⟨wD, hwD⟩ : ∃ wD, wD = w1.alloc (.cells #[.slice a1 g.length c1] 27) := ⟨_, rfl⟩
    have bD : Below w1.heap.size w1 wD := by rw [hwD]; exact (Below.refl _ _).alloc (Nat.le_refl _) _
    have BD := hide (B1.out.trans (bD.mono B1.out.size))
    have HED := hide ((bD.block _ (heap_lt HE1.out)).trans HE1.out)
    have HKD := hide ((bD.block _ (heap_lt HK1.out)).trans HK1.out)
    have HOE := hide (specOpenEngine_any g a1 c1 room wD (by omega) (filesAt_keep hf1 bD) hg2)
    clear r1 b1 hf1 hg2 bD
    obtain ⟨hx0, hx1, hx2, hx3, hx4, -⟩ := five_cells HKD.out
    simp only [Option.isSome_some, Option.getD_some]
    subst hwD
    go_wp2_with fail
    refine HOE.out.mono ?_
    rintro e w2 ⟨b2, ⟨hsm, vd, vr, va, rfl, hrd, hrs, hra⟩ | ⟨hsm, va, rfl, hra⟩⟩
    · have hlf : (actsF g (actsS g)).1.length ≤ 1048576 := actsF_len _ _ (by omega)
      have hld : (dirD g).length ≤ 1048576 := by have := dirD_len g; omega
      obtain ⟨a2, c2, rfl, hF2⟩ := rowF_at hrd
      obtain ⟨d2, e2, rfl, hD2⟩ := rowSpot_at hrs
      have B2 := hide (BD.out.trans (b2.mono BD.out.size))
      have HE2 := hide ((b2.block _ (heap_lt HED.out)).trans HED.out)
      have HF2 := hide hF2
      have HD2 := hide hD2
      clear b2 hrd hrs hF2 hD2
      generalize hFx : (actsF g (actsS g)).1 = Fx at HF2 hlf ⊢
      generalize hLn : ((lastG g).num : Int) = Ln
      generalize hSq : seqD (segsL g) = Sq
      generalize hDx : dirD g = Dx at HD2 hld ⊢
      obtain ⟨wE, hwE⟩ : ∃ wE, wE = w2.alloc (.cells #[.slice a2 Fx.length c2, .int .i64 room, .int .i64 Ln, .int .i64 Sq, .slice d2 Dx.length e2] 30) := ⟨_, rfl⟩
      have bE : Below w2.heap.size w2 wE := by rw [hwE]; exact (Below.refl _ _).alloc (Nat.le_refl _) _
      have BE := hide (B2.out.trans (bE.mono B2.out.size))
      have HEE := hide ((bE.block _ (heap_lt HE2.out)).trans HE2.out)
      have HKE : Hid (wE.heap[w2.heap.size]? = some (.cells #[.slice a2 Fx.length c2, .int .i64 room, .int .i64 Ln, .int .i64 Sq, .slice d2 Dx.length e2] 30 (0, 0))) := by rw [hwE]; exact heap_alloc_new _ _
      have HCO := hide (l08Copy_any Fx a2 d2 c2 e2 room Ln Sq Dx wE hlf (filesAt_keep HF2.out bE) hld (spotsAt_keep HD2.out bE))
      clear bE
      obtain ⟨z0, z1, z2, z3, z4, -⟩ := five_cells HKE.out
      subst hwE
      go_wp2_with fail
      refine HCO.out.mono ?_
      rintro e w3 ⟨⟨vd3, vr3, rfl, hrd3, hrs3⟩, b3⟩
      obtain ⟨a3, c3, rfl, -⟩ := rowF_at hrd3
      obtain ⟨d3, e3, rfl, -⟩ := rowSpot_at hrs3
      have B3 := hide (BE.out.trans (b3.mono BE.out.size))
      have HE3 := hide ((b3.block _ (heap_lt HEE.out)).trans HEE.out)
      have HR3 := hide (rowF_le hrd3 BE.out.size)
      have HS3 := hide (rowSpot_le hrs3 BE.out.size)
      clear b3 hrd3 hrs3 z0 z1 z2 z3 z4
      obtain ⟨z0, z1, z2, z3, z4, f0, f1, f2, f3, f4⟩ := five_cells HE3.out
      go_wp2
      clear z0 z1 z2 z3 z4 f0 f1 f2 f3 f4
      obtain ⟨y0, y1, y2⟩ := box5 (.slice a3 Fx.length c3) (.int .i64 room) (.int .i64 Ln) (.int .i64 Sq) (.slice d3 Dx.length e3) HE3.out B3.out (Nat.le_succ _) _ rfl
      obtain ⟨x0, x1, x2, x3, x4, -⟩ := five_cells y0
      refine bodyPost_ret (v := .tuple #[.agg #[.slice a3 Fx.length c3, .int .i64 room, .int .i64 Ln, .int .i64 Sq, .slice d3 Dx.length e3], .bool true]) ?_ rfl ?_
      · simp [results, Tryz.results29, go_sem, x0, x1, x2, x3, x4]
      · subst hFx hLn hSq hDx
        exact beh_yes HG.out hsm y1 (files_box HR3.out HE3.out y2) (spots_box HS3.out HE3.out y2)
    · have hno : behOk fs qs wh ls room = false := by unfold behOk; rw [hc]; exact hsm
      have B2 := hide (BD.out.trans (b2.mono BD.out.size))
      have HE2 := hide ((b2.block _ (heap_lt HED.out)).trans HED.out)
      obtain ⟨av, cv, rfl⟩ := slice_form hra
      clear b2 hra
      obtain ⟨wE, hwE⟩ : ∃ wE, wE = w2.alloc (.cells #[.slice none 0 0, .int .i64 0, .int .i64 0, .int .i64 0, .slice none 0 0] 30) := ⟨_, rfl⟩
      have bE : Below w2.heap.size w2 wE := by rw [hwE]; exact (Below.refl _ _).alloc (Nat.le_refl _) _
      have BE := hide (B2.out.trans (bE.mono B2.out.size))
      have HEE := hide ((bE.block _ (heap_lt HE2.out)).trans HE2.out)
      clear bE
      obtain ⟨z0, z1, z2, z3, z4, f0, f1, f2, f3, f4⟩ := five_cells HEE.out
      subst hwE
      go_wp2
      clear z0 z1 z2 z3 z4 f0 f1 f2 f3 f4
      obtain ⟨y0, y1, y2⟩ := box5 (.slice none 0 0) (.int .i64 0) (.int .i64 0) (.int .i64 0) (.slice none 0 0) HEE.out BE.out (Nat.le_succ _) _ rfl
      obtain ⟨x0, x1, x2, x3, x4, -⟩ := five_cells y0
      refine bodyPost_ret (v := .tuple #[.agg #[.slice none 0 0, .int .i64 0, .int .i64 0, .int .i64 0, .slice none 0 0], .bool false]) ?_ rfl ?_
      · simp [results, Tryz.results29, go_sem, x0, x1, x2, x3, x4]
      · exact beh_no hno y1
end Go.Proofs.YtmmchemgegmhhaaGreatDoor
