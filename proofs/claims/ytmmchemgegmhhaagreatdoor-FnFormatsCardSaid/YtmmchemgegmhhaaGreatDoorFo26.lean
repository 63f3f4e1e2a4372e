import Derived.Deep.RegionLaw
import Derived.Deep.LoopGhost
import Derived.Deep.Cut
import Derived.Deep.CutRange
import Derived.WalkMore
import Derived.WalkSmall
import Derived.Deep.Upon
import Derived.Test.YtmmchemgegmhhaaGreatDoorFo25
import Derived.Test.YtmmchemgegmhhaaGreatDoorFo7
import Derived.Test.YtmmchemgegmhhaaGreatDoorFo6
import Derived.Test.YtmmchemgegmhhaaGreatDoorFo17
import Derived.Test.YtmmchemgegmhhaaGreatDoorFo9
import Derived.Test.YtmmchemgegmhhaaGreatDoorFo20
import Derived.Test.YtmmchemgegmhhaaGreatDoorFo18
import Derived.Test.YtmmchemgegmhhaaGreatDoorFo10
import Derived.Test.YtmmchemgegmhhaaGreatDoorFo4
import Derived.Test.YtmmchemgegmhhaaGreatDoorFo3
import Derived.Test.YtmmchemgegmhhaaGreatDoorFo11
import Derived.Test.YtmmchemgegmhhaaGreatDoorFo22
import Derived.Test.YtmmchemgegmhhaaGreatDoorFo1
set_option maxRecDepth 100000
set_option maxHeartbeats 3200000
namespace Go.Proofs.YtmmchemgegmhhaaGreatDoor
open Go.RowKit Go.Shelf
def sameB (act seq : Int) (dir : List SpotD) (act2 seq2 : Int) (dir2 : List SpotD) : Bool := decide (act = act2) && (decide (seq = seq2) && spotsEq dir dir2)
theorem sameAs_any (vd vd2 : Value) (r act seq r2 act2 seq2 : Int) (dir dir2 : List SpotD) (a1 a2 : Option Addr) (c1 c2 : Nat) (w : World) (b1 : ∃ a n c, vd = .slice a n c) (b2 : ∃ a n c, vd2 = .slice a n c) (hl : dir.length ≤ 1048576) (h1 : SpotsAt w a1 dir) (h2 : SpotsAt w a2 dir2) :
    Calls Tryz.prog 89 #[.agg #[vd, .int .i64 r, .int .i64 act, .int .i64 seq, .slice a1 dir.length c1], .agg #[vd2, .int .i64 r2, .int .i64 act2, .int .i64 seq2, .slice a2 dir2.length c2]] w fun e w' => e = .returned (.bool (sameB act seq dir act2 seq2 dir2)) ∧ Below w.heap.size w w' := by
  obtain ⟨x1, x2, x3, rfl⟩ := b1
  obtain ⟨y1, y2, y3, rfl⟩ := b2
  have H1 := hide h1
  have H2 := hide h2
  clear h1 h2
  by_cases ha : act = act2
  · subst ha
    by_cases hq : seq = seq2
    · subst hq
      have HE : Hid (sameB act seq dir act seq dir2 = spotsEq dir dir2) := by show _ = _; unfold sameB; simp
      rw [HE.out]
      have HEQ := hide (fun W h1 h2 => slicesEqual_any dir dir2 a1 a2 c1 c2 W hl h1 h2)
      generalize spotsEq dir dir2 = R at HEQ
      obtain ⟨wb, hwb⟩ : ∃ wb, wb = (w.alloc (.cells #[.slice x1 x2 x3, .int .i64 r, .int .i64 act, .int .i64 seq, .slice a1 dir.length c1] 30)).alloc (.cells #[.slice y1 y2 y3, .int .i64 r2, .int .i64 act, .int .i64 seq, .slice a2 dir2.length c2] 30) := ⟨_, rfl⟩
      have HB0 : Hid (Below w.heap.size w wb) := by rw [hwb]; exact ((Below.refl _ w).alloc (Nat.le_refl _) _).alloc (by simp) _
      go_enter Tryz.func89, Tryz.ntmps89
      go_wp2_with fail
      rw [← hwb]
      clear hwb
      refine (HEQ.out _ (spotsAt_keep H1.out HB0.out) (spotsAt_keep H2.out HB0.out)).mono ?_
      rintro e w1 ⟨rfl, b1⟩
      go_wp2
      go_ret
      exact ⟨rfl, HB0.out.trans (b1.mono HB0.out.size)⟩
    · have HE : Hid (sameB act seq dir act seq2 dir2 = false) := by show _ = _; unfold sameB; rw [decide_eq_false hq]; simp
      have hq' : (seq == seq2) = false := by rw [beq_eq_false_iff_ne]; exact hq
      rw [HE.out]
      clear hq
      go_enter Tryz.func89, Tryz.ntmps89
      go_wp2
      go_ret
      exact ⟨rfl, ((Below.refl _ w).alloc (Nat.le_refl _) _).alloc (by simp) _⟩
  · have HE : Hid (sameB act seq dir act2 seq2 dir2 = false) := by show _ = _; unfold sameB; rw [decide_eq_false ha]; rfl
    have ha' : (act == act2) = false := by rw [beq_eq_false_iff_ne]; exact ha
    rw [HE.out]
    clear ha
    go_enter Tryz.func89, Tryz.ntmps89
    go_wp2
    go_ret
    exact ⟨rfl, ((Below.refl _ w).alloc (Nat.le_refl _) _).alloc (by simp) _⟩
theorem calm_acts {fs : List FileD} (h : calmB fs = true) : actsI fs = [] := by
  unfold calmB at h
  simpa using h
theorem open_calm {fs : List FileD} {room : Int} (h : calmB fs = true) : openIB fs room = (roomB room && soundB fs) := by
  unfold openIB
  rw [calm_acts h]
  simp [actsF]
theorem eng_not_open {fs : List FileD} {room act seq : Int} {dir : List SpotD} (h : openIB fs room = false) : ¬ engB fs room act seq dir := fun he => by
  rw [open_calm he.2.2.1, he.1, he.2.1] at h
  cases h
theorem open_room {fs : List FileD} {room : Int} (h : openIB fs room = true) : roomB room = true ∧ soundB fs = true := by
  unfold openIB at h
  simp only [Bool.and_eq_true] at h
  exact ⟨h.1, h.2.1⟩
theorem same_iff {act seq act2 seq2 : Int} {dir dir2 : List SpotD} : sameB act seq dir act2 seq2 dir2 = true ↔ act = act2 ∧ seq = seq2 ∧ dir = dir2 := by
  unfold sameB
  simp only [Bool.and_eq_true, decide_eq_true_eq, spotsEq_iff]
def engOkB (fs : List FileD) (room act seq : Int) (dir : List SpotD) : Bool := roomB room && (soundB fs && (calmB fs && sameB ((lastG fs).num : Int) (seqD (segsL fs)) (dirD fs) act seq dir))
theorem engOkB_iff {fs : List FileD} {room act seq : Int} {dir : List SpotD} : engOkB fs room act seq dir = true ↔ engB fs room act seq dir := by
  unfold engOkB engB
  simp only [Bool.and_eq_true, same_iff]
theorem engOkB_yes {fs : List FileD} {room act seq : Int} {dir : List SpotD} (h : engB fs room act seq dir) : engOkB fs room act seq dir = true := engOkB_iff.2 h
theorem engOkB_no {fs : List FileD} {room act seq : Int} {dir : List SpotD} (h : ¬ engB fs room act seq dir) : engOkB fs room act seq dir = false := by
  cases hb : engOkB fs room act seq dir with
  | false => rfl
  | true => exact absurd (engOkB_iff.1 hb) h
theorem StoreAt.below {w w' : World} {B g : Nat} {fs : List FileD} {room : Int} {vd vr vs : Value} (h : StoreAt w B g fs room vd vr vs) (hb : Below w.heap.size w w') : StoreAt w' B g fs room vd vr vs :=
  ⟨(hb.block _ (heap_lt h.blk)).trans h.blk, h.le, rowF_below h.disk hb, rowSpot_below h.dir hb, buildG_below h.segs hb⟩
theorem StoreAt.mono {w : World} {B B' g : Nat} {fs : List FileD} {room : Int} {vd vr vs : Value} (h : StoreAt w B g fs room vd vr vs) (hB : B' ≤ B) : StoreAt w B' g fs room vd vr vs :=
  ⟨h.blk, Nat.le_trans hB h.le, rowF_le h.disk hB, rowSpot_le h.dir hB, buildG_mono h.segs hB hB⟩
theorem eight_cells {W : World} {g : Nat} {a b c d e f f' f'' : Value} {t : TypeId} (h : W.heap[g]? = some (.cells #[a, b, c, d, e, f, f', f''] t (0, 0))) : W.cell? ⟨g, 0, none⟩ = some a ∧ W.cell? ⟨g, 1, none⟩ = some b ∧ W.cell? ⟨g, 2, none⟩ = some c ∧ W.cell? ⟨g, 3, none⟩ = some d ∧ W.cell? ⟨g, 4, none⟩ = some e ∧ W.cell? ⟨g, 5, none⟩ = some f ∧ W.cell? ⟨g, 6, none⟩ = some f' ∧ W.cell? ⟨g, 7, none⟩ = some f'' ∧ W.frozen? ⟨g, 0, none⟩ = false :=
  ⟨(cell_of_row W g 0 _ _ (0, 0) h).trans rfl, (cell_of_row W g 1 _ _ (0, 0) h).trans rfl, (cell_of_row W g 2 _ _ (0, 0) h).trans rfl, (cell_of_row W g 3 _ _ (0, 0) h).trans rfl, (cell_of_row W g 4 _ _ (0, 0) h).trans rfl, (cell_of_row W g 5 _ _ (0, 0) h).trans rfl, (cell_of_row W g 6 _ _ (0, 0) h).trans rfl, (cell_of_row W g 7 _ _ (0, 0) h).trans rfl, frozen_of_row W g 0 _ _ h⟩
theorem storeOf_any (fs : List FileD) (ao ad : Option Addr) (cap cd : Nat) (room act seq : Int) (dir : List SpotD) (w : World) (hl : fs.length ≤ 1048576) (hfs : FilesAt w ao fs) (hsz : ∀ F ∈ fs, F.name.size ≤ 1048576 ∧ F.text.size ≤ 1048576) (hds : SpotsAt w ad dir) (hT : SumTab w) :
    Calls Tryz.prog 46 #[.agg #[.slice ao fs.length cap, .int .i64 room, .int .i64 act, .int .i64 seq, .slice ad dir.length cd]] w fun e w' => Below w.heap.size w w' ∧
      ((engB fs room act seq dir ∧ ∃ g vd vr vs, e = .returned (.tuple #[.pointer (some ⟨g, 0, none⟩), .nilIface]) ∧ StoreAt w' w.heap.size g fs room vd vr vs) ∨
       (¬ engB fs room act seq dir ∧ ∃ s, e = .returned (.tuple #[.pointer none, .iface 142 (.agg #[.int .i64 1, .string s])]))) := by
  have HF := hide hfs
  have HD := hide hds
  have HT := hide hT
  have HOS := hide (fun W hW hT => openStore_any fs ao cap room W hl hW hsz hT)
  clear hfs hds hsz hT
  obtain ⟨wb, hwb⟩ : ∃ wb, wb = w.alloc (.cells #[.slice ao fs.length cap, .int .i64 room, .int .i64 act, .int .i64 seq, .slice ad dir.length cd] 30) := ⟨_, rfl⟩
  have HB0 : Hid (Below w.heap.size w wb) := by rw [hwb]; exact (Below.refl _ w).alloc (Nat.le_refl _) _
  have HBK : Hid (wb.heap[w.heap.size]? = some (.cells #[.slice ao fs.length cap, .int .i64 room, .int .i64 act, .int .i64 seq, .slice ad dir.length cd] 30 (0, 0))) := by rw [hwb]; exact heap_alloc_new w _
  obtain ⟨hz0, hz1, hz2, hz3, hz4, -⟩ := five_cells HBK.out
  go_enter Tryz.func46, Tryz.ntmps46
  go_wp2_with fail
  rw [← hwb]
  clear hwb
  go_wp2_with fail
  refine (HOS.out _ (filesAt_keep HF.out HB0.out) (sumTab_later HB0.out HT.out)).mono ?_
  rintro e w1 ⟨b1, ⟨ho, g, vd, vr, vs, va, rfl, hst, hac⟩ | ⟨ho, s1, rfl⟩⟩
  · obtain ⟨aa, ca, rfl⟩ := slice_form hac
    have B1 := hide (HB0.out.trans (b1.mono HB0.out.size))
    have HST := hide hst
    have HBK1 := hide ((b1.block _ (heap_lt HBK.out)).trans HBK.out)
    obtain ⟨hy0, hy1, hy2, hy3, hy4, -⟩ := five_cells HBK1.out
    obtain ⟨ad3, cd3, hvd, hvd2⟩ := rowF_at hst.disk
    obtain ⟨ar3, cr3, hvr, hvr2⟩ := rowSpot_at hst.dir
    obtain ⟨as3, cs3, hvs⟩ := buildG_form hst.segs
    subst hvd hvr hvs
    obtain ⟨k0, k1, k2, k3, k4, k5, k6, k7, -⟩ := eight_cells hst.blk
    have HRM := open_room ho
    cases hc : calmB fs with
    | true =>
      have hA := calm_acts hc
      have HSM := hide (fun W h1 h2 => sameAs_any (.slice ad3 (actsF fs (actsI fs)).1.length cd3) (.slice ao fs.length cap) room ((lastG fs).num : Int) (seqD (segsL fs)) room act seq (dirD fs) dir ar3 ad cr3 cd W ⟨_, _, _, rfl⟩ ⟨_, _, _, rfl⟩ (by have := dirD_len fs; omega) h1 h2)
      obtain ⟨R, HR⟩ : ∃ R, Hid (sameB ((lastG fs).num : Int) (seqD (segsL fs)) (dirD fs) act seq dir = R) := ⟨_, hide rfl⟩
      rw [HR.out] at HSM
      have HEB : Hid (engB fs room act seq dir ↔ R = true) := by
        show _ ↔ _
        rw [← HR.out, same_iff]
        exact ⟨fun h => h.2.2.2, fun h => ⟨HRM.1, HRM.2, hc, h⟩⟩
      have hlen : (actsI fs).length = 0 := by rw [hA]; rfl
      rw [hlen]
      have HVR := hide hvr2
      have hgl : g < w1.heap.size := heap_lt HST.out.blk
      have hwl : w.heap.size < w1.heap.size := heap_lt HBK1.out
      have KS : Hid (∀ X, Below w1.heap.size w1 X → (X.cell? ⟨g, 2, none⟩ = some (.slice ad3 (actsF fs (actsI fs)).1.length cd3) ∧ X.cell? ⟨g, 3, none⟩ = some (.int .i64 room) ∧ X.cell? ⟨g, 4, none⟩ = some (.int .i64 ((lastG fs).num : Int)) ∧ X.cell? ⟨g, 5, none⟩ = some (.int .i64 (seqD (segsL fs))) ∧ X.cell? ⟨g, 6, none⟩ = some (.slice ar3 (dirD fs).length cr3) ∧ X.cell? ⟨w.heap.size, 0, none⟩ = some (.slice ao fs.length cap) ∧ X.cell? ⟨w.heap.size, 1, none⟩ = some (.int .i64 room) ∧ X.cell? ⟨w.heap.size, 2, none⟩ = some (.int .i64 act) ∧ X.cell? ⟨w.heap.size, 3, none⟩ = some (.int .i64 seq) ∧ X.cell? ⟨w.heap.size, 4, none⟩ = some (.slice ad dir.length cd))) := fun X hX => ⟨(hX.cell (p := ⟨g, 2, none⟩) hgl).trans k2, (hX.cell (p := ⟨g, 3, none⟩) hgl).trans k3, (hX.cell (p := ⟨g, 4, none⟩) hgl).trans k4, (hX.cell (p := ⟨g, 5, none⟩) hgl).trans k5, (hX.cell (p := ⟨g, 6, none⟩) hgl).trans k6, (hX.cell (p := ⟨w.heap.size, 0, none⟩) hwl).trans hy0, (hX.cell (p := ⟨w.heap.size, 1, none⟩) hwl).trans hy1, (hX.cell (p := ⟨w.heap.size, 2, none⟩) hwl).trans hy2, (hX.cell (p := ⟨w.heap.size, 3, none⟩) hwl).trans hy3, (hX.cell (p := ⟨w.heap.size, 4, none⟩) hwl).trans hy4⟩
      have HSW : Hid (∀ X, Below w1.heap.size w1 X → Calls Tryz.prog 89 #[.agg #[.slice ad3 (actsF fs (actsI fs)).1.length cd3, .int .i64 room, .int .i64 ((lastG fs).num : Int), .int .i64 (seqD (segsL fs)), .slice ar3 (dirD fs).length cr3], .agg #[.slice ao fs.length cap, .int .i64 room, .int .i64 act, .int .i64 seq, .slice ad dir.length cd]] X fun e w' => e = .returned (.bool R) ∧ Below X.heap.size X w') := fun X hX => HSM.out X (spotsAt_keep HVR.out hX) (spotsAt_keep HD.out (B1.out.trans (hX.mono B1.out.size)))
      clear hst hac hc hA hvr2 hvd2 b1 HRM HSM HVR k0 k1 k7 hz0 hz1 hz2 hz3 hz4
      go_wp2_with fail
      go_region_held3 (fun w' => w'.cell? ⟨g, 2, none⟩ = some (.slice ad3 (actsF fs (actsI fs)).1.length cd3) ∧ w'.cell? ⟨g, 3, none⟩ = some (.int .i64 room) ∧ w'.cell? ⟨g, 4, none⟩ = some (.int .i64 ((lastG fs).num : Int)) ∧ w'.cell? ⟨g, 5, none⟩ = some (.int .i64 (seqD (segsL fs))) ∧ w'.cell? ⟨g, 6, none⟩ = some (.slice ar3 (dirD fs).length cr3) ∧ w'.cell? ⟨w.heap.size, 0, none⟩ = some (.slice ao fs.length cap) ∧ w'.cell? ⟨w.heap.size, 1, none⟩ = some (.int .i64 room) ∧ w'.cell? ⟨w.heap.size, 2, none⟩ = some (.int .i64 act) ∧ w'.cell? ⟨w.heap.size, 3, none⟩ = some (.int .i64 seq) ∧ w'.cell? ⟨w.heap.size, 4, none⟩ = some (.slice ad dir.length cd)) ((refine KS.out _ ?_; first | (exact e2) | (exact (Below.refl _ _).drew) | (exact Below.refl _ _) | fail)) ((go_at_call 89; refine (HSW.out _ ?_).mono ?_; exact (Below.refl _ _).drew; rintro e w2 ⟨rfl, b2⟩; have e2 : Below w1.heap.size w1 w2 := ((Below.refl _ _).drew).trans b2))
      have B2 := hide e2
      clear e2 b2
      cases hR : R with
      | true =>
        go_wp2
        refine bodyPost_ret (results_tmp2 rfl _ _ _) rfl ?_
        exact ⟨B1.out.trans (B2.out.mono B1.out.size), .inl ⟨HEB.out.2 hR, g, _, _, _, rfl, (HST.out.mono HB0.out.size).below B2.out⟩⟩
      | false =>
        go_wp2
        refine bodyPost_ret (results_tmp2 rfl _ _ _) rfl ?_
        have HNE : ¬ engB fs room act seq dir := fun h => absurd (HEB.out.1 h) (by rw [hR]; exact Bool.false_ne_true)
        exact ⟨B1.out.trans (B2.out.mono B1.out.size), .inr ⟨HNE, _, rfl⟩⟩
    | false =>
      have hne : 0 < (actsI fs).length := by
        cases hA : actsI fs with
        | nil => unfold calmB at hc; rw [hA] at hc; cases hc
        | cons x r => simp
      have hne' : decide ((0 : Int) < ((actsI fs).length : Int)) = true := by rw [decide_eq_true_eq]; omega
      have hnen : decide (0 < (actsI fs).length) = true := by rw [decide_eq_true_eq]; omega
      have HEB : Hid (¬ engB fs room act seq dir) := fun he => by rw [he.2.2.1] at hc; cases hc
      generalize (actsI fs).length = LA at hne hne' hnen
      clear hst hac hc hvr2 hvd2 b1 HRM
      go_wp2_with fail
      go_quiet (fail)
      go_wp2
      refine bodyPost_ret (results_tmp2 rfl _ _ _) rfl ?_
      exact ⟨below_drewN B1.out _, .inr ⟨HEB.out, _, rfl⟩⟩
  · have HE := hide (eng_not_open (act := act) (seq := seq) (dir := dir) ho)
    go_wp2
    go_ret2
    exact ⟨HB0.out.trans (b1.mono HB0.out.size), .inr ⟨HE.out, _, rfl⟩⟩
theorem implEngineOk_any (fs : List FileD) (ao ad : Option Addr) (cap cd : Nat) (room act seq : Int) (dir : List SpotD) (w : World) (hl : fs.length ≤ 1048576) (hfs : FilesAt w ao fs) (hsz : ∀ F ∈ fs, F.name.size ≤ 1048576 ∧ F.text.size ≤ 1048576) (hds : SpotsAt w ad dir) (hT : SumTab w) :
    Calls Tryz.prog 14 #[.agg #[.slice ao fs.length cap, .int .i64 room, .int .i64 act, .int .i64 seq, .slice ad dir.length cd]] w fun e w' => e = .returned (.bool (engOkB fs room act seq dir)) ∧ Below w.heap.size w w' := by
  have HSO := hide (fun W h1 h2 hT => storeOf_any fs ao ad cap cd room act seq dir W hl h1 hsz h2 hT)
  have HF := hide hfs
  have HD := hide hds
  have HT := hide hT
  clear hfs hds hsz hT
  obtain ⟨wb, hwb⟩ : ∃ wb, wb = w.alloc (.cells #[.slice ao fs.length cap, .int .i64 room, .int .i64 act, .int .i64 seq, .slice ad dir.length cd] 30) := ⟨_, rfl⟩
  have HB0 : Hid (Below w.heap.size w wb) := by rw [hwb]; exact (Below.refl _ w).alloc (Nat.le_refl _) _
  obtain ⟨R, HR⟩ : ∃ R, Hid (engOkB fs room act seq dir = R) := ⟨_, hide rfl⟩
  rw [HR.out]
  go_enter Tryz.func14, Tryz.ntmps14
  go_wp2_with fail
  rw [← hwb]
  clear hwb
  refine (HSO.out _ (filesAt_keep HF.out HB0.out) (spotsAt_keep HD.out HB0.out) (sumTab_later HB0.out HT.out)).mono ?_
  rintro e w1 ⟨b1, ⟨he, g, vd, vr, vs, rfl, -⟩ | ⟨he, s, rfl⟩⟩
  · have hR : Hid (R = true) := HR.out.symm.trans (engOkB_yes he)
    go_wp2
    go_ret
    rw [hR.out]
    exact ⟨rfl, HB0.out.trans (b1.mono HB0.out.size)⟩
  · have hR : Hid (R = false) := HR.out.symm.trans (engOkB_no he)
    go_wp2
    go_ret
    rw [hR.out]
    exact ⟨rfl, HB0.out.trans (b1.mono HB0.out.size)⟩
end Go.Proofs.YtmmchemgegmhhaaGreatDoor
namespace Go.Proofs.YtmmchemgegmhhaaGreatDoor
open Go.RowKit
theorem box5 {W : World} {β n : Nat} {w : World} {a0 a1 a2 a3 a4 : Value} (v0 v1 v2 v3 v4 : Value) (hb : W.heap[β]? = some (.cells #[a0, a1, a2, a3, a4] 30 (0, 0))) (hB : Below n w W) (hn : n ≤ β) (W6 : World) (hW : W6 = ((((W.setCell ⟨β, 0, none⟩ v0).setCell ⟨β, 1, none⟩ v1).setCell ⟨β, 2, none⟩ v2).setCell ⟨β, 3, none⟩ v3).setCell ⟨β, 4, none⟩ v4) :
    W6.heap[β]? = some (.cells #[v0, v1, v2, v3, v4] 30 (0, 0)) ∧ Below n w W6 ∧ W.grownBy W6 (some β) := by
  subst hW
  have c0 := (heap_setCell_same W β 0 _ _ v0 hb).trans rfl
  have c1 := (heap_setCell_same _ β 1 _ _ v1 c0).trans rfl
  have c2 := (heap_setCell_same _ β 2 _ _ v2 c1).trans rfl
  have c3 := (heap_setCell_same _ β 3 _ _ v3 c2).trans rfl
  have c4 := (heap_setCell_same _ β 4 _ _ v4 c3).trans rfl
  exact ⟨by rw [c4]; rfl, ((((hB.setCell (p := ⟨β, 0, none⟩) hn _).setCell (p := ⟨β, 1, none⟩) hn _).setCell (p := ⟨β, 2, none⟩) hn _).setCell (p := ⟨β, 3, none⟩) hn _).setCell (p := ⟨β, 4, none⟩) hn _, grownBy_store (grownBy_store (grownBy_store (grownBy_store (grownBy_store (World.grownBy.refl W (some β)) 0 _) 1 _) 2 _) 3 _) 4 _⟩
theorem files_box {W W6 : World} {β B : Nat} {v : Value} {gs : List FileD} {C : Array Value} (h : RowF W B v gs) (hb : W.heap[β]? = some (.cells C 30 (0, 0))) (hg : W.grownBy W6 (some β)) : RowF W6 B v gs := by
  refine rowF_grown h hg (fun g e e2 => ?_)
  rcases h with ⟨rfl, -⟩ | ⟨g', cap, C', rfl, -, hC, -⟩
  · cases e
  · obtain rfl : g' = g := by simpa [Value.ownBlock] using e
    cases e2
    rw [hb] at hC
    simp at hC
theorem spots_box {W W6 : World} {β B : Nat} {v : Value} {gs : List SpotD} {C : Array Value} (h : RowSpot W B v gs) (hb : W.heap[β]? = some (.cells C 30 (0, 0))) (hg : W.grownBy W6 (some β)) : RowSpot W6 B v gs := by
  refine rowSpot_grown h hg (fun g e e2 => ?_)
  rcases h with ⟨rfl, -⟩ | ⟨g', cap, C', rfl, -, hC, -⟩
  · cases e
  · obtain rfl : g' = g := by simpa [Value.ownBlock] using e
    cases e2
    rw [hb] at hC
    simp at hC
theorem acts_box {W W6 : World} {β B n : Nat} {v : Value} {xs : List Value} {C : Array Value} (h : W.ownsRow B 103 4 v n xs) (hb : W.heap[β]? = some (.cells C 30 (0, 0))) (hg : W.grownBy W6 (some β)) : W6.ownsRow B 103 4 v n xs := by
  refine World.ownsRow.kept h hg ?_
  cases hv : v.ownBlock with
  | none => exact .inl rfl
  | some g =>
    refine .inr (fun e => ?_)
    obtain ⟨C', hC⟩ := owns_block h hv
    cases e
    rw [hb] at hC
    simp at hC
theorem implOpenEngine_any (fs : List FileD) (ao : Option Addr) (cap : Nat) (room : Int) (w : World) (hl : fs.length ≤ 1048576) (hfs : FilesAt w ao fs) (hsz : ∀ F ∈ fs, F.name.size ≤ 1048576 ∧ F.text.size ≤ 1048576) (hT : SumTab w) :
    Calls Tryz.prog 42 #[.agg #[.slice ao fs.length cap], .int .i64 room] w fun e w' => Below w.heap.size w w' ∧
      ((openIB fs room = true ∧ ∃ vd vr va, e = .returned (.tuple #[.agg #[vd, .int .i64 room, .int .i64 ((lastG fs).num : Int), .int .i64 (seqD (segsL fs)), vr], va, .bool true]) ∧ RowF w' w.heap.size vd (actsF fs (actsI fs)).1 ∧ RowSpot w' w.heap.size vr (dirD fs) ∧ w'.ownsRow w.heap.size 103 4 va (actsI fs).length (cellsAct (actsI fs))) ∨
       (openIB fs room = false ∧ e = .returned (.tuple #[.agg #[.slice none 0 0, .int .i64 0, .int .i64 0, .int .i64 0, .slice none 0 0], .slice none 0 0, .bool false]))) := by
  have HF := hide hfs
  have HT := hide hT
  have HOS := hide (fun W hW hT => openStore_any fs ao cap room W hl hW hsz hT)
  clear hfs hsz hT
  obtain ⟨wb, hwb⟩ : ∃ wb, wb = (w.alloc (.cells #[.slice ao fs.length cap] 27)).alloc (.cells #[.slice none 0 0, .int .i64 0, .int .i64 0, .int .i64 0, .slice none 0 0] 30) := ⟨_, rfl⟩
  have HB0 : Hid (Below w.heap.size w wb) := by rw [hwb]; exact ((Below.refl _ w).alloc (Nat.le_refl _) _).alloc (by simp) _
  have HBE : Hid (wb.heap[w.heap.size + 1]? = some (.cells #[.slice none 0 0, .int .i64 0, .int .i64 0, .int .i64 0, .slice none 0 0] 30 (0, 0))) := by
    show _ = _
    rw [hwb, show w.heap.size + 1 = (w.alloc (.cells #[.slice ao fs.length cap] 27)).heap.size from by simp]
    exact heap_alloc_new _ _
  go_enter Tryz.func42, Tryz.ntmps42
  go_wp2_with fail
  rw [← hwb]
  clear hwb
  refine (HOS.out _ (filesAt_keep HF.out HB0.out) (sumTab_later HB0.out HT.out)).mono ?_
  rintro e w1 ⟨b1, ⟨ho, g, vd, vr, vs, va, rfl, hst, hac⟩ | ⟨ho, s1, rfl⟩⟩
  · have B1 := hide (HB0.out.trans (b1.mono HB0.out.size))
    have HE1 := hide ((b1.block _ (heap_lt HBE.out)).trans HBE.out)
    obtain ⟨ad3, cd3, hvd, -⟩ := rowF_at hst.disk
    obtain ⟨ar3, cr3, hvr, -⟩ := rowSpot_at hst.dir
    subst hvd hvr
    obtain ⟨k0, k1, k2, k3, k4, k5, k6, k7, -⟩ := eight_cells hst.blk
    have HRF := hide (rowF_le hst.disk HB0.out.size)
    have HRS := hide (rowSpot_le hst.dir HB0.out.size)
    have HAC := hide hac
    have HO := hide ho
    clear hst hac ho b1
    obtain ⟨z0, z1, z2, z3, z4, f0, f1, f2, f3, f4⟩ := five_cells HE1.out
    go_wp2
    clear z0 z1 z2 z3 z4 f0 f1 f2 f3 f4
    obtain ⟨y0, y1, y2⟩ := box5 (.slice ad3 (actsF fs (actsI fs)).1.length cd3) (.int .i64 room) (.int .i64 ((lastG fs).num : Int)) (.int .i64 (seqD (segsL fs))) (.slice ar3 (dirD fs).length cr3) HE1.out B1.out (Nat.le_succ _) _ rfl
    obtain ⟨x0, x1, x2, x3, x4, -⟩ := five_cells y0
    refine bodyPost_ret (v := .tuple #[.agg #[.slice ad3 (actsF fs (actsI fs)).1.length cd3, .int .i64 room, .int .i64 ((lastG fs).num : Int), .int .i64 (seqD (segsL fs)), .slice ar3 (dirD fs).length cr3], va, .bool true]) ?_ rfl ?_
    · simp [results, Tryz.results42, go_sem, x0, x1, x2, x3, x4]
    · exact ⟨y1, .inl ⟨HO.out, _, _, _, rfl, files_box HRF.out HE1.out y2, spots_box HRS.out HE1.out y2, acts_box (ownsRow_mono HAC.out HB0.out.size) HE1.out y2⟩⟩
  · have B1 := hide (HB0.out.trans (b1.mono HB0.out.size))
    have HE1 := hide ((b1.block _ (heap_lt HBE.out)).trans HBE.out)
    have HO := hide ho
    clear ho b1
    obtain ⟨z0, z1, z2, z3, z4, f0, f1, f2, f3, f4⟩ := five_cells HE1.out
    go_wp2
    clear z0 z1 z2 z3 z4 f0 f1 f2 f3 f4
    obtain ⟨y0, y1, y2⟩ := box5 (.slice none 0 0) (.int .i64 0) (.int .i64 0) (.int .i64 0) (.slice none 0 0) HE1.out B1.out (Nat.le_succ _) _ rfl
    obtain ⟨x0, x1, x2, x3, x4, -⟩ := five_cells y0
    refine bodyPost_ret (v := .tuple #[.agg #[.slice none 0 0, .int .i64 0, .int .i64 0, .int .i64 0, .slice none 0 0], .slice none 0 0, .bool false]) ?_ rfl ?_
    · simp [results, Tryz.results42, go_sem, x0, x1, x2, x3, x4]
    · exact ⟨y1, .inr ⟨HO.out, rfl⟩⟩
abbrev file (L : List UInt8) : ByteArray := ⟨L.toArray⟩
theorem file_size (L : List UInt8) : (file L).size = L.length := rfl
theorem file_extract (L : List UInt8) (a b : Nat) : (file L).extract a b = file ((L.drop a).take (b - a)) := by
  apply ByteArray.ext
  apply Array.toList_inj.1
  simp [List.extract_eq_take_drop]
def frameL (t : List UInt8) : List UInt8 := Wd.varF 5 t.length ++ four (sumL 4294967295 t) ++ t
theorem frameL_of (t : List UInt8) : frameB (file t) = file (frameL t) := by
  apply ByteArray.ext
  apply Array.toList_inj.1
  rw [frameB_list]
  rfl
theorem frameL_len (t : List UInt8) : (frameL t).length = (Wd.varF 5 t.length).length + 4 + t.length := by
  unfold frameL
  rw [List.length_append, List.length_append]
  rfl
theorem frB_at (a t b : List UInt8) (h1 : 1 ≤ t.length) (h2 : t.length ≤ 9000) :
    ∃ x : Nat × Nat, frB (file (a ++ frameL t ++ b)) a.length = some x ∧ x.2 = a.length + (frameL t).length ∧ ((file (a ++ frameL t ++ b)).extract x.1 x.2).data.toList = t := by
  have e : a ++ frameL t ++ b = a ++ Wd.varF 5 t.length ++ (four (sumL 4294967295 t) ++ t ++ b) := by
    unfold frameL; simp only [List.append_assoc]
  have hlen := frameL_len t
  have hr : Wd.rv (file (a ++ frameL t ++ b)) a.length = some (t.length, a.length + (Wd.varF 5 t.length).length) := by
    have := rvI_at a (four (sumL 4294967295 t) ++ t ++ b) t.length (by omega) (a.length : Int) rfl
    rw [← e] at this
    unfold Wd.rvI at this
    rw [if_neg (by
      have : (⟨(a ++ frameL t ++ b).toArray⟩ : ByteArray).size = a.length + (frameL t).length + b.length := by
        show (a ++ frameL t ++ b).length = _
        rw [List.length_append, List.length_append]
      rw [this]; omega), Int.toNat_natCast] at this
    exact this
  have hsz : (file (a ++ frameL t ++ b)).size = a.length + (frameL t).length + b.length := by
    rw [file_size, List.length_append, List.length_append]
  have x1 : (file (a ++ frameL t ++ b)).extract (a.length + (Wd.varF 5 t.length).length) (a.length + (Wd.varF 5 t.length).length + 4) = file (four (sumL 4294967295 t)) := by
    rw [file_extract, e, ← List.length_append, List.drop_left, Nat.add_sub_cancel_left, List.append_assoc (four (sumL 4294967295 t)), List.take_left' (show (four (sumL 4294967295 t)).length = 4 from rfl)]
  have x2 : (file (a ++ frameL t ++ b)).extract (a.length + (Wd.varF 5 t.length).length + 4) (a.length + (Wd.varF 5 t.length).length + 4 + t.length) = file t := by
    rw [file_extract, e, Nat.add_sub_cancel_left]
    have : a ++ Wd.varF 5 t.length ++ (four (sumL 4294967295 t) ++ t ++ b) = (a ++ Wd.varF 5 t.length ++ four (sumL 4294967295 t)) ++ (t ++ b) := by simp only [List.append_assoc]
    rw [this, List.drop_left' (by rw [List.length_append, List.length_append]; rfl), List.take_left' rfl]
  refine ⟨_, frB_yes _ _ _ _ hr ⟨h1, h2, by rw [hsz, hlen]; omega, ?_⟩, by show _ = _; rw [hlen]; omega, ?_⟩
  · rw [x1, x2]; rfl
  · show ((file (a ++ frameL t ++ b)).extract (a.length + (Wd.varF 5 t.length).length + 4) (a.length + (Wd.varF 5 t.length).length + 4 + t.length)).data.toList = t
    rw [x2]
def framesL : List (List UInt8) → List UInt8
  | [] => []
  | t :: ts => frameL t ++ framesL ts
theorem back_file (t : ByteArray) (L : List UInt8) (h : t.data.toList = L) : t = file L := by
  subst h
  cases t
  rfl
def risingT : Int → List (List UInt8) → Prop
  | _, [] => True
  | last, t :: r => rdOk (file t) = true ∧ last < rdSeq (file t) ∧ risingT (rdSeq (file t)) r
def bsT (ts : List (List UInt8)) : List BatchD := ts.map fun t => ⟨rdSeq (file t), rdChanges (file t)⟩
def endOr (e : Nat) (l : List (Nat × Nat)) : Nat := match l.getLast? with
  | some x => x.2
  | none => e
theorem endOr_cons (e : Nat) (x : Nat × Nat) (r : List (Nat × Nat)) : endOr e (x :: r) = endOr x.2 r := by
  unfold endOr
  rw [List.getLast?_cons]
  cases r.getLast? <;> rfl
theorem ris_T (s : ByteArray) : ∀ (l : List (Nat × Nat)) (ts : List (List UInt8)) (last : Int) (e : Nat), recs s l = ts → risingT last ts → ris s l last e = (bsT ts, endOr e l)
  | [], ts, last, e, h, _ => by
    obtain rfl : ts = [] := h.symm
    rfl
  | x :: r, ts, last, e, h, hr => by
    cases ts with
    | nil => simp [recs] at h
    | cons t q =>
      have h1 : (s.extract x.1 x.2).data.toList = t := by simp [recs] at h; simpa using h.1
      have h2 : recs s r = q := by simp only [recs, List.map_cons, List.cons.injEq] at h; exact h.2
      have hx := back_file _ _ h1
      obtain ⟨k1, k2, k3⟩ := hr
      rw [ris_more (by rw [hx]; exact k1) (by rw [hx]; exact k2), hx, ris_T s r q _ x.2 h2 k3, endOr_cons]
      rfl
theorem frs_tail (b : List UInt8) : ∀ (ts : List (List UInt8)) (a : List UInt8) (f : Nat), (∀ t ∈ ts, 1 ≤ t.length ∧ t.length ≤ 9000) → ts.length < f → frB (file (a ++ framesL ts ++ b)) (a ++ framesL ts).length = none →
    recs (file (a ++ framesL ts ++ b)) (frs (file (a ++ framesL ts ++ b)) f a.length) = ts ∧ endOr a.length (frs (file (a ++ framesL ts ++ b)) f a.length) = (a ++ framesL ts).length
  | [], a, f, _, _, hn => by
    have e : a ++ framesL [] = a := by simp [framesL]
    rw [e] at hn ⊢
    rw [frs_none _ f _ hn]
    exact ⟨rfl, rfl⟩
  | t :: r, a, 0, _, hf, _ => absurd hf (by simp)
  | t :: r, a, f + 1, ht, hf, hn => by
    have e : a ++ framesL (t :: r) = a ++ frameL t ++ framesL r := by simp [framesL, List.append_assoc]
    have htt := ht t (by simp)
    rw [e] at hn ⊢
    obtain ⟨x, hx, hx2, hx3⟩ := frB_at a t (framesL r ++ b) htt.1 htt.2
    rw [show a ++ frameL t ++ (framesL r ++ b) = a ++ frameL t ++ framesL r ++ b by simp only [List.append_assoc]] at hx hx3
    have ih := frs_tail b r (a ++ frameL t) f (fun u hu => ht u (by simp [hu])) (by simpa using hf) hn
    have hxl : x.2 = (a ++ frameL t).length := by rw [hx2, List.length_append]
    rw [frs_some _ f _ x hx, endOr_cons, hxl]
    refine ⟨?_, ih.2⟩
    show ((file (a ++ frameL t ++ framesL r ++ b)).extract x.1 x.2).data.toList :: recs _ _ = _
    rw [hx3, ih.1]
theorem headL_len (n f : Nat) : 1 ≤ (headL n f).length ∧ (headL n f).length ≤ 11 := by
  have h1 := Wd.varF_len 5 n
  have h2 := Wd.varF_len 5 f
  unfold headL
  rw [List.length_append, List.length_append]
  simp only [List.length_cons, List.length_nil]
  omega
theorem hd_file (n f : Nat) (hn : n ≤ 99) (hf : f ≤ n) : hdFrom (n : Int) (file (headL n f)) = some f := (hdFrom_iff _ _ _).2 ⟨by omega, by omega, by omega, by rw [Int.toNat_natCast]⟩
theorem seg_read {n f : Nat} (hn : n ≤ 99) (hf : f ≤ n) {ts : List (List UInt8)} (hts : risingT (-1) ts) {s : ByteArray} (hs : recs s (unf s) = headL n f :: ts) : segRead (n : Int) s = some (f, bsT ts, endOf (unf s)) := by
  cases hu : unf s with
  | nil => rw [hu] at hs; simp [recs] at hs
  | cons x r =>
    rw [hu] at hs
    have h1 : (s.extract x.1 x.2).data.toList = headL n f := by simp only [recs, List.map_cons, List.cons.injEq] at hs; exact hs.1
    have h2 : recs s r = ts := by simp only [recs, List.map_cons, List.cons.injEq] at hs; exact hs.2
    have hx := back_file _ _ h1
    rw [segRead_some hu (f := f) (by rw [hx]; exact hd_file n f hn hf), ris_T s r ts (-1) x.2 h2 hts]
    have : endOf (x :: r) = endOr x.2 r := by
      have := endOr_cons 0 x r
      rw [← this]
      unfold endOf endOr
      cases (x :: r).getLast? <;> rfl
    rw [this]
theorem seg_whole (n f : Nat) (hn : n ≤ 99) (hf : f ≤ n) (ts : List (List UInt8)) (hts : risingT (-1) ts) (hl : ∀ t ∈ ts, 1 ≤ t.length ∧ t.length ≤ 9000) (b : List UInt8) (hsz : (framesL (headL n f :: ts) ++ b).length ≤ 20000)
    (hb : frB (file (framesL (headL n f :: ts) ++ b)) (framesL (headL n f :: ts)).length = none) : segRead (n : Int) (file (framesL (headL n f :: ts) ++ b)) = some (f, bsT ts, (framesL (headL n f :: ts)).length) := by
  have hH := headL_len n f
  have hall : ∀ t ∈ headL n f :: ts, 1 ≤ t.length ∧ t.length ≤ 9000 := by
    intro t ht
    rcases List.mem_cons.1 ht with rfl | ht
    · omega
    · exact hl t ht
  obtain ⟨F, hF⟩ : ∃ F, F = (headL n f :: ts).length + (file (framesL (headL n f :: ts) ++ b)).size + 1 := ⟨_, rfl⟩
  have hu : unf (file (framesL (headL n f :: ts) ++ b)) = frs (file (framesL (headL n f :: ts) ++ b)) F 0 := by
    unfold unf
    rw [if_pos (by rw [file_size]; exact hsz)]
    exact frs_same _ _ _ 0 (by omega) (by omega)
  have ht := frs_tail b (headL n f :: ts) [] F hall (by omega) (by simpa using hb)
  simp only [List.nil_append, List.length_nil] at ht
  have h := seg_read hn hf hts (s := file (framesL (headL n f :: ts) ++ b)) (by rw [hu]; exact ht.1)
  rw [h, hu]
  have : ∀ l, endOf l = endOr 0 l := fun l => by unfold endOf endOr; cases l.getLast? <;> rfl
  rw [this, ht.2]
theorem end_none (L : List UInt8) : frB (file (L ++ [])) L.length = none := frB_num _ _ (Wd.rv_at_end _ _ (by rw [file_size]; simp))
end Go.Proofs.YtmmchemgegmhhaaGreatDoor
