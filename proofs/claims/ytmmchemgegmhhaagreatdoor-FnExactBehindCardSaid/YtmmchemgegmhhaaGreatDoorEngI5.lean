/- The program's storeOf and EngineOk. -/
import Derived.Test.YtmmchemgegmhhaaGreatDoorEngI4
import Derived.Test.YtmmchemgegmhhaaGreatDoorEngE
namespace Go.Proofs.YtmmchemgegmhhaaGreatDoor
open Go.RowKit Go.Shelf

/-- Whether an engine is the same as another, but for its disk and room. -/
def sameB (act seq : Int) (dir : List SpotD) (act2 seq2 : Int) (dir2 : List SpotD) : Bool := decide (act = act2) && (decide (seq = seq2) && spotsEq dir dir2)

set_option maxRecDepth 100000 in
set_option maxHeartbeats 1600000 in
theorem sameAs_any (vd vd2 : Value) (r act seq r2 act2 seq2 : Int) (dir dir2 : List SpotD) (a1 a2 : Option Addr) (c1 c2 : Nat) (w : World) (b1 : ∃ a n c, vd = .slice a n c) (b2 : ∃ a n c, vd2 = .slice a n c) (hl : dir.length ≤ 1048576) (h1 : SpotsAt w a1 dir) (h2 : SpotsAt w a2 dir2) :
    Calls Tryz.prog 89 #[.agg #[vd, .int .i64 r, .int .i64 act, .int .i64 seq, .slice a1 dir.length c1], .agg #[vd2, .int .i64 r2, .int .i64 act2, .int .i64 seq2, .slice a2 dir2.length c2]] w fun e w' => e = .returned (.bool (sameB act seq dir act2 seq2 dir2)) ∧ Below w.heap.size w w' := by
  obtain ⟨x1, x2, x3, rfl⟩ := b1
  obtain ⟨y1, y2, y3, rfl⟩ := b2
  have H1 := hide h1
  have H2 := hide h2
  clear h1 h2
  by_cases ha : act = act2
  · subst ha
    by_cases hq : seq = seq2
    · subst hq
      have HE : Hid (sameB act seq dir act seq dir2 = spotsEq dir dir2) := by show _ = _; unfold sameB; simp
      rw [HE.out]
      have HEQ := hide (fun W h1 h2 => slicesEqual_any dir dir2 a1 a2 c1 c2 W hl h1 h2)
      generalize spotsEq dir dir2 = R at HEQ
      obtain ⟨wb, hwb⟩ : ∃ wb, wb = (w.alloc (.cells #[.slice x1 x2 x3, .int .i64 r, .int .i64 act, .int .i64 seq, .slice a1 dir.length c1] 30)).alloc (.cells #[.slice y1 y2 y3, .int .i64 r2, .int .i64 act, .int .i64 seq, .slice a2 dir2.length c2] 30) := ⟨_, rfl⟩
      have HB0 : Hid (Below w.heap.size w wb) := by rw [hwb]; exact ((Below.refl _ w).alloc (Nat.le_refl _) _).alloc (by simp) _
      go_enter Tryz.func89, Tryz.ntmps89
      go_wp2_with fail
      rw [← hwb]
      clear hwb
      refine (HEQ.out _ (spotsAt_keep H1.out HB0.out) (spotsAt_keep H2.out HB0.out)).mono ?_
      rintro e w1 ⟨rfl, b1⟩
      go_wp2
      go_ret
      exact ⟨rfl, HB0.out.trans (b1.mono HB0.out.size)⟩
    · have HE : Hid (sameB act seq dir act seq2 dir2 = false) := by show _ = _; unfold sameB; rw [decide_eq_false hq]; simp
      have hq' : (seq == seq2) = false := by rw [beq_eq_false_iff_ne]; exact hq
      rw [HE.out]
      clear hq
      go_enter Tryz.func89, Tryz.ntmps89
      go_wp2
      go_ret
      exact ⟨rfl, ((Below.refl _ w).alloc (Nat.le_refl _) _).alloc (by simp) _⟩
  · have HE : Hid (sameB act seq dir act2 seq2 dir2 = false) := by show _ = _; unfold sameB; rw [decide_eq_false ha]; rfl
    have ha' : (act == act2) = false := by rw [beq_eq_false_iff_ne]; exact ha
    rw [HE.out]
    clear ha
    go_enter Tryz.func89, Tryz.ntmps89
    go_wp2
    go_ret
    exact ⟨rfl, ((Below.refl _ w).alloc (Nat.le_refl _) _).alloc (by simp) _⟩

theorem calm_acts {fs : List FileD} (h : calmB fs = true) : actsI fs = [] := by
  unfold calmB at h
  simpa using h
theorem open_calm {fs : List FileD} {room : Int} (h : calmB fs = true) : openIB fs room = (roomB room && soundB fs) := by
  unfold openIB
  rw [calm_acts h]
  simp [actsF]
theorem eng_not_open {fs : List FileD} {room act seq : Int} {dir : List SpotD} (h : openIB fs room = false) : ¬ engB fs room act seq dir := fun he => by
  rw [open_calm he.2.2.1, he.1, he.2.1] at h
  cases h
theorem open_room {fs : List FileD} {room : Int} (h : openIB fs room = true) : roomB room = true ∧ soundB fs = true := by
  unfold openIB at h
  simp only [Bool.and_eq_true] at h
  exact ⟨h.1, h.2.1⟩
theorem same_iff {act seq act2 seq2 : Int} {dir dir2 : List SpotD} : sameB act seq dir act2 seq2 dir2 = true ↔ act = act2 ∧ seq = seq2 ∧ dir = dir2 := by
  unfold sameB
  simp only [Bool.and_eq_true, decide_eq_true_eq, spotsEq_iff]

/-- An engine is right. -/
def engOkB (fs : List FileD) (room act seq : Int) (dir : List SpotD) : Bool := roomB room && (soundB fs && (calmB fs && sameB ((lastG fs).num : Int) (seqD (segsL fs)) (dirD fs) act seq dir))
theorem engOkB_iff {fs : List FileD} {room act seq : Int} {dir : List SpotD} : engOkB fs room act seq dir = true ↔ engB fs room act seq dir := by
  unfold engOkB engB
  simp only [Bool.and_eq_true, same_iff]
theorem engOkB_yes {fs : List FileD} {room act seq : Int} {dir : List SpotD} (h : engB fs room act seq dir) : engOkB fs room act seq dir = true := engOkB_iff.2 h
theorem engOkB_no {fs : List FileD} {room act seq : Int} {dir : List SpotD} (h : ¬ engB fs room act seq dir) : engOkB fs room act seq dir = false := by
  cases hb : engOkB fs room act seq dir with
  | false => rfl
  | true => exact absurd (engOkB_iff.1 hb) h
theorem StoreAt.below {w w' : World} {B g : Nat} {fs : List FileD} {room : Int} {vd vr vs : Value} (h : StoreAt w B g fs room vd vr vs) (hb : Below w.heap.size w w') : StoreAt w' B g fs room vd vr vs :=
  ⟨(hb.block _ (heap_lt h.blk)).trans h.blk, h.le, rowF_below h.disk hb, rowSpot_below h.dir hb, buildG_below h.segs hb⟩
theorem StoreAt.mono {w : World} {B B' g : Nat} {fs : List FileD} {room : Int} {vd vr vs : Value} (h : StoreAt w B g fs room vd vr vs) (hB : B' ≤ B) : StoreAt w B' g fs room vd vr vs :=
  ⟨h.blk, Nat.le_trans hB h.le, rowF_le h.disk hB, rowSpot_le h.dir hB, buildG_mono h.segs hB hB⟩
theorem eight_cells {W : World} {g : Nat} {a b c d e f f' f'' : Value} {t : TypeId} (h : W.heap[g]? = some (.cells #[a, b, c, d, e, f, f', f''] t (0, 0))) : W.cell? ⟨g, 0, none⟩ = some a ∧ W.cell? ⟨g, 1, none⟩ = some b ∧ W.cell? ⟨g, 2, none⟩ = some c ∧ W.cell? ⟨g, 3, none⟩ = some d ∧ W.cell? ⟨g, 4, none⟩ = some e ∧ W.cell? ⟨g, 5, none⟩ = some f ∧ W.cell? ⟨g, 6, none⟩ = some f' ∧ W.cell? ⟨g, 7, none⟩ = some f'' ∧ W.frozen? ⟨g, 0, none⟩ = false :=
  ⟨(cell_of_row W g 0 _ _ (0, 0) h).trans rfl, (cell_of_row W g 1 _ _ (0, 0) h).trans rfl, (cell_of_row W g 2 _ _ (0, 0) h).trans rfl, (cell_of_row W g 3 _ _ (0, 0) h).trans rfl, (cell_of_row W g 4 _ _ (0, 0) h).trans rfl, (cell_of_row W g 5 _ _ (0, 0) h).trans rfl, (cell_of_row W g 6 _ _ (0, 0) h).trans rfl, (cell_of_row W g 7 _ _ (0, 0) h).trans rfl, frozen_of_row W g 0 _ _ h⟩

set_option maxRecDepth 100000 in
set_option maxHeartbeats 3200000 in
theorem storeOf_any (fs : List FileD) (ao ad : Option Addr) (cap cd : Nat) (room act seq : Int) (dir : List SpotD) (w : World) (hl : fs.length ≤ 1048576) (hfs : FilesAt w ao fs) (hsz : ∀ F ∈ fs, F.name.size ≤ 1048576 ∧ F.text.size ≤ 1048576) (hds : SpotsAt w ad dir) (hT : SumTab w) :
    Calls Tryz.prog 46 #[.agg #[.slice ao fs.length cap, .int .i64 room, .int .i64 act, .int .i64 seq, .slice ad dir.length cd]] w fun e w' => Below w.heap.size w w' ∧
      ((engB fs room act seq dir ∧ ∃ g vd vr vs, e = .returned (.tuple #[.pointer (some ⟨g, 0, none⟩), .nilIface]) ∧ StoreAt w' w.heap.size g fs room vd vr vs) ∨
       (¬ engB fs room act seq dir ∧ ∃ s, e = .returned (.tuple #[.pointer none, .iface 142 (.agg #[.int .i64 1, .string s])]))) := by
  have HF := hide hfs
  have HD := hide hds
  have HT := hide hT
  have HOS := hide (fun W hW hT => openStore_any fs ao cap room W hl hW hsz hT)
  clear hfs hds hsz hT
  obtain ⟨wb, hwb⟩ : ∃ wb, wb = w.alloc (.cells #[.slice ao fs.length cap, .int .i64 room, .int .i64 act, .int .i64 seq, .slice ad dir.length cd] 30) := ⟨_, rfl⟩
  have HB0 : Hid (Below w.heap.size w wb) := by rw [hwb]; exact (Below.refl _ w).alloc (Nat.le_refl _) _
  have HBK : Hid (wb.heap[w.heap.size]? = some (.cells #[.slice ao fs.length cap, .int .i64 room, .int .i64 act, .int .i64 seq, .slice ad dir.length cd] 30 (0, 0))) := by rw [hwb]; exact heap_alloc_new w _
  obtain ⟨hz0, hz1, hz2, hz3, hz4, -⟩ := five_cells HBK.out
  go_enter Tryz.func46, Tryz.ntmps46
  go_wp2_with fail
  rw [← hwb]
  clear hwb
  go_wp2_with fail
  refine (HOS.out _ (filesAt_keep HF.out HB0.out) (sumTab_later HB0.out HT.out)).mono ?_
  rintro e w1 ⟨b1, ⟨ho, g, vd, vr, vs, va, rfl, hst, hac⟩ | ⟨ho, s1, rfl⟩⟩
  · obtain ⟨aa, ca, rfl⟩ := slice_form hac
    have B1 := hide (HB0.out.trans (b1.mono HB0.out.size))
    have HST := hide hst
    have HBK1 := hide ((b1.block _ (heap_lt HBK.out)).trans HBK.out)
    obtain ⟨hy0, hy1, hy2, hy3, hy4, -⟩ := five_cells HBK1.out
    obtain ⟨ad3, cd3, hvd, hvd2⟩ := rowF_at hst.disk
    obtain ⟨ar3, cr3, hvr, hvr2⟩ := rowSpot_at hst.dir
    obtain ⟨as3, cs3, hvs⟩ := buildG_form hst.segs
    subst hvd hvr hvs
    obtain ⟨k0, k1, k2, k3, k4, k5, k6, k7, -⟩ := eight_cells hst.blk
    have HRM := open_room ho
    cases hc : calmB fs with
    | true =>
      have hA := calm_acts hc
      have HSM := hide (fun W h1 h2 => sameAs_any (.slice ad3 (actsF fs (actsI fs)).1.length cd3) (.slice ao fs.length cap) room ((lastG fs).num : Int) (seqD (segsL fs)) room act seq (dirD fs) dir ar3 ad cr3 cd W ⟨_, _, _, rfl⟩ ⟨_, _, _, rfl⟩ (by have := dirD_len fs; omega) h1 h2)
      obtain ⟨R, HR⟩ : ∃ R, Hid (sameB ((lastG fs).num : Int) (seqD (segsL fs)) (dirD fs) act seq dir = R) := ⟨_, hide rfl⟩
      rw [HR.out] at HSM
      have HEB : Hid (engB fs room act seq dir ↔ R = true) := by
        show _ ↔ _
        rw [← HR.out, same_iff]
        exact ⟨fun h => h.2.2.2, fun h => ⟨HRM.1, HRM.2, hc, h⟩⟩
      have hlen : (actsI fs).length = 0 := by rw [hA]; rfl
      rw [hlen]
      have HVR := hide hvr2
      have hgl : g < w1.heap.size := heap_lt HST.out.blk
      have hwl : w.heap.size < w1.heap.size := heap_lt HBK1.out
      have KS : Hid (∀ X, Below w1.heap.size w1 X → (X.cell? ⟨g, 2, none⟩ = some (.slice ad3 (actsF fs (actsI fs)).1.length cd3) ∧ X.cell? ⟨g, 3, none⟩ = some (.int .i64 room) ∧ X.cell? ⟨g, 4, none⟩ = some (.int .i64 ((lastG fs).num : Int)) ∧ X.cell? ⟨g, 5, none⟩ = some (.int .i64 (seqD (segsL fs))) ∧ X.cell? ⟨g, 6, none⟩ = some (.slice ar3 (dirD fs).length cr3) ∧ X.cell? ⟨w.heap.size, 0, none⟩ = some (.slice ao fs.length cap) ∧ X.cell? ⟨w.heap.size, 1, none⟩ = some (.int .i64 room) ∧ X.cell? ⟨w.heap.size, 2, none⟩ = some (.int .i64 act) ∧ X.cell? ⟨w.heap.size, 3, none⟩ = some (.int .i64 seq) ∧ X.cell? ⟨w.heap.size, 4, none⟩ = some (.slice ad dir.length cd))) := fun X hX => ⟨(hX.cell (p := ⟨g, 2, none⟩) hgl).trans k2, (hX.cell (p := ⟨g, 3, none⟩) hgl).trans k3, (hX.cell (p := ⟨g, 4, none⟩) hgl).trans k4, (hX.cell (p := ⟨g, 5, none⟩) hgl).trans k5, (hX.cell (p := ⟨g, 6, none⟩) hgl).trans k6, (hX.cell (p := ⟨w.heap.size, 0, none⟩) hwl).trans hy0, (hX.cell (p := ⟨w.heap.size, 1, none⟩) hwl).trans hy1, (hX.cell (p := ⟨w.heap.size, 2, none⟩) hwl).trans hy2, (hX.cell (p := ⟨w.heap.size, 3, none⟩) hwl).trans hy3, (hX.cell (p := ⟨w.heap.size, 4, none⟩) hwl).trans hy4⟩
      have HSW : Hid (∀ X, Below w1.heap.size w1 X → Calls Tryz.prog 89 #[.agg #[.slice ad3 (actsF fs (actsI fs)).1.length cd3, .int .i64 room, .int .i64 ((lastG fs).num : Int), .int .i64 (seqD (segsL fs)), .slice ar3 (dirD fs).length cr3], .agg #[.slice ao fs.length cap, .int .i64 room, .int .i64 act, .int .i64 seq, .slice ad dir.length cd]] X fun e w' => e = .returned (.bool R) ∧ Below X.heap.size X w') := fun X hX => HSM.out X (spotsAt_keep HVR.out hX) (spotsAt_keep HD.out (B1.out.trans (hX.mono B1.out.size)))
      clear hst hac hc hA hvr2 hvd2 b1 HRM HSM HVR k0 k1 k7 hz0 hz1 hz2 hz3 hz4
      go_wp2_with fail
      go_region_held3 (fun w' => w'.cell? ⟨g, 2, none⟩ = some (.slice ad3 (actsF fs (actsI fs)).1.length cd3) ∧ w'.cell? ⟨g, 3, none⟩ = some (.int .i64 room) ∧ w'.cell? ⟨g, 4, none⟩ = some (.int .i64 ((lastG fs).num : Int)) ∧ w'.cell? ⟨g, 5, none⟩ = some (.int .i64 (seqD (segsL fs))) ∧ w'.cell? ⟨g, 6, none⟩ = some (.slice ar3 (dirD fs).length cr3) ∧ w'.cell? ⟨w.heap.size, 0, none⟩ = some (.slice ao fs.length cap) ∧ w'.cell? ⟨w.heap.size, 1, none⟩ = some (.int .i64 room) ∧ w'.cell? ⟨w.heap.size, 2, none⟩ = some (.int .i64 act) ∧ w'.cell? ⟨w.heap.size, 3, none⟩ = some (.int .i64 seq) ∧ w'.cell? ⟨w.heap.size, 4, none⟩ = some (.slice ad dir.length cd)) ((refine KS.out _ ?_; first | (exact e2) | (exact (Below.refl _ _).drew) | (exact Below.refl _ _) | fail)) ((go_at_call 89; refine (HSW.out _ ?_).mono ?_; exact (Below.refl _ _).drew; rintro e w2 ⟨rfl, b2⟩; have e2 : Below w1.heap.size w1 w2 := ((Below.refl _ _).drew).trans b2))
      have B2 := hide e2
      clear e2 b2
      cases hR : R with
      | true =>
        go_wp2
        refine bodyPost_ret (results_tmp2 rfl _ _ _) rfl ?_
        exact ⟨B1.out.trans (B2.out.mono B1.out.size), .inl ⟨HEB.out.2 hR, g, _, _, _, rfl, (HST.out.mono HB0.out.size).below B2.out⟩⟩
      | false =>
        go_wp2
        refine bodyPost_ret (results_tmp2 rfl _ _ _) rfl ?_
        have HNE : ¬ engB fs room act seq dir := fun h => absurd (HEB.out.1 h) (by rw [hR]; exact Bool.false_ne_true)
        exact ⟨B1.out.trans (B2.out.mono B1.out.size), .inr ⟨HNE, _, rfl⟩⟩
    | false =>
      have hne : 0 < (actsI fs).length := by
        cases hA : actsI fs with
        | nil => unfold calmB at hc; rw [hA] at hc; cases hc
        | cons x r => simp
      have hne' : decide ((0 : Int) < ((actsI fs).length : Int)) = true := by rw [decide_eq_true_eq]; omega
      have hnen : decide (0 < (actsI fs).length) = true := by rw [decide_eq_true_eq]; omega
      have HEB : Hid (¬ engB fs room act seq dir) := fun he => by rw [he.2.2.1] at hc; cases hc
      generalize (actsI fs).length = LA at hne hne' hnen
      clear hst hac hc hvr2 hvd2 b1 HRM
      go_wp2_with fail
      go_quiet (fail)
      go_wp2
      refine bodyPost_ret (results_tmp2 rfl _ _ _) rfl ?_
      exact ⟨below_drewN B1.out _, .inr ⟨HEB.out, _, rfl⟩⟩
  · have HE := hide (eng_not_open (act := act) (seq := seq) (dir := dir) ho)
    go_wp2
    go_ret2
    exact ⟨HB0.out.trans (b1.mono HB0.out.size), .inr ⟨HE.out, _, rfl⟩⟩

set_option maxRecDepth 100000 in
set_option maxHeartbeats 1600000 in
theorem implEngineOk_any (fs : List FileD) (ao ad : Option Addr) (cap cd : Nat) (room act seq : Int) (dir : List SpotD) (w : World) (hl : fs.length ≤ 1048576) (hfs : FilesAt w ao fs) (hsz : ∀ F ∈ fs, F.name.size ≤ 1048576 ∧ F.text.size ≤ 1048576) (hds : SpotsAt w ad dir) (hT : SumTab w) :
    Calls Tryz.prog 14 #[.agg #[.slice ao fs.length cap, .int .i64 room, .int .i64 act, .int .i64 seq, .slice ad dir.length cd]] w fun e w' => e = .returned (.bool (engOkB fs room act seq dir)) ∧ Below w.heap.size w w' := by
  have HSO := hide (fun W h1 h2 hT => storeOf_any fs ao ad cap cd room act seq dir W hl h1 hsz h2 hT)
  have HF := hide hfs
  have HD := hide hds
  have HT := hide hT
  clear hfs hds hsz hT
  obtain ⟨wb, hwb⟩ : ∃ wb, wb = w.alloc (.cells #[.slice ao fs.length cap, .int .i64 room, .int .i64 act, .int .i64 seq, .slice ad dir.length cd] 30) := ⟨_, rfl⟩
  have HB0 : Hid (Below w.heap.size w wb) := by rw [hwb]; exact (Below.refl _ w).alloc (Nat.le_refl _) _
  obtain ⟨R, HR⟩ : ∃ R, Hid (engOkB fs room act seq dir = R) := ⟨_, hide rfl⟩
  rw [HR.out]
  go_enter Tryz.func14, Tryz.ntmps14
  go_wp2_with fail
  rw [← hwb]
  clear hwb
  refine (HSO.out _ (filesAt_keep HF.out HB0.out) (spotsAt_keep HD.out HB0.out) (sumTab_later HB0.out HT.out)).mono ?_
  rintro e w1 ⟨b1, ⟨he, g, vd, vr, vs, rfl, -⟩ | ⟨he, s, rfl⟩⟩
  · have hR : Hid (R = true) := HR.out.symm.trans (engOkB_yes he)
    go_wp2
    go_ret
    rw [hR.out]
    exact ⟨rfl, HB0.out.trans (b1.mono HB0.out.size)⟩
  · have hR : Hid (R = false) := HR.out.symm.trans (engOkB_no he)
    go_wp2
    go_ret
    rw [hR.out]
    exact ⟨rfl, HB0.out.trans (b1.mono HB0.out.size)⟩
end Go.Proofs.YtmmchemgegmhhaaGreatDoor
