/- A copy of an engine, as the specification makes it. -/
import Derived.Test.YtmmchemgegmhhaaGreatDoorActsSO
import Derived.Test.YtmmchemgegmhhaaGreatDoorSpotL
import Derived.Test.YtmmchemgegmhhaaGreatDoorEngS2
namespace Go.Proofs.YtmmchemgegmhhaaGreatDoor
open Go.RowKit

theorem spots_cells {w : World} {b off : Nat} {fs : List SpotD} (h : SpotsAt w (some ⟨b, off, none⟩) fs) : ∀ j u, (cellsSpot fs)[j]? = some u → w.cell? ((⟨b, off, none⟩ : Addr).add j) = some u := by
  intro j u hu
  have hjl : j < fs.length * 4 := by
    have := (List.getElem?_eq_some_iff.1 hu).1
    rw [cellsSpot_length] at this
    exact this
  have ha : ((⟨b, off, none⟩ : Addr).add j) = ⟨b, off + j, none⟩ := by cases j <;> simp [Addr.add]
  rw [ha]
  have hq : j / 4 < fs.length := by omega
  obtain ⟨b', off', e, -, h0, h1, h2, h3⟩ := h (j / 4) hq
  cases e
  obtain ⟨g0, g1, g2, g3⟩ := cellsSpot_get fs (j / 4) hq
  have hr : j = j / 4 * 4 ∨ j = j / 4 * 4 + 1 ∨ j = j / 4 * 4 + 2 ∨ j = j / 4 * 4 + 3 := by omega
  rcases hr with e | e | e | e
  · rw [← e] at h0 g0
    rw [h0, ← hu, g0]
  · rw [Nat.add_assoc, ← e] at h1
    rw [← e] at g1
    rw [h1, ← hu, g1]
  · rw [Nat.add_assoc, ← e] at h2
    rw [← e] at g2
    rw [h2, ← hu, g2]
  · rw [Nat.add_assoc, ← e] at h3
    rw [← e] at g3
    rw [h3, ← hu, g3]
/-- Spots, nil too, put behind an empty row of the call's own. -/
theorem app_spotsO {ops : Array Oper} {rest : List Oper} {o : Oper} {a : Act} {Q : Exit → Act → World → Prop} (W : World) (B : Nat) (hgd : o.guard = none) (s x : Operand)
    (ho : o.op = .call { callee := .builtin .append, args := #[s, x], argTypes := #[28, 28] }) (v : Value) (fs : List SpotD) (hs : a.eval s = v)
    (hown : W.ownsRow B 89 4 v 0 []) (ao : Option Addr) (cap : Nat) (hx : a.eval x = .slice ao fs.length cap) (hfs : SpotsAt W ao fs)
    (hlen : fs.length ≤ 1048576) (hbase : B ≤ W.heap.size)
    (h : ∀ v' w', w'.ownsRow B 89 4 v' fs.length (cellsSpot fs) → Below B W w' → wpList Tryz.prog ops Q rest (a.put o.dst v') w') :
    wpList Tryz.prog ops Q (o :: rest) a W := by
  obtain ⟨i0, hi, hz0, hz1, hz2⟩ := info_parts Tryz.infoSpot
  by_cases hz : fs.length = 0
  · have hnil := List.eq_nil_of_length_eq_zero hz
    subst hnil
    obtain ⟨bs, cs, rfl⟩ := slice_form hown
    have hr := run_append_nothing (P := Tryz.prog) W 28 28 o.type 89 i0 Tryz.underlying28 hi bs 0 cs (Nat.zero_le _) (.slice ao 0 cap) (by cases ao with | none => exact Src.ofNil W Tryz.underlying28 cap | some p => exact Src.ofSlice W Tryz.underlying28 p 0 cap [] (by simp) (by simp) (by simp))
    refine wpList_plain hgd fun K hK => ?_
    unfold Oper.wp execOp
    simp only [ho, resolve, invoke, builtin, Sem.run_bind, Sem.run_pure, Result.andThen_ok, List.map_toArray, List.map_cons, List.map_nil, hs, hx, List.length_nil, hr]
    exact hK _ _ (h _ W hown (Below.refl _ _))
  · obtain ⟨b, off, rfl, _⟩ := hfs 0 (by omega)
    refine wpList_append_own W hgd s x 28 ho B 89 i0 (.agg #[.string ⟨#[]⟩, .int .i64 0, .int .i64 0, .int .i64 0]) 4 40 Tryz.underlying28 hi hz0 hz1 hz2 rfl (by decide) v 0 [] hs hown ⟨b, off, none⟩ fs.length cap (cellsSpot fs) hx (cellsSpot_length fs)
      (spots_cells hfs) (cellsSpot_one fs) (by unfold maxLen; omega) (by omega) hbase ?_
    intro v' w' hown' hgrow _
    have hlt := hown.lt
    rw [Nat.zero_add, List.nil_append] at hown'
    exact h v' w' hown' ((Below.refl B W).grown hgrow hbase (fun k hk => (hlt k hk).1))

set_option maxRecDepth 100000 in
set_option maxHeartbeats 3200000 in
theorem l08Copy_any (fs : List FileD) (ao ad : Option Addr) (cap cd : Nat) (room act seq : Int) (dir : List SpotD) (w : World) (hl : fs.length ≤ 1048576) (hfs : FilesAt w ao fs) (hld : dir.length ≤ 1048576) (hds : SpotsAt w ad dir) :
    Calls Tryz.prog 76 #[.agg #[.slice ao fs.length cap, .int .i64 room, .int .i64 act, .int .i64 seq, .slice ad dir.length cd]] w fun e w' => (∃ vd vr, e = .returned (.agg #[vd, .int .i64 room, .int .i64 act, .int .i64 seq, vr]) ∧ RowF w' w.heap.size vd fs ∧ RowSpot w' w.heap.size vr dir) ∧ Below w.heap.size w w' := by
  have HF := hide hfs
  have HD := hide hds
  clear hfs hds
  obtain ⟨wb, hwb⟩ : ∃ wb, wb = ((w.alloc (.cells #[.slice ao fs.length cap, .int .i64 room, .int .i64 act, .int .i64 seq, .slice ad dir.length cd] 30)).alloc (.cells #[.slice none 0 0, .int .i64 0, .int .i64 0, .int .i64 0, .slice none 0 0] 30)).alloc (.cells #[] 74) := ⟨_, rfl⟩
  have hbs : wb.heap.size = w.heap.size + 1 + 1 + 1 := by rw [hwb]; simp
  have HBb : Hid (Below w.heap.size w wb) := by rw [hwb]; exact (((Below.refl _ w).alloc (Nat.le_refl _) _).alloc (by simp) _).alloc (by simp; omega) _
  have D_wb : Hid (wb.heap[w.heap.size]? = some (.cells #[.slice ao fs.length cap, .int .i64 room, .int .i64 act, .int .i64 seq, .slice ad dir.length cd] 30 (0, 0))) := by rw [hwb]; exact blk_below (blk_below (heap_alloc_new w _) ((Below.refl _ _).alloc (Nat.le_refl _) _)) ((Below.refl _ _).alloc (Nat.le_refl _) _)
  have R_wb : Hid (wb.heap[w.heap.size + 1]? = some (.cells #[.slice none 0 0, .int .i64 0, .int .i64 0, .int .i64 0, .slice none 0 0] 30 (0, 0))) := by
    rw [hwb]
    refine blk_below ?_ ((Below.refl _ _).alloc (Nat.le_refl _) _)
    rw [show w.heap.size + 1 = (w.alloc (.cells #[.slice ao fs.length cap, .int .i64 room, .int .i64 act, .int .i64 seq, .slice ad dir.length cd] 30)).heap.size from by simp]
    exact heap_alloc_new _ _
  have HE : Hid (wb.ownsRow (w.heap.size + 1 + 1) 74 3 (.slice (some ⟨w.heap.size + 1 + 1, 0, none⟩) 0 0) 0 []) := by
    refine ⟨rfl, .inr ⟨w.heap.size + 1 + 1, 0, #[], rfl, Nat.le_refl _, ?_, Nat.le_refl _, Nat.zero_le _, rfl, rfl⟩⟩
    rw [hwb, show w.heap.size + 1 + 1 = ((w.alloc (.cells #[.slice ao fs.length cap, .int .i64 room, .int .i64 act, .int .i64 seq, .slice ad dir.length cd] 30)).alloc (.cells #[.slice none 0 0, .int .i64 0, .int .i64 0, .int .i64 0, .slice none 0 0] 30)).heap.size from by simp]
    exact heap_alloc_new _ _
  obtain ⟨hz0, hz1, hz2, hz3, hz4, -⟩ := five_cells D_wb.out
  rw [hwb] at hz0 hz1 hz2 hz3 hz4
  go_enter Tryz.func76, Tryz.ntmps76
  go_wp2_with (first | (at_builtin; refine app_filesO _ (w.heap.size + 1 + 1) rfl _ _ rfl _ fs rfl (by rw [← hwb]; exact HE.out) ao cap rfl (by rw [← hwb]; exact filesAt_keep HF.out HBb.out) hl (by rw [← hwb]; omega) ?_; intro v1 w1 hown1 hb1; obtain ⟨a1, c1, rfl⟩ := slice_form hown1; rw [← hwb] at hb1; have D1 := hide ((hb1.block _ (show w.heap.size < w.heap.size + 1 + 1 by omega)).trans D_wb.out); obtain ⟨q0, q1, q2, q3, q4, p0, p1, p2, p3, p4⟩ := five_cells D1.out; have hb1s := hb1.size; have K2 := hide (blk_below ((heap_setCell_same w1 w.heap.size 0 _ _ (.slice a1 fs.length c1) D1.out).trans rfl) ((Below.refl _ (w1.setCell ⟨w.heap.size, 0, none⟩ (.slice a1 fs.length c1))).alloc (Nat.le_refl _) (.cells #[] 89))); obtain ⟨r0, r1, r2, r3, r4, -⟩ := five_cells K2.out; obtain ⟨wc, hwc⟩ : ∃ wc, wc = (w1.setCell ⟨w.heap.size, 0, none⟩ (.slice a1 fs.length c1)).alloc (.cells #[] 89) := ⟨_, rfl⟩; have hcs : wc.heap.size = w1.heap.size + 1 := (by rw [hwc]; simp); have HB1 := hide (HBb.out.trans (hb1.mono (show w.heap.size ≤ w.heap.size + 1 + 1 by omega))); have HBc : Hid (Below w.heap.size w wc) := (by show Below w.heap.size w wc; rw [hwc]; exact ((HB1.out.setCell (p := ⟨w.heap.size, 0, none⟩) (Nat.le_refl _) _).alloc (by simp; omega) _)); have HEc : Hid (wc.ownsRow w1.heap.size 89 4 (.slice (some ⟨w1.heap.size, 0, none⟩) 0 0) 0 []) := (by show wc.ownsRow w1.heap.size 89 4 (.slice (some ⟨w1.heap.size, 0, none⟩) 0 0) 0 []; refine ⟨rfl, .inr ⟨w1.heap.size, 0, #[], rfl, Nat.le_refl _, ?_, Nat.le_refl _, Nat.zero_le _, rfl, rfl⟩⟩; rw [hwc]; have hh := heap_alloc_new (w1.setCell ⟨w.heap.size, 0, none⟩ (.slice a1 fs.length c1)) (.cells #[] 89); simpa using hh); have R_wc : Hid (wc.heap[w.heap.size + 1]? = some (.cells #[.slice none 0 0, .int .i64 0, .int .i64 0, .int .i64 0, .slice none 0 0] 30 (0, 0))) := (by show _ = _; rw [hwc]; refine blk_below ((Below.heap_setCell w1 ⟨w.heap.size, 0, none⟩ (.slice a1 fs.length c1) (w.heap.size + 1) (by show w.heap.size + 1 ≠ w.heap.size; omega)).trans ((hb1.block _ (show w.heap.size + 1 < w.heap.size + 1 + 1 by omega)).trans R_wb.out)) ((Below.refl _ _).alloc (Nat.le_refl _) _)); have hrow1 := rowF_own hown1; have P_wc : Hid (RowF wc (w.heap.size + 1 + 1) (.slice a1 fs.length c1) fs) := (by show RowF _ _ _ _; rw [hwc]; refine rowF_below (rowF_keep hrow1 (fun g hg => Below.heap_setCell w1 ⟨w.heap.size, 0, none⟩ (.slice a1 fs.length c1) g (by show g ≠ w.heap.size; have := (rowF_lt hrow1 g hg).1; omega))) ((Below.refl _ _).alloc (Nat.le_refl _) _)); have U_wc : Hid (∀ g, (Value.slice a1 fs.length c1).ownBlock = some g → w.heap.size + 1 + 1 ≤ g ∧ g < w1.heap.size) := rowF_lt hrow1; rw [← hwc] at K2) | (at_builtin; refine app_spotsO _ w1.heap.size rfl _ _ rfl _ dir rfl (by rw [← hwc]; exact HEc.out) ad cd rfl (by rw [← hwc]; exact spotsAt_keep HD.out HBc.out) hld (by rw [← hwc]; omega) ?_; intro v2 w2 hown2 hb2; obtain ⟨a2, c2, rfl⟩ := slice_form hown2; rw [← hwc] at hb2; have hb2s := hb2.size; have D2 := hide ((hb2.block _ (show w.heap.size < w1.heap.size by omega)).trans K2.out); obtain ⟨t0, t1, t2, t3, t4, o0, o1, o2, o3, o4⟩ := five_cells D2.out; have K3 := hide ((heap_setCell_same w2 w.heap.size 4 _ _ (.slice a2 dir.length c2) D2.out).trans rfl); obtain ⟨n0, n1, n2, n3, n4, -⟩ := five_cells K3.out; have R3 : Hid ((w2.setCell ⟨w.heap.size, 4, none⟩ (.slice a2 dir.length c2)).heap[w.heap.size + 1]? = some (.cells #[.slice none 0 0, .int .i64 0, .int .i64 0, .int .i64 0, .slice none 0 0] 30 (0, 0))) := ((Below.heap_setCell w2 ⟨w.heap.size, 4, none⟩ (.slice a2 dir.length c2) (w.heap.size + 1) (by show w.heap.size + 1 ≠ w.heap.size; omega)).trans ((hb2.block _ (show w.heap.size + 1 < w1.heap.size by omega)).trans R_wc.out)); obtain ⟨m0, m1, m2, m3, m4, e0, e1, e2, e3, e4⟩ := five_cells R3.out))
  have hrow2 := rowSpot_own hown2
  have HBs : Hid (Below w.heap.size w (w2.setCell ⟨w.heap.size, 4, none⟩ (.slice a2 dir.length c2))) := (HBc.out.trans (hb2.mono (by omega))).setCell (p := ⟨w.heap.size, 4, none⟩) (Nat.le_refl _) _
  have PF : Hid (RowF (w2.setCell ⟨w.heap.size, 4, none⟩ (.slice a2 dir.length c2)) w.heap.size (.slice a1 fs.length c1) fs) := rowF_le (rowF_keep P_wc.out (fun g hg => by
    have h1 := U_wc.out g hg
    exact (Below.heap_setCell w2 ⟨w.heap.size, 4, none⟩ (.slice a2 dir.length c2) g (by show g ≠ w.heap.size; omega)).trans (hb2.block _ h1.2))) (by omega)
  have PS : Hid (RowSpot (w2.setCell ⟨w.heap.size, 4, none⟩ (.slice a2 dir.length c2)) w.heap.size (.slice a2 dir.length c2) dir) := rowSpot_le (rowSpot_keep hrow2 (fun g hg => by
    have h1 := (rowSpot_lt hrow2 g hg).1
    exact Below.heap_setCell w2 ⟨w.heap.size, 4, none⟩ (.slice a2 dir.length c2) g (by show g ≠ w.heap.size; omega))) (by omega)
  obtain ⟨y0, y1, y2⟩ := box5 (.slice a1 fs.length c1) (.int .i64 room) (.int .i64 act) (.int .i64 seq) (.slice a2 dir.length c2) R3.out HBs.out (Nat.le_succ _) _ rfl
  obtain ⟨x0, x1, x2, x3, x4, -⟩ := five_cells y0
  refine bodyPost_ret (v := .agg #[.slice a1 fs.length c1, .int .i64 room, .int .i64 act, .int .i64 seq, .slice a2 dir.length c2]) ?_ rfl ?_
  · simp [results, Tryz.results76, go_sem, x0, x1, x2, x3, x4]
  · exact ⟨⟨_, _, rfl, files_box PF.out R3.out y2, spots_box PS.out R3.out y2⟩, y1⟩
end Go.Proofs.YtmmchemgegmhhaaGreatDoor
