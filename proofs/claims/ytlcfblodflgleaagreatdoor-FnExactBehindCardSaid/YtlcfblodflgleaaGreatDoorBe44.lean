import Derived.Test.YtlcfblodflgleaaGreatDoorBe6
import Derived.Test.YtlcfblodflgleaaGreatDoorBe7
import Derived.Test.YtlcfblodflgleaaGreatDoorBe43
import Derived.Test.YtlcfblodflgleaaGreatDoorBe2
import Derived.Test.YtlcfblodflgleaaGreatDoorBe3
set_option maxRecDepth 100000
set_option maxHeartbeats 4000000
namespace Go.Proofs.YtlcfblodflgleaaGreatDoor
open Go.RowKit
theorem spots_cells {w : World} {b off : Nat} {fs : List SpotD} (h : SpotsAt w (some ⟨b, off, none⟩) fs) : ∀ j u, (cellsSpot fs)[j]? = some u → w.cell? ((⟨b, off, none⟩ : Addr).add j) = some u := by
  intro j u hu
  have hjl : j < fs.length * 4 := by
    have := (List.getElem?_eq_some_iff.1 hu).1
    rw [cellsSpot_length] at this
    exact this
  have ha : ((⟨b, off, none⟩ : Addr).add j) = ⟨b, off + j, none⟩ := by cases j <;> simp [Addr.add]
  rw [ha]
  have hq : j / 4 < fs.length := by omega
  obtain ⟨b', off', e, -, h0, h1, h2, h3⟩ := h (j / 4) hq
  cases e
  obtain ⟨g0, g1, g2, g3⟩ := cellsSpot_get fs (j / 4) hq
  have hr : j = j / 4 * 4 ∨ j = j / 4 * 4 + 1 ∨ j = j / 4 * 4 + 2 ∨ j = j / 4 * 4 + 3 := by omega
  rcases hr with e | e | e | e
  · rw [← e] at h0 g0
    rw [h0, ← hu, g0]
  · rw [Nat.add_assoc, ← e] at h1
    rw [← e] at g1
    rw [h1, ← hu, g1]
  · rw [Nat.add_assoc, ← e] at h2
    rw [← e] at g2
    rw [h2, ← hu, g2]
  · rw [Nat.add_assoc, ← e] at h3
    rw [← e] at g3
    rw [h3, ← hu, g3]
theorem app_spotsO {ops : Array Oper} {rest : List Oper} {o : Oper} {a : Act} {Q : Exit → Act → World → Prop} (W : World) (B : Nat) (hgd : o.guard = none) (s x : Operand)
    (ho : o.op = .call { callee := .builtin .append, args := #[s, x], argTypes := #[32, 32] }) (v : Value) (fs : List SpotD) (hs : a.eval s = v)
    (hown : W.ownsRow B 120 4 v 0 []) (ao : Option Addr) (cap : Nat) (hx : a.eval x = .slice ao fs.length cap) (hfs : SpotsAt W ao fs)
    (hlen : fs.length ≤ 1048576) (hbase : B ≤ W.heap.size)
    (h : ∀ v' w', w'.ownsRow B 120 4 v' fs.length (cellsSpot fs) → Below B W w' → wpList Tryz.prog ops Q rest (a.put o.dst v') w') :
    wpList Tryz.prog ops Q (o :: rest) a W := by
  obtain ⟨i0, hi, hz0, hz1, hz2⟩ := info_parts Tryz.infoSpot
  by_cases hz : fs.length = 0
  · have hnil := List.eq_nil_of_length_eq_zero hz
    subst hnil
    obtain ⟨bs, cs, rfl⟩ := slice_form hown
    have hr := run_append_nothing (P := Tryz.prog) W 32 32 o.type 120 i0 Tryz.underlying32 hi bs 0 cs (Nat.zero_le _) (.slice ao 0 cap) (by cases ao with | none => exact Src.ofNil W Tryz.underlying32 cap | some p => exact Src.ofSlice W Tryz.underlying32 p 0 cap [] (by simp) (by simp) (by simp))
    refine wpList_plain hgd fun K hK => ?_
    unfold Oper.wp execOp
    simp only [ho, resolve, invoke, builtin, Sem.run_bind, Sem.run_pure, Result.andThen_ok, List.map_toArray, List.map_cons, List.map_nil, hs, hx, List.length_nil, hr]
    exact hK _ _ (h _ W hown (Below.refl _ _))
  · obtain ⟨b, off, rfl, _⟩ := hfs 0 (by omega)
    refine wpList_append_own W hgd s x 32 ho B 120 i0 (.agg #[.string ⟨#[]⟩, .int .i64 0, .int .i64 0, .int .i64 0]) 4 40 Tryz.underlying32 hi hz0 hz1 hz2 rfl (by decide) v 0 [] hs hown ⟨b, off, none⟩ fs.length cap (cellsSpot fs) hx (cellsSpot_length fs)
      (spots_cells hfs) (cellsSpot_one fs) (by unfold maxLen; omega) (by omega) hbase ?_
    intro v' w' hown' hgrow _
    have hlt := hown.lt
    rw [Nat.zero_add, List.nil_append] at hown'
    exact h v' w' hown' ((Below.refl B W).grown hgrow hbase (fun k hk => (hlt k hk).1))
theorem l08Copy_any (fs : List FileD) (ao ad : Option Addr) (cap cd : Nat) (room act seq : Int) (dir : List SpotD) (w : World) (hl : fs.length ≤ 1048576) (hfs : FilesAt w ao fs) (hld : dir.length ≤ 1048576) (hds : SpotsAt w ad dir) :
    Calls Tryz.prog 42 #[.agg #[.slice ao fs.length cap, .int .i64 room, .int .i64 act, .int .i64 seq, .slice ad dir.length cd]] w fun e w' => (∃ vd vr, e = .returned (.agg #[vd, .int .i64 room, .int .i64 act, .int .i64 seq, vr]) ∧ RowF w' w.heap.size vd fs ∧ RowSpot w' w.heap.size vr dir) ∧ Below w.heap.size w w' := by
  have HF := hide hfs
  have HD := hide hds
  clear hfs hds
  obtain ⟨wb, hwb⟩ : ∃ wb, wb = ((w.alloc (.cells #[.slice ao fs.length cap, .int .i64 room, .int .i64 act, .int .i64 seq, .slice ad dir.length cd] 34)).alloc (.cells #[.slice none 0 0, .int .i64 0, .int .i64 0, .int .i64 0, .slice none 0 0] 34)).alloc (.cells #[] 109) := ⟨_, rfl⟩
  have hbs : wb.heap.size = w.heap.size + 1 + 1 + 1 := by rw [hwb]; simp
  have HBb : Hid (Below w.heap.size w wb) := by rw [hwb]; exact (((Below.refl _ w).alloc (Nat.le_refl _) _).alloc (by simp) _).alloc (by simp; omega) _
  have D_wb : Hid (wb.heap[w.heap.size]? = some (.cells #[.slice ao fs.length cap, .int .i64 room, .int .i64 act, .int .i64 seq, .slice ad dir.length cd] 34 (0, 0))) := by rw [hwb]; exact blk_below (blk_below (heap_alloc_new w _) ((Below.refl _ _).alloc (Nat.le_refl _) _)) ((Below.refl _ _).alloc (Nat.le_refl _) _)
  have R_wb : Hid (wb.heap[w.heap.size + 1]? = some (.cells #[.slice none 0 0, .int .i64 0, .int .i64 0, .int .i64 0, .slice none 0 0] 34 (0, 0))) := by
    rw [hwb]
    refine blk_below ?_ ((Below.refl _ _).alloc (Nat.le_refl _) _)
    rw [show w.heap.size + 1 = (w.alloc (.cells #[.slice ao fs.length cap, .int .i64 room, .int .i64 act, .int .i64 seq, .slice ad dir.length cd] 34)).heap.size from by simp]
    exact heap_alloc_new _ _
  have HE : Hid (wb.ownsRow (w.heap.size + 1 + 1) 109 3 (.slice (some ⟨w.heap.size + 1 + 1, 0, none⟩) 0 0) 0 []) := by
    refine ⟨rfl, .inr ⟨w.heap.size + 1 + 1, 0, #[], rfl, Nat.le_refl _, ?_, Nat.le_refl _, Nat.zero_le _, rfl, rfl⟩⟩
    rw [hwb, show w.heap.size + 1 + 1 = ((w.alloc (.cells #[.slice ao fs.length cap, .int .i64 room, .int .i64 act, .int .i64 seq, .slice ad dir.length cd] 34)).alloc (.cells #[.slice none 0 0, .int .i64 0, .int .i64 0, .int .i64 0, .slice none 0 0] 34)).heap.size from by simp]
    exact heap_alloc_new _ _
  obtain ⟨hz0, hz1, hz2, hz3, hz4, -⟩ := five_cells D_wb.out
  rw [hwb] at hz0 hz1 hz2 hz3 hz4
  go_enter Tryz.func42, Tryz.ntmps42
  go_wp2_with (first | (at_builtin; refine app_filesO _ (w.heap.size + 1 + 1) rfl _ _ rfl _ fs rfl (by rw [← hwb]; exact HE.out) ao cap rfl (by rw [← hwb]; exact filesAt_keep HF.out HBb.out) hl (by rw [← hwb]; omega) ?_; intro v1 w1 hown1 hb1; obtain ⟨a1, c1, rfl⟩ := slice_form hown1; rw [← hwb] at hb1; have D1 := hide ((hb1.block _ (show w.heap.size < w.heap.size + 1 + 1 by omega)).trans D_wb.out); obtain ⟨q0, q1, q2, q3, q4, p0, p1, p2, p3, p4⟩ := five_cells D1.out; have hb1s := hb1.size; have K2 := hide (blk_below ((heap_setCell_same w1 w.heap.size 0 _ _ (.slice a1 fs.length c1) D1.out).trans rfl) ((Below.refl _ (w1.setCell ⟨w.heap.size, 0, none⟩ (.slice a1 fs.length c1))).alloc (Nat.le_refl _) (.cells #[] 120))); obtain ⟨r0, r1, r2, r3, r4, -⟩ := five_cells K2.out; obtain ⟨wc, hwc⟩ : ∃ wc, wc = (w1.setCell ⟨w.heap.size, 0, none⟩ (.slice a1 fs.length c1)).alloc (.cells #[] 120) := ⟨_, rfl⟩; have hcs : wc.heap.size = w1.heap.size + 1 := (by rw [hwc]; simp); have HB1 := hide (HBb.out.trans (hb1.mono (show w.heap.size ≤ w.heap.size + 1 + 1 by omega))); have HBc : Hid (Below w.heap.size w wc) := (by show Below w.heap.size w wc; rw [hwc]; exact ((HB1.out.setCell (p := ⟨w.heap.size, 0, none⟩) (Nat.le_refl _) _).alloc (by simp; omega) _)); have HEc : Hid (wc.ownsRow w1.heap.size 120 4 (.slice (some ⟨w1.heap.size, 0, none⟩) 0 0) 0 []) := (by show wc.ownsRow w1.heap.size 120 4 (.slice (some ⟨w1.heap.size, 0, none⟩) 0 0) 0 []; refine ⟨rfl, .inr ⟨w1.heap.size, 0, #[], rfl, Nat.le_refl _, ?_, Nat.le_refl _, Nat.zero_le _, rfl, rfl⟩⟩; rw [hwc]; have hh := heap_alloc_new (w1.setCell ⟨w.heap.size, 0, none⟩ (.slice a1 fs.length c1)) (.cells #[] 120); simpa using hh); have R_wc : Hid (wc.heap[w.heap.size + 1]? = some (.cells #[.slice none 0 0, .int .i64 0, .int .i64 0, .int .i64 0, .slice none 0 0] 34 (0, 0))) := (by show _ = _; rw [hwc]; refine blk_below ((Below.heap_setCell w1 ⟨w.heap.size, 0, none⟩ (.slice a1 fs.length c1) (w.heap.size + 1) (by show w.heap.size + 1 ≠ w.heap.size; omega)).trans ((hb1.block _ (show w.heap.size + 1 < w.heap.size + 1 + 1 by omega)).trans R_wb.out)) ((Below.refl _ _).alloc (Nat.le_refl _) _)); have hrow1 := rowF_own hown1; have P_wc : Hid (RowF wc (w.heap.size + 1 + 1) (.slice a1 fs.length c1) fs) := (by show RowF _ _ _ _; rw [hwc]; refine rowF_below (rowF_keep hrow1 (fun g hg => Below.heap_setCell w1 ⟨w.heap.size, 0, none⟩ (.slice a1 fs.length c1) g (by show g ≠ w.heap.size; have := (rowF_lt hrow1 g hg).1; omega))) ((Below.refl _ _).alloc (Nat.le_refl _) _)); have U_wc : Hid (∀ g, (Value.slice a1 fs.length c1).ownBlock = some g → w.heap.size + 1 + 1 ≤ g ∧ g < w1.heap.size) := rowF_lt hrow1; rw [← hwc] at K2) | (at_builtin; refine app_spotsO _ w1.heap.size rfl _ _ rfl _ dir rfl (by rw [← hwc]; exact HEc.out) ad cd rfl (by rw [← hwc]; exact spotsAt_keep HD.out HBc.out) hld (by rw [← hwc]; omega) ?_; intro v2 w2 hown2 hb2; obtain ⟨a2, c2, rfl⟩ := slice_form hown2; rw [← hwc] at hb2; have hb2s := hb2.size; have D2 := hide ((hb2.block _ (show w.heap.size < w1.heap.size by omega)).trans K2.out); obtain ⟨t0, t1, t2, t3, t4, o0, o1, o2, o3, o4⟩ := five_cells D2.out; have K3 := hide ((heap_setCell_same w2 w.heap.size 4 _ _ (.slice a2 dir.length c2) D2.out).trans rfl); obtain ⟨n0, n1, n2, n3, n4, -⟩ := five_cells K3.out; have R3 : Hid ((w2.setCell ⟨w.heap.size, 4, none⟩ (.slice a2 dir.length c2)).heap[w.heap.size + 1]? = some (.cells #[.slice none 0 0, .int .i64 0, .int .i64 0, .int .i64 0, .slice none 0 0] 34 (0, 0))) := ((Below.heap_setCell w2 ⟨w.heap.size, 4, none⟩ (.slice a2 dir.length c2) (w.heap.size + 1) (by show w.heap.size + 1 ≠ w.heap.size; omega)).trans ((hb2.block _ (show w.heap.size + 1 < w1.heap.size by omega)).trans R_wc.out)); obtain ⟨m0, m1, m2, m3, m4, e0, e1, e2, e3, e4⟩ := five_cells R3.out))
  have hrow2 := rowSpot_own hown2
  have HBs : Hid (Below w.heap.size w (w2.setCell ⟨w.heap.size, 4, none⟩ (.slice a2 dir.length c2))) := (HBc.out.trans (hb2.mono (by omega))).setCell (p := ⟨w.heap.size, 4, none⟩) (Nat.le_refl _) _
  have PF : Hid (RowF (w2.setCell ⟨w.heap.size, 4, none⟩ (.slice a2 dir.length c2)) w.heap.size (.slice a1 fs.length c1) fs) := rowF_le (rowF_keep P_wc.out (fun g hg => by
    have h1 := U_wc.out g hg
    exact (Below.heap_setCell w2 ⟨w.heap.size, 4, none⟩ (.slice a2 dir.length c2) g (by show g ≠ w.heap.size; omega)).trans (hb2.block _ h1.2))) (by omega)
  have PS : Hid (RowSpot (w2.setCell ⟨w.heap.size, 4, none⟩ (.slice a2 dir.length c2)) w.heap.size (.slice a2 dir.length c2) dir) := rowSpot_le (rowSpot_keep hrow2 (fun g hg => by
    have h1 := (rowSpot_lt hrow2 g hg).1
    exact Below.heap_setCell w2 ⟨w.heap.size, 4, none⟩ (.slice a2 dir.length c2) g (by show g ≠ w.heap.size; omega))) (by omega)
  obtain ⟨y0, y1, y2⟩ := box5 (.slice a1 fs.length c1) (.int .i64 room) (.int .i64 act) (.int .i64 seq) (.slice a2 dir.length c2) R3.out HBs.out (Nat.le_succ _) _ rfl
  obtain ⟨x0, x1, x2, x3, x4, -⟩ := five_cells y0
  refine bodyPost_ret (v := .agg #[.slice a1 fs.length c1, .int .i64 room, .int .i64 act, .int .i64 seq, .slice a2 dir.length c2]) ?_ rfl ?_
  · simp [results, Tryz.results42, go_sem, x0, x1, x2, x3, x4]
  · exact ⟨⟨_, _, rfl, files_box PF.out R3.out y2, spots_box PS.out R3.out y2⟩, y1⟩
theorem szFs_small : ∀ (fs : List FileD) (n : Int), n ≤ 1048576 → 0 ≤ n → 0 ≤ szFs fs n → ∀ F ∈ fs, F.name.size ≤ 1048576 ∧ F.text.size ≤ 1048576
  | [], _, _, _, _, F, h => absurd h List.not_mem_nil
  | G :: r, n, h1, h2, h3, F, h => by
    rw [szFs] at h3
    by_cases hneg : szF G n < 0
    · rw [if_pos hneg] at h3; omega
    · rw [if_neg hneg] at h3
      have hle := szF_le G n h2
      rcases List.mem_cons.1 h with rfl | h
      · unfold szF at hneg
        split at hneg
        · omega
        · split at hneg <;> omega
      · exact szFs_small r _ (by omega) (by omega) h3 F h
theorem actsF_len : ∀ (qs : List ActD) (fs : List FileD), fs.length ≤ 1048576 → (actsF fs qs).1.length ≤ 1048576
  | [], fs, h => h
  | A :: r, fs, h => by
    rw [actsF]
    cases hact : actD fs A with
    | none => exact h
    | some g =>
      have := (disk_files (actD_ok hact)).1
      exact actsF_len r g (by omega)
theorem actsF_small : ∀ (qs : List ActD) (fs : List FileD), (∀ F ∈ fs, F.name.size ≤ 1048576 ∧ F.text.size ≤ 1048576) → ∀ F ∈ (actsF fs qs).1, F.name.size ≤ 1048576 ∧ F.text.size ≤ 1048576
  | [], fs, h => h
  | A :: r, fs, h => by
    rw [actsF]
    cases hact : actD fs A with
    | none => exact h
    | some g =>
      have hgo := disk_files (actD_ok hact)
      exact actsF_small r g (fun F hF => by have := hgo.2 F hF; omega)
theorem actsF_count : ∀ (qs : List ActD) (fs : List FileD), (actsF fs qs).2 ≤ qs.length
  | [], _ => Nat.le_refl _
  | A :: r, fs => by
    rw [actsF]
    cases hact : actD fs A with
    | none => exact Nat.zero_le _
    | some g =>
      have := actsF_count r g
      simp
      omega
theorem specLose_no (fs : List FileD) (ao : Option Addr) (cap : Nat) (lv : Value) (w : World) (hl : fs.length ≤ 1048576) (hfs : FilesAt w ao fs) (hsz : ∀ F ∈ fs, F.name.size ≤ 1048576 ∧ F.text.size ≤ 1048576) (hno : diskOkD fs = false) :
    Calls Tryz.prog 86 #[.agg #[.slice ao fs.length cap], lv] w fun e w' => e = .returned (.tuple #[.agg #[.slice none 0 0], .bool false]) ∧ Below w.heap.size w w' := by
  have HF := hide hfs
  have HS := hide hsz
  clear hfs hsz
  have HB0 : Hid (Below w.heap.size w ((w.alloc (.cells #[.slice ao fs.length cap] 31)).alloc (.cells #[.slice none 0 0] 31))) := ((Below.refl _ w).alloc (Nat.le_refl _) _).alloc (by simp) _
  go_enter Tryz.func86, Tryz.ntmps86
  go_wp2_with fail
  refine (specDiskOk_any fs ao cap _ hl (filesAt_keep HF.out HB0.out) (fun F h => ⟨small_max (HS.out F h).1, small_max (HS.out F h).2⟩)).mono ?_
  rintro e w1 ⟨rfl, b1⟩
  rw [hno]
  have hr : w1.heap[w.heap.size + 1]? = some (.cells #[.slice none 0 0] 31 (0, 0)) := (b1.block _ (by simp)).trans (by rw [show w.heap.size + 1 = (w.alloc (.cells #[.slice ao fs.length cap] 31)).heap.size from by simp]; exact heap_alloc_new _ _)
  have hq0 : w1.cell? ⟨w.heap.size + 1, 0, none⟩ = some (.slice none 0 0) := (cell_of_row w1 (w.heap.size + 1) 0 _ _ (0, 0) hr).trans rfl
  have hf0 := frozen_of_row w1 (w.heap.size + 1) 0 _ _ hr
  have HB1 := hide (HB0.out.trans (b1.mono HB0.out.size))
  clear b1 hr
  go_wp2
  refine bodyPost_ret (v := .tuple #[.agg #[.slice none 0 0], .bool false]) (by simp [results, Tryz.results86, go_sem, hq0]) rfl ⟨rfl, ?_⟩
  exact HB1.out.setCell (p := ⟨w.heap.size + 1, 0, none⟩) (by simp) _
theorem specLose_yes (fs : List FileD) (ao : Option Addr) (cap : Nat) (ls : List Int) (al : Option Addr) (capl : Nat) (w : World) (hfs : FilesAt w ao fs) (hls : IntsAt w al ls) (hok : diskOkD fs = true) :
    Calls Tryz.prog 86 #[.agg #[.slice ao fs.length cap], .slice al ls.length capl] w fun e w' => ∃ v, e = .returned (.tuple #[.agg #[v], .bool true]) ∧ RowF w' w.heap.size v (lostD fs ls) ∧ Below w.heap.size w w' := by
  have HF := hide hfs
  have HLS := hide hls
  have HOK := hide (disk_files hok)
  have hl : fs.length ≤ 30 := (disk_files hok).1
  clear hfs hls
  have HB0 : Hid (Below w.heap.size w ((w.alloc (.cells #[.slice ao fs.length cap] 31)).alloc (.cells #[.slice none 0 0] 31))) := ((Below.refl _ w).alloc (Nat.le_refl _) _).alloc (by simp) _
  go_enter Tryz.func86, Tryz.ntmps86
  go_wp2_with fail
  refine (specDiskOk_any fs ao cap _ (by omega) (filesAt_keep HF.out HB0.out) (fun F h => ⟨small_max (by have := HOK.out.2 F h; omega), small_max (by have := HOK.out.2 F h; omega)⟩)).mono ?_
  rintro e w1 ⟨rfl, b1⟩
  rw [hok]
  have HR1 : Hid (w1.heap[w.heap.size + 1]? = some (.cells #[.slice none 0 0] 31 (0, 0))) := (b1.block _ (by simp)).trans (by rw [show w.heap.size + 1 = (w.alloc (.cells #[.slice ao fs.length cap] 31)).heap.size from by simp]; exact heap_alloc_new _ _)
  have HX1 : Hid (w1.cell? ⟨w.heap.size, 0, none⟩ = some (.slice ao fs.length cap)) := (b1.cell (p := ⟨w.heap.size, 0, none⟩) (by simp; omega)).trans (by rw [World.cell?_alloc_lt _ _ _ (by simp)]; exact (cell_of_row _ _ _ _ _ (0, 0) (heap_alloc_new w _)).trans rfl)
  have hs1 : w.heap.size + 1 < w1.heap.size := by have := b1.size; simp at this; omega
  have HB1 := hide (HB0.out.trans (b1.mono HB0.out.size))
  clear b1
  obtain ⟨o, ho⟩ : ∃ o, o = w1.heap.size := ⟨_, rfl⟩
  obtain ⟨wb, hwb⟩ : ∃ wb, wb = w1.alloc (.cells #[.slice none 0 0] 31) := ⟨_, rfl⟩
  have HBb : Hid (Below w.heap.size w wb) := by rw [hwb]; exact HB1.out.alloc (by omega) _
  have hbs : wb.heap.size = o + 1 := by rw [hwb, ho]; simp
  have HOb : Hid (wb.heap[o]? = some (.cells #[.slice none 0 0] 31 (0, 0))) := by rw [hwb, ho]; exact heap_alloc_new _ _
  have HXb : Hid (wb.cell? ⟨w.heap.size, 0, none⟩ = some (.slice ao fs.length cap)) := by rw [hwb]; exact (((Below.refl _ w1).alloc (Nat.le_refl _) _).cell (p := ⟨w.heap.size, 0, none⟩) (by show w.heap.size < _; omega)).trans HX1.out
  have HRb : Hid (wb.heap[w.heap.size + 1]? = some (.cells #[.slice none 0 0] 31 (0, 0))) := by rw [hwb]; exact (((Below.refl _ w1).alloc (Nat.le_refl _) _).block _ (by omega)).trans HR1.out
  go_wp2_with fail
  rw [← hwb, ← ho]
  have hso : w.heap.size + 1 < o := by omega
  clear hwb ho HR1 HX1 HB1 hs1
  go_loopg [7] fs.length (fun gg ii wr => ∃ (k : Nat) (v : Value), k + gg = fs.length ∧ ii = .int .i64 k ∧ k ≤ fs.length ∧ Hid (wb.grownBy wr (some o)) ∧ Hid (wr.heap[o]? = some (.cells #[v] 31 (0, 0))) ∧ Hid (wr.ownsRow (o + 1) 109 3 v k (cellsF ((lostD fs ls).take k))))
  case atStart => exact ⟨0, .slice none 0 0, by omega, rfl, Nat.zero_le _, World.grownBy.refl _ _, HOb, ⟨rfl, .inl ⟨rfl, rfl⟩⟩⟩
  case round =>
    obtain ⟨k, v, hkg, rfl, hk, HG, HV, HO⟩ := hrel
    have HB : Hid (Below w.heap.size w wr) := HBb.out.grown HG.out (by omega) (fun j hj => by cases hj; omega)
    have hws : o < wr.heap.size := by have := HG.out.size; omega
    have hbox : wr.cell? ⟨w.heap.size, 0, none⟩ = some (.slice ao fs.length cap) := (HG.out.cell_far ⟨w.heap.size, 0, none⟩ (by show w.heap.size < _; omega) (by simp; omega)).trans HXb.out
    have hout : wr.cell? ⟨o, 0, none⟩ = some v := (cell_of_row wr o 0 _ _ (0, 0) HV.out).trans rfl
    have hfo := frozen_of_row wr o 0 _ _ HV.out
    by_cases hlt : k < fs.length
    · have hlt' : decide ((k : Int) < (fs.length : Int)) = true := by simp; omega
      obtain ⟨b, off, rfl, hbw, hc0, hc1, hc2⟩ := filesAt_keep HF.out HB.out k hlt
      obtain ⟨_, _, hsz, hkp0, hkp1⟩ := HOK.out.2 fs[k] (List.getElem_mem hlt)
      obtain ⟨F, HFk⟩ : ∃ F, Hid (fs[k] = F) := ⟨fs[k], hide rfl⟩
      rw [HFk.out] at hc0 hc1 hc2 hsz hkp0 hkp1
      have hi0 : (0 : Int) ≤ (k : Int) := by omega
      have hi1 : (k : Int) < (fs.length : Int) := by omega
      have HL := hide (lostD_takeLen fs ls k hk)
      obtain ⟨x, hx⟩ : ∃ x, x = ls.getD k 0 := ⟨_, rfl⟩
      have HX : Hid (ls.getD k 0 = x) := hx.symm
      obtain ⟨W1, hW1⟩ : ∃ W1, W1 = wr.alloc (.cells #[.string F.name, .string F.text, .int .i64 F.kept] 109) := ⟨_, rfl⟩
      have HB1 : Hid (Below wr.heap.size wr W1) := by rw [hW1]; exact (Below.refl _ wr).alloc (Nat.le_refl _) _
      have HW1 : Hid (W1.heap[wr.heap.size]? = some (.cells #[.string F.name, .string F.text, .int .i64 F.kept] 109 (0, 0))) := by rw [hW1]; exact heap_alloc_new _ _
      have hW1s : W1.heap.size = wr.heap.size + 1 := by rw [hW1]; simp
      have HO1 : Hid (W1.ownsRow (o + 1) 109 3 v k (cellsF ((lostD fs ls).take k))) := by rw [hW1]; exact HO.out.alloc _
      have hV1 : W1.heap[o]? = some (.cells #[v] 31 (0, 0)) := (HB1.out.block _ hws).trans HV.out
      have hout1 : W1.cell? ⟨o, 0, none⟩ = some v := (cell_of_row W1 o 0 _ _ (0, 0) hV1).trans rfl
      have hg0 : W1.cell? ⟨wr.heap.size, 0, none⟩ = some (.string F.name) := (cell_of_row W1 wr.heap.size 0 _ _ (0, 0) HW1.out).trans rfl
      have hg1 : W1.cell? ⟨wr.heap.size, 1, none⟩ = some (.string F.text) := (cell_of_row W1 wr.heap.size 1 _ _ (0, 0) HW1.out).trans rfl
      have hg2 : W1.cell? ⟨wr.heap.size, 2, none⟩ = some (.int .i64 F.kept) := (cell_of_row W1 wr.heap.size 2 _ _ (0, 0) HW1.out).trans rfl
      have HV1 := hide hV1
      clear hV1
      obtain ⟨fv, hfv⟩ : ∃ fv, fv = wr.heap.size := ⟨_, rfl⟩
      go_upto_if 30 with fail
      rw [← hW1]
      rw [← hfv] at hg0 hg1 hg2 HW1 hW1s ⊢
      have HFV := hide hfv
      clear hfv hW1 hc0 hc1 hc2 hbox hout hfo
      go_cut [9] from 15 to 61 (fun nn wx => nn = .int .i64 x ∧ wx = W1)
      case first =>
        by_cases htold : k < ls.length
        · have htold' : decide ((k : Int) < (ls.length : Int)) = true := by simp; omega
          obtain ⟨bl, offl, rfl, hblw, hcl, hx0, hx1⟩ := intsAt_keep HLS.out (HB.out.trans (HB1.out.mono HB.out.size)) k htold
          have hxe : x = ls[k] := by rw [hx]; simp [List.getD, htold]
          rw [← hxe] at hcl
          have hi2 : (k : Int) < (ls.length : Int) := by omega
          clear hxe hx hx0 hx1
          go_wp2
          go_meet
          exact ⟨rfl, rfl⟩
        · have htold' : decide ((k : Int) < (ls.length : Int)) = false := by simp; omega
          have hx0 : x = 0 := by rw [hx]; simp [List.getD, List.getElem?_eq_none (show ls.length ≤ k by omega)]
          clear hx
          go_wp2
          go_meet
          exact ⟨by rw [hx0], rfl⟩
      case rest =>
        obtain ⟨rfl, rfl⟩ := hcut
        clear hx
        obtain ⟨y, HY⟩ : ∃ y : Int, Hid (y = if x > (F.text.size : Int) then (F.text.size : Int) else x) := ⟨_, hide rfl⟩
        go_upto_if 39 with fail
        go_cut [9] from 15 to 61 (fun nn wx => nn = .int .i64 y ∧ wx = wc)
        case first =>
          by_cases hbig : x > (F.text.size : Int)
          · have hbig' : decide ((F.text.size : Int) < x) = true := by simp; omega
            go_wp2
            go_meet
            exact ⟨by rw [HY.out, if_pos hbig], rfl⟩
          · have hbig' : decide ((F.text.size : Int) < x) = false := by simp; omega
            go_wp2
            go_meet
            exact ⟨by rw [HY.out, if_neg (by omega)], rfl⟩
        case rest =>
          obtain ⟨rfl, rfl⟩ := hcut
          obtain ⟨z, HZ0⟩ : ∃ z : Int, Hid (z = if y < F.kept then F.kept else y) := ⟨_, hide rfl⟩
          go_upto_if 46 with fail
          go_cut [9] from 15 to 61 (fun nn wx => nn = .int .i64 z ∧ wx = wc)
          case first =>
            by_cases hless : y < F.kept
            · have hless' : decide (y < F.kept) = true := by simp; omega
              go_wp2
              go_meet
              exact ⟨by rw [HZ0.out, if_pos hless], rfl⟩
            · have hless' : decide (y < F.kept) = false := by simp; omega
              go_wp2
              go_meet
              exact ⟨by rw [HZ0.out, if_neg (by omega)], rfl⟩
          case rest =>
            obtain ⟨rfl, rfl⟩ := hcut
            have HZ : Hid (staysI F x = z) := by
              show _ = _
              rw [HZ0.out, HY.out, staysI]
              by_cases hbig : x > (F.text.size : Int)
              · rw [if_pos hbig, if_pos hbig]
              · rw [if_neg hbig, if_neg hbig]
            have hzb := stays_bd x hkp0 hkp1
            rw [HZ.out] at hzb
            obtain ⟨hz0, hz1, hz2⟩ := hzb
            clear HY HZ0
            obtain ⟨tx, htx⟩ : ∃ tx, tx = F.text.extract 0 z.toNat := ⟨_, rfl⟩
            have hcut := cut_to F.text z (by omega) (by omega)
            rw [← htx] at hcut
            have HT : Hid ((lostD fs ls).take (k + 1) = (lostD fs ls).take k ++ [⟨F.name, tx, z⟩]) := by show _ = _; rw [lostD_take fs ls k hlt, HFk.out, HX.out, lostF, HZ.out, htx]
            clear htx
            have hof : o < wc.heap.size := by have := HFV.out; omega
            have hofv : o ≠ fv := by have := HFV.out; omega
            have hall : (wc.alloc (.cells #[.string F.name, .string tx, .int .i64 z] 109)).cell? ⟨o, 0, none⟩ = some v := (((Below.refl _ wc).alloc (Nat.le_refl _) _).cell (p := ⟨o, 0, none⟩) hof).trans hout1
            go_upto_region 15 with fail
            go_region_law (refine step_app_file _ (o + 1) (by rfl) _ _ (by rfl) _ ((lostD fs ls).take k) ⟨F.name, tx, z⟩ (by rfl) (by rw [HL.out]; exact HO1.out.alloc _) wc.heap.size (by simp [Act.eval]) (heap_alloc_new wc _) (by rw [HL.out]; omega) (by simp; omega) ?_; rw [HL.out]; intro g3 cap3 w3 hown3 hb3 hg3 hgl3; have hn0 : w3.heap[o]? = some (.cells #[v] 31 (0, 0)) := (hb3.block o (by omega)).trans (((Below.refl _ wc).alloc (Nat.le_refl _) _).block o hof |>.trans HV1.out); have hn1 : w3.cell? ⟨o, 0, none⟩ = some v := (cell_of_row w3 o 0 _ _ (0, 0) hn0).trans rfl; have hn2 : w3.frozen? ⟨o, 0, none⟩ = false := frozen_of_row w3 o 0 _ _ hn0; have HN0 := hide hn0; clear hn0)
            all_goals
              go_wp2_with fail
              go_roundg (gk - 1)
              case measure => omega
              case rel =>
                have hbw : Below (o + 1) wr w3 := ((HB1.out.mono (by omega)).trans (((Below.refl _ wc).alloc (by omega) _).drew)).trans hb3
                refine ⟨k + 1, _, by omega, by go_num, by omega, grownBy_store (grownBy_step HG.out hbw hbs) 0 _, (heap_setCell_same _ o _ _ _ _ HN0.out).trans rfl, ?_⟩
                have hle : ((lostD fs ls).take k ++ [(⟨F.name, tx, z⟩ : FileD)]).length = k + 1 := by rw [List.length_append, HL.out]; rfl
                rw [hle] at hown3
                rw [HT.out]
                exact hown3.kept (grownBy_store (World.grownBy.refl _ _) 0 _) (.inr (by simp [Value.ownBlock]; omega))
    · have hlt' : decide ((k : Int) < (fs.length : Int)) = false := by simp; omega
      have hke : k = fs.length := by omega
      have hR : wr.heap[w.heap.size + 1]? = some (.cells #[.slice none 0 0] 31 (0, 0)) := (HG.out.block (w.heap.size + 1) (by omega) (by simp; omega)).trans HRb.out
      have hr0 : wr.cell? ⟨w.heap.size + 1, 0, none⟩ = some (.slice none 0 0) := (cell_of_row wr (w.heap.size + 1) 0 _ _ (0, 0) hR).trans rfl
      have hr1 := frozen_of_row wr (w.heap.size + 1) 0 _ _ hR
      have HRR := hide hR
      have HKE := hide hke
      clear hR hke
      obtain ⟨av, cv, rfl⟩ := slice_form HO.out
      go_wp2_with fail
      refine bodyPost_ret (v := .tuple #[.agg #[.slice av k cv], .bool true]) (by simp [results, Tryz.results86, go_sem, hr0]) rfl ⟨.slice av k cv, rfl, ?_, HB.out.setCell (p := ⟨w.heap.size + 1, 0, none⟩) (by simp) _⟩
      have hrow : RowF wr (o + 1) (.slice av k cv) (lostD fs ls) := by
        have h := HO.out
        have e : (lostD fs ls).take k = lostD fs ls := List.take_of_length_le (by rw [lostD_length, HKE.out]; omega)
        rw [e] at h
        refine rowF_own ?_
        rw [lostD_length, ← HKE.out]
        exact h
      exact rowF_le (rowF_grown hrow (grownBy_store (World.grownBy.refl _ _) 0 _) (fun g hg => by have := (rowF_lt hrow g hg).1; simp; omega)) (by omega)
end Go.Proofs.YtlcfblodflgleaaGreatDoor
