import Derived.Deep.Upon
import Derived.Deep.RegionHeld3
import Derived.Deep.RegionLaw
import Derived.Deep.CutRange
import Derived.Maps.OwnSet
import Derived.Lib.Strings
import Derived.Sort.Walk0
import Derived.Test.YtifjneldjjmeaaaGreatDoorLs0
import Derived.Test.YtifjneldjjmeaaaGreatDoorLs1
set_option maxRecDepth 100000
set_option maxHeartbeats 3200000
namespace Go.Proofs.YtifjneldjjmeaaaGreatDoor
open Go.RowKit
def OwnV (w wr : World) (o : Nat) (k u : Int) (t : ByteArray) (pv vv : Value) (L : List ByteArray) : Prop :=
  wr.heap[w.heap.size]? = some (.cells #[.int .i64 k, .int .i64 u, .string t, pv] 38 (0, 0)) ∧ wr.heap[w.heap.size + 1]? = some (.cells #[.int .i64 0, .int .i64 0, .string ⟨#[]⟩, .slice none 0 0] 38 (0, 0)) ∧
  wr.heap[o]? = some (.cells #[.int .i64 k, .int .i64 u, .string t, vv] 38 (0, 0)) ∧ wr.ownsRow (o + 1) 9 1 vv L.length (L.map Value.string) ∧ Below w.heap.size w wr ∧ w.heap.size + 2 ≤ o
theorem ownV_new {w wb x1 : World} {k u : Int} {t : ByteArray} {pv : Value} (hz : wb.heap[w.heap.size]? = some (.cells #[.int .i64 k, .int .i64 u, .string t, pv] 38 (0, 0)) ∧ wb.heap.size = w.heap.size + 1 + 1) (hr : wb.heap[w.heap.size + 1]? = some (.cells #[.int .i64 0, .int .i64 0, .string ⟨#[]⟩, .slice none 0 0] 38 (0, 0)))
    (he : Below wb.heap.size wb x1) (h0 : Below w.heap.size w wb) : OwnV w (x1.alloc (.cells #[.int .i64 k, .int .i64 u, .string t, .slice none 0 0] 38)) x1.heap.size k u t pv (.slice none 0 0) [] := by
  have b1 := he.alloc he.size (.cells #[.int .i64 k, .int .i64 u, .string t, .slice none 0 0] 38)
  have hs := he.size
  exact ⟨(b1.block _ (by omega)).trans hz.1, (b1.block _ (by omega)).trans hr, heap_alloc_new _ _, World.ownsRow_nil _ _ _ _, h0.trans (b1.mono h0.size), by omega⟩
theorem ownV_old {w wb x1 : World} {k u : Int} {t : ByteArray} {pv : Value} (hz : wb.heap[w.heap.size]? = some (.cells #[.int .i64 k, .int .i64 u, .string t, pv] 38 (0, 0)) ∧ wb.heap.size = w.heap.size + 1 + 1) (hr : wb.heap[w.heap.size + 1]? = some (.cells #[.int .i64 0, .int .i64 0, .string ⟨#[]⟩, .slice none 0 0] 38 (0, 0)))
    (hg : x1.heap[wb.heap.size]? = some (.cells #[.int .i64 0, .int .i64 0, .string ⟨#[]⟩, .slice none 0 0] 38 (0, 0))) (he : Below wb.heap.size wb x1) (h0 : Below w.heap.size w wb) :
    OwnV w ((((x1.setCell ⟨wb.heap.size, 0, none⟩ (.int .i64 k)).setCell ⟨wb.heap.size, 1, none⟩ (.int .i64 u)).setCell ⟨wb.heap.size, 2, none⟩ (.string t)).setCell ⟨wb.heap.size, 3, none⟩ (.slice none 0 0)) wb.heap.size k u t pv (.slice none 0 0) [] := by
  have b1 := (((he.setCell (p := ⟨wb.heap.size, 0, none⟩) (Nat.le_refl _) (.int .i64 k)).setCell (p := ⟨wb.heap.size, 1, none⟩) (Nat.le_refl _) (.int .i64 u)).setCell (p := ⟨wb.heap.size, 2, none⟩) (Nat.le_refl _) (.string t)).setCell (p := ⟨wb.heap.size, 3, none⟩) (Nat.le_refl _) (.slice none 0 0)
  exact ⟨(b1.block _ (by omega)).trans hz.1, (b1.block _ (by omega)).trans hr, (heap_setCell_same _ _ _ _ _ _ (heap_setCell_same _ _ _ _ _ _ (heap_setCell_same _ _ _ _ _ _ (heap_setCell_same _ _ _ _ _ _ hg)))).trans rfl, World.ownsRow_nil _ _ _ _, h0.trans (b1.mono h0.size), by omega⟩
theorem ownVal_any (v : ValD) (ao : Option Addr) (cap : Nat) (w : World) (hl : v.items.length ≤ 1048576) (ht : v.text.size ≤ 1048576) (hts : TextsAt w ao v.items) (hsz : ∀ s ∈ v.items, s.size ≤ 1048576) :
    Calls Tryz.prog 136 #[.agg #[.int .i64 v.kind, .int .i64 v.til, .string v.text, .slice ao v.items.length cap]] w fun e w' => (∃ a c, e = .returned (.agg #[.int .i64 v.kind, .int .i64 v.til, .string v.text, .slice a v.items.length c]) ∧ RowText w' w.heap.size (.slice a v.items.length c) v.items) ∧ Below w.heap.size w w' := by
  obtain ⟨k, u, t, ts⟩ := v
  simp only at hl ht hts hsz ⊢
  have HT := hide hts
  have HS := hide hsz
  have HOT := hide (fun W => ownText_any t W ht)
  clear hts hsz
  obtain ⟨wb, hwb⟩ : ∃ wb, wb = (w.alloc (.cells #[.int .i64 k, .int .i64 u, .string t, .slice ao ts.length cap] 38)).alloc (.cells #[.int .i64 0, .int .i64 0, .string ⟨#[]⟩, .slice none 0 0] 38) := ⟨_, rfl⟩
  have B0 : Hid (Below w.heap.size w wb) := by rw [hwb]; exact ((Below.refl _ w).alloc (Nat.le_refl _) _).alloc (by simp) _
  have HZ : Hid (wb.heap[w.heap.size]? = some (.cells #[.int .i64 k, .int .i64 u, .string t, .slice ao ts.length cap] 38 (0, 0)) ∧ wb.heap.size = w.heap.size + 1 + 1) := by
    rw [hwb]
    exact ⟨((Below.refl (w.heap.size + 1) (w.alloc (.cells #[.int .i64 k, .int .i64 u, .string t, .slice ao ts.length cap] 38))).alloc (by simp) _ |>.block w.heap.size (by omega)).trans (heap_alloc_new w _), by simp⟩
  have HR : Hid (wb.heap[w.heap.size + 1]? = some (.cells #[.int .i64 0, .int .i64 0, .string ⟨#[]⟩, .slice none 0 0] 38 (0, 0))) := by
    show _ = _
    rw [hwb, show w.heap.size + 1 = (w.alloc (.cells #[.int .i64 k, .int .i64 u, .string t, .slice ao ts.length cap] 38)).heap.size from by simp]
    exact heap_alloc_new _ _
  have KC : Hid (∀ X, Below wb.heap.size wb X → X.cell? ⟨w.heap.size, 0, none⟩ = some (.int .i64 k) ∧ X.cell? ⟨w.heap.size, 1, none⟩ = some (.int .i64 u) ∧ X.cell? ⟨w.heap.size, 2, none⟩ = some (.string t)) := fun X hX => by
    have h := val_cells (val_keep HZ.out.1 hX (by have := HZ.out.2; omega))
    exact ⟨h.1, h.2.1, h.2.2.1⟩
  go_enter Tryz.func136, Tryz.ntmps136
  go_upto_region 1 with fail
  rw [← hwb]
  clear hwb
  go_cut [3] from 5 (fun pp wx => ∃ o, pp = .pointer (some ⟨o, 0, none⟩) ∧ OwnV w wx o k u t (.slice ao ts.length cap) (.slice none 0 0) [])
  case first =>
    rename_i hJ9 hK9
    refine wp_region_held_drew (S := fun X => X.cell? ⟨w.heap.size, 0, none⟩ = some (.int .i64 k) ∧ X.cell? ⟨w.heap.size, 1, none⟩ = some (.int .i64 u) ∧ X.cell? ⟨w.heap.size, 2, none⟩ = some (.string t)) (by kernel_rfl) ?hS0 (fun hHeld => ?_)
    case hS0 => exact KC.out _ (Below.refl _ _).drew
    refine wpAnyH_take (i := 0) (oi := _) (v := .pointer (some ⟨w.heap.size, 0, none⟩)) rfl (by kernel_rfl) (by kernel_rfl) (by kernel_rfl) (fun _ _ _ h => h) (Or.inl ⟨by rfl, ?hy⟩) (by assumption) ?_
    case hy => intro w hSw; (try dsimp only at hSw); go_simp; (try with_reducible rfl)
    try simp only [Act.put]
    refine wpAnyH_take (i := 1) (oi := _) (v := .int .i64 k) rfl (by kernel_rfl) (by kernel_rfl) (by kernel_rfl) (fun _ _ _ h => h) (Or.inl ⟨by rfl, ?hy⟩) (by assumption) ?_
    case hy => intro w hSw; (try dsimp only at hSw); obtain ⟨hr0, hr1, hr2⟩ := hSw; go_simp; (try with_reducible rfl)
    try simp only [Act.put]
    refine wpAnyH_take (i := 2) (oi := _) (v := .pointer (some ⟨w.heap.size, 1, none⟩)) rfl (by kernel_rfl) (by kernel_rfl) (by kernel_rfl) (fun _ _ _ h => h) (Or.inl ⟨by rfl, ?hy⟩) (by assumption) ?_
    case hy => intro w hSw; (try dsimp only at hSw); go_simp; (try with_reducible rfl)
    try simp only [Act.put]
    refine wpAnyH_take (i := 3) (oi := _) (v := .int .i64 u) rfl (by kernel_rfl) (by kernel_rfl) (by kernel_rfl) (fun _ _ _ h => h) (Or.inl ⟨by rfl, ?hy⟩) (by assumption) ?_
    case hy => intro w hSw; (try dsimp only at hSw); obtain ⟨hr0, hr1, hr2⟩ := hSw; go_simp; (try with_reducible rfl)
    try simp only [Act.put]
    refine wpAnyH_take (i := 4) (oi := _) (v := .pointer (some ⟨w.heap.size, 2, none⟩)) rfl (by kernel_rfl) (by kernel_rfl) (by kernel_rfl) (fun _ _ _ h => h) (Or.inl ⟨by rfl, ?hy⟩) (by assumption) ?_
    case hy => intro w hSw; (try dsimp only at hSw); go_simp; (try with_reducible rfl)
    try simp only [Act.put]
    refine wpAnyH_take (i := 5) (oi := _) (v := .string t) rfl (by kernel_rfl) (by kernel_rfl) (by kernel_rfl) (fun _ _ _ h => h) (Or.inl ⟨by rfl, ?hy⟩) (by assumption) ?_
    case hy => intro w hSw; (try dsimp only at hSw); obtain ⟨hr0, hr1, hr2⟩ := hSw; go_simp; (try with_reducible rfl)
    try simp only [Act.put]
    refine wpAnyH_ready (rs := [6, 8]) (by kernel_rfl) (by simp) ?_
    refine AllReadyH.cons (o := _) rfl (fun K hK => ?step) ?_
    case step =>
      go_simp
      refine (HOT.out _).mono ?_
      rintro e x1 ⟨rfl, bx⟩
      have E1 : Hid (Below wb.heap.size wb x1) := (Below.refl wb.heap.size wb).drew.trans bx
      clear bx
      refine hK.out _ _ ?hS (fun hHeld => ?_)
      case hS => exact KC.out _ E1.out
      clear hK K
      try simp only [Act.put]
      refine wpAnyH_take (i := 7) (oi := _) (v := .agg #[.int .i64 k, .int .i64 u, .string t, .slice none 0 0]) rfl (by kernel_rfl) (by kernel_rfl) (by kernel_rfl) (fun _ _ _ h => h) (Or.inl ⟨by rfl, ?hy⟩) (by assumption) ?_
      case hy => intro w hSw; (try dsimp only at hSw); go_simp; (try with_reducible rfl)
      try simp only [Act.put]
      refine wpAnyH_ready (rs := [8]) (by kernel_rfl) (by simp) ?_
      refine AllReadyH.cons (o := _) rfl (fun K hK => ?step) ?_
      case step =>
        go_simp
        refine hK.out _ _ ?hS (fun hHeld => ?_)
        case hS => exact KC.out _ (E1.out.alloc E1.out.size (.cells #[.int .i64 0, .int .i64 0, .string ⟨#[]⟩, .slice none 0 0] 38))
        clear hK K
        try simp only [Act.put]
        refine wpAnyH_ready (rs := [9]) (by kernel_rfl) (by simp) ?_
        refine AllReadyH.cons (o := _) rfl (fun K hK => ?step) ?_
        case step =>
          go_simp
          refine hK.out _ _ ?hS (fun hHeld => ?_)
          case hS => exact KC.out _ (E1.out.alloc E1.out.size _)
          clear hK K
          try simp only [Act.put]
          refine wpAnyH_done (by kernel_rfl) ?_ _
          refine hK9 _ _ (Met.intro (hJ9 _ _ ?_)); (repeat apply Exists.intro); refine ⟨?_, rfl⟩
          exact ⟨x1.heap.size, rfl, ownV_new HZ.out HR.out E1.out B0.out⟩
        exact AllReadyH.nil
      exact AllReadyH.nil
    refine AllReadyH.cons (o := _) rfl (fun K hK => ?step) ?_
    case step =>
      go_simp
      refine hK.out _ _ ?hS (fun hHeld => ?_)
      case hS => exact KC.out _ ((Below.refl wb.heap.size wb).alloc (Nat.le_refl _) (.cells #[.int .i64 0, .int .i64 0, .string ⟨#[]⟩, .slice none 0 0] 38)).drew
      clear hK K
      try simp only [Act.put]
      refine wpAnyH_ready (rs := [6]) (by kernel_rfl) (by simp) ?_
      refine AllReadyH.cons (o := _) rfl (fun K hK => ?step) ?_
      case step =>
        go_simp
        refine (HOT.out _).mono ?_
        rintro e x1 ⟨rfl, bx⟩
        have E1 : Hid (Below wb.heap.size wb x1) := ((Below.refl wb.heap.size wb).alloc (Nat.le_refl _) (.cells #[.int .i64 0, .int .i64 0, .string ⟨#[]⟩, .slice none 0 0] 38)).drew.trans (bx.mono (by simp))
        have GX := hide (blk_newd bx)
        clear bx
        refine hK.out _ _ ?hS (fun hHeld => ?_)
        case hS => exact KC.out _ E1.out
        clear hK K
        try simp only [Act.put]
        refine wpAnyH_take (i := 7) (oi := _) (v := .agg #[.int .i64 k, .int .i64 u, .string t, .slice none 0 0]) rfl (by kernel_rfl) (by kernel_rfl) (by kernel_rfl) (fun _ _ _ h => h) (Or.inl ⟨by rfl, ?hy⟩) (by assumption) ?_
        case hy => intro w hSw; (try dsimp only at hSw); go_simp; (try with_reducible rfl)
        try simp only [Act.put]
        refine wpAnyH_ready (rs := [9]) (by kernel_rfl) (by simp) ?_
        obtain ⟨y0, y1, y2, y3⟩ := val_cells GX.out
        obtain ⟨f0, f1, f2, f3⟩ := val_frozen GX.out
        refine AllReadyH.cons (o := _) rfl (fun K hK => ?step) ?_
        case step =>
          go_simp
          refine hK.out _ _ ?hS (fun hHeld => ?_)
          case hS => exact KC.out _ ((((E1.out.setCell (p := ⟨wb.heap.size, 0, none⟩) (Nat.le_refl _) _).setCell (p := ⟨wb.heap.size, 1, none⟩) (Nat.le_refl _) _).setCell (p := ⟨wb.heap.size, 2, none⟩) (Nat.le_refl _) _).setCell (p := ⟨wb.heap.size, 3, none⟩) (Nat.le_refl _) _)
          clear hK K
          try simp only [Act.put]
          refine wpAnyH_done (by kernel_rfl) ?_ _
          refine hK9 _ _ (Met.intro (hJ9 _ _ ?_)); (repeat apply Exists.intro); refine ⟨?_, rfl⟩
          exact ⟨wb.heap.size, rfl, ownV_old HZ.out HR.out GX.out E1.out B0.out⟩
        exact AllReadyH.nil
      exact AllReadyH.nil
    exact AllReadyH.nil
  case rest =>
  obtain ⟨o, rfl, hov⟩ := hcut
  have HOV := hide hov
  clear hov
  obtain ⟨p0, p1, p2, p3⟩ := val_cells HOV.out.1
  go_wp2_with fail
  clear p0 p1 p2 p3
  go_loopw [17] (fun ii wr => ∃ (k1 : Nat) (vv : Value), ii = .int .i64 (k1 : Int) ∧ k1 ≤ ts.length ∧ Hid (OwnV w wr o k u t (.slice ao ts.length cap) vv (ts.take k1))) (fun ii _ => ts.length - (intOf ii).toNat)
  case atStart => exact ⟨0, _, rfl, Nat.zero_le _, HOV⟩
  case round =>
    obtain ⟨k1, vv, rfl, hk, HO⟩ := hrel
    by_cases hlt : k1 < ts.length
    · have hlt' : decide ((k1 : Int) < (ts.length : Int)) = true := by simp; omega
      obtain ⟨b, off, rfl, hbw, hc0⟩ := textsAt_keep HT.out HO.out.2.2.2.2.1 k1 hlt
      have hsF := HS.out ts[k1] (List.getElem_mem hlt)
      have HTK := hide (List.take_succ_eq_append_getElem hlt)
      obtain ⟨F, HF⟩ : ∃ F, Hid (ts[k1] = F) := ⟨_, hide rfl⟩
      rw [HF.out] at hc0 hsF HTK
      have hi0 : (0 : Int) ≤ (k1 : Int) := by omega
      have hi1 : (k1 : Int) < (ts.length : Int) := by omega
      obtain ⟨L, HL⟩ : ∃ L, Hid (ts.take k1 = L) := ⟨_, hide rfl⟩
      have hLl : L.length ≤ 1048576 := by rw [← HL.out, List.length_take]; omega
      rw [HL.out] at HO HTK
      obtain ⟨aa, ca, rfl⟩ := slice_form HO.out.2.2.2.1
      have HOW := hide HO.out.2.2.2.1
      have hoB : o < wr.heap.size := obj_lt HO.out.2.2.1
      obtain ⟨-, -, -, hv3⟩ := val_cells HO.out.2.2.1
      go_wp2_with fail
      go_region_law ((first | (refine step_app_txt _ (o + 1) (by rfl) _ _ (by rfl) _ L F (by rfl) (HO4.out.alloc _) w4.heap.size (by simp [Act.eval]) (heap_alloc_new w4 _) hLl (by simp; omega) ?_; intro g5 cap5 w5 ho5 hb5 hgr5 hg5 hgl5; have B5 : Hid (Below (o + 1) w4 w5) := ((Below.refl _ w4).alloc (by omega) _).trans hb5; have HO5 := hide ho5; have hn0 := (B5.out.block o (by omega)).trans HV4.out; obtain ⟨m0, m1, m2, m3⟩ := val_cells hn0; obtain ⟨l0, l1, l2, l3⟩ := val_frozen hn0; have HN0 := hide hn0; clear hn0 ho5 hb5 hgr5 hg5 hgl5) | (go_simp; go_at_call 135; refine (ownText_any F _ hsF).mono ?_; rintro e w4 ⟨rfl, b4⟩; have E4 : Hid (Below wr.heap.size wr w4) := (Below.refl _ wr).drew.trans b4; have hs4 : wr.heap.size ≤ w4.heap.size := E4.out.size; have HV4 := hide ((E4.out.block o hoB).trans HO.out.2.2.1); obtain ⟨-, -, -, hall0⟩ := val_cells HV4.out; have hall : (w4.alloc (.cells #[.string F] 9)).cell? ⟨o, 3, none⟩ = _ := (((Below.refl _ w4).alloc (Nat.le_refl _) _).cell (p := ⟨o, 3, none⟩) (by show o < _; omega)).trans hall0; have HO4 := hide (ownsRow_below HOW.out E4.out); clear b4)))
      all_goals
        go_wp2
        go_roundw
        case rel =>
          refine ⟨k1 + 1, .slice (some ⟨g5, 0, none⟩) (L.length + 1) cap5, by go_num, by omega, ?_⟩
          have h5 := B5.out
          have hx : (w5.setCell ⟨o, 3, none⟩ (.slice (some ⟨g5, 0, none⟩) (L.length + 1) cap5)).heap[o]? = some (.cells #[.int .i64 k, .int .i64 u, .string t, .slice (some ⟨g5, 0, none⟩) (L.length + 1) cap5] 38 (0, 0)) := (heap_setCell_same _ _ _ _ _ _ HN0.out).trans rfl
          have hoo := HO.out.2.2.2.2.2
          show OwnV _ _ _ _ _ _ _ _ _
          rw [HTK.out]
          refine ⟨?_, ?_, hx, ?_, ?_, hoo⟩
          · rw [Below.heap_setCell _ _ _ _ (by simp; omega), h5.block _ (by omega), E4.out.block _ (obj_lt HO.out.1)]; exact HO.out.1
          · rw [Below.heap_setCell _ _ _ _ (by simp; omega), h5.block _ (by omega), E4.out.block _ (obj_lt HO.out.2.1)]; exact HO.out.2.1
          · exact HO5.out.kept (grownBy_store (World.grownBy.refl _ _) 3 _) (by cases hh : (Value.slice (some ⟨g5, 0, none⟩) (L.length + 1) cap5).ownBlock with | none => exact .inl rfl | some bb => exact .inr (fun e => by have := (HO5.out.lt bb hh).1; have e2 : bb = o := Option.some.inj e; omega))
          · exact ((HO.out.2.2.2.2.1.trans (E4.out.mono (HO.out.2.2.2.2.1).size)).trans (h5.mono (by omega))).setCell (p := ⟨o, 3, none⟩) (by show w.heap.size ≤ o; omega) _
        case measure => simp [intOf]; omega
    · have hlt' : decide ((k1 : Int) < (ts.length : Int)) = false := by simp; omega
      have hke : k1 = ts.length := by omega
      subst hke
      have HO2 := HO.out
      rw [List.take_length] at HO2
      have HX := hide HO2
      clear HO2 HO
      obtain ⟨aa, ca, rfl⟩ := slice_form HX.out.2.2.2.1
      obtain ⟨q0, q1, q2, q3⟩ := val_cells HX.out.2.2.1
      obtain ⟨r0, r1, r2, r3⟩ := val_cells HX.out.2.1
      obtain ⟨f0, f1, f2, f3⟩ := val_frozen HX.out.2.1
      go_wp2_with fail
      refine bodyPost_ret (v := .agg #[.int .i64 k, .int .i64 u, .string t, .slice aa ts.length ca]) (by simp [results, Tryz.results136, go_sem, r0, r1, r2, r3]) rfl ⟨⟨aa, ca, rfl, ?_⟩, ?_⟩
      · have hr := rowText_own HX.out.2.2.2.1
        have hoo := HX.out.2.2.2.2.2
        refine rowText_le (rowText_keep hr (fun g hg => ?_)) (by omega : w.heap.size ≤ o + 1)
        have h1 := rowText_lt hr g hg
        rw [Below.heap_setCell _ _ _ _ (by simp; omega), Below.heap_setCell _ _ _ _ (by simp; omega), Below.heap_setCell _ _ _ _ (by simp; omega), Below.heap_setCell _ _ _ _ (by simp; omega)]
      · exact (((HX.out.2.2.2.2.1.setCell (p := ⟨w.heap.size + 1, 0, none⟩) (by simp) _).setCell (p := ⟨w.heap.size + 1, 1, none⟩) (by simp) _).setCell (p := ⟨w.heap.size + 1, 2, none⟩) (by simp) _).setCell (p := ⟨w.heap.size + 1, 3, none⟩) (by simp) _
theorem box5h {W : World} {g : Nat} {a b c d e : Value} {t : TypeId} (h : W.heap[g]? = some (.cells #[a, b, c, d, e] t (0, 0))) :
    (W.cell? ⟨g, 0, none⟩ = some a ∧ W.cell? ⟨g, 1, none⟩ = some b ∧ W.cell? ⟨g, 2, none⟩ = some c ∧ W.cell? ⟨g, 3, none⟩ = some d ∧ W.cell? ⟨g, 4, none⟩ = some e) ∧ W.frozen? ⟨g, 0, none⟩ = false ∧ W.frozen? ⟨g, 1, none⟩ = false ∧ W.frozen? ⟨g, 2, none⟩ = false ∧ W.frozen? ⟨g, 3, none⟩ = false ∧ W.frozen? ⟨g, 4, none⟩ = false :=
  ⟨⟨(cell_of_row W _ 0 _ _ (0, 0) h).trans rfl, (cell_of_row W _ 1 _ _ (0, 0) h).trans rfl, (cell_of_row W _ 2 _ _ (0, 0) h).trans rfl, (cell_of_row W _ 3 _ _ (0, 0) h).trans rfl, (cell_of_row W _ 4 _ _ (0, 0) h).trans rfl⟩, frozen_of_row W _ 0 _ _ h, frozen_of_row W _ 1 _ _ h, frozen_of_row W _ 2 _ _ h, frozen_of_row W _ 3 _ _ h, frozen_of_row W _ 4 _ _ h⟩
theorem box5_below {B g : Nat} {w W : World} (h : Below B w W) (hg : B ≤ g) (a b c d e : Value) : Below B w (((((W.setCell ⟨g, 0, none⟩ a).setCell ⟨g, 1, none⟩ b).setCell ⟨g, 2, none⟩ c).setCell ⟨g, 3, none⟩ d).setCell ⟨g, 4, none⟩ e) :=
  ((((h.setCell (p := ⟨g, 0, none⟩) hg a).setCell (p := ⟨g, 1, none⟩) hg b).setCell (p := ⟨g, 2, none⟩) hg c).setCell (p := ⟨g, 3, none⟩) hg d).setCell (p := ⟨g, 4, none⟩) hg e
theorem box5_here {g : Nat} {W : World} {C : Array Value} {t : TypeId} (h : W.heap[g]? = some (.cells C t (0, 0))) (hC : C.size = 5) (a b c d e : Value) : (((((W.setCell ⟨g, 0, none⟩ a).setCell ⟨g, 1, none⟩ b).setCell ⟨g, 2, none⟩ c).setCell ⟨g, 3, none⟩ d).setCell ⟨g, 4, none⟩ e).heap[g]? = some (.cells #[a, b, c, d, e] t (0, 0)) := by
  obtain ⟨⟨l⟩⟩ : ∃ _ : Unit, True := ⟨(), trivial⟩
  match C, hC with
  | ⟨[x0, x1, x2, x3, x4]⟩, _ =>
    exact (heap_setCell_same _ g _ _ t _ (heap_setCell_same _ g _ _ t _ (heap_setCell_same _ g _ _ t _ (heap_setCell_same _ g _ _ t _ (heap_setCell_same W g _ _ t _ h))))).trans rfl
theorem box5_other (g b : Nat) (W : World) (h : b ≠ g) (a0 a1 c d e : Value) : (((((W.setCell ⟨g, 0, none⟩ a0).setCell ⟨g, 1, none⟩ a1).setCell ⟨g, 2, none⟩ c).setCell ⟨g, 3, none⟩ d).setCell ⟨g, 4, none⟩ e).heap[b]? = W.heap[b]? := by
  rw [Below.heap_setCell _ _ _ _ (by simpa using h), Below.heap_setCell _ _ _ _ (by simpa using h), Below.heap_setCell _ _ _ _ (by simpa using h), Below.heap_setCell _ _ _ _ (by simpa using h), Below.heap_setCell _ _ _ _ (by simpa using h)]
theorem ownEntry_any (F : EntD) (a : Option Addr) (c : Nat) (w : World) (hsz : EntS 1048576 F) (hta : TextsAt w a F.val.items) :
    Calls Tryz.prog 107 #[.agg #[.string F.key, .int .i64 F.val.kind, .int .i64 F.val.til, .string F.val.text, .slice a F.val.items.length c]] w fun e w' => (∃ a2 c2, e = .returned (.agg #[.string F.key, .int .i64 F.val.kind, .int .i64 F.val.til, .string F.val.text, .slice a2 F.val.items.length c2]) ∧ RowText w' w.heap.size (.slice a2 F.val.items.length c2) F.val.items) ∧ Below w.heap.size w w' := by
  have HOV := hide (fun W (hW : Below w.heap.size w W) => ownVal_any F.val a c W hsz.2.2.1 hsz.2.1 (textsAt_keep hta hW) hsz.2.2.2)
  have HOT := hide (fun W => ownText_any F.key W hsz.1)
  clear hsz hta
  obtain ⟨ky, kd, u, t, ts⟩ := F
  simp only at HOV HOT ⊢
  obtain ⟨wb, hwb⟩ : ∃ wb, wb = (w.alloc (.cells #[.string ky, .int .i64 kd, .int .i64 u, .string t, .slice a ts.length c] 40)).alloc (.cells #[.string ⟨#[]⟩, .int .i64 0, .int .i64 0, .string ⟨#[]⟩, .slice none 0 0] 40) := ⟨_, rfl⟩
  have B0 : Hid (Below w.heap.size w wb) := by rw [hwb]; exact ((Below.refl _ w).alloc (Nat.le_refl _) _).alloc (by simp) _
  have HZ : Hid (wb.heap[w.heap.size]? = some (.cells #[.string ky, .int .i64 kd, .int .i64 u, .string t, .slice a ts.length c] 40 (0, 0)) ∧ wb.heap.size = w.heap.size + 1 + 1) := by
    rw [hwb]
    exact ⟨((Below.refl (w.heap.size + 1) (w.alloc (.cells #[.string ky, .int .i64 kd, .int .i64 u, .string t, .slice a ts.length c] 40))).alloc (by simp) _ |>.block w.heap.size (by omega)).trans (heap_alloc_new w _), by simp⟩
  have HR : Hid (wb.heap[w.heap.size + 1]? = some (.cells #[.string ⟨#[]⟩, .int .i64 0, .int .i64 0, .string ⟨#[]⟩, .slice none 0 0] 40 (0, 0))) := by
    show _ = _
    rw [hwb, show w.heap.size + 1 = (w.alloc (.cells #[.string ky, .int .i64 kd, .int .i64 u, .string t, .slice a ts.length c] 40)).heap.size from by simp]
    exact heap_alloc_new _ _
  have KC : Hid (∀ X, Below wb.heap.size wb X → (X.cell? ⟨w.heap.size, 0, none⟩ = some (.string ky) ∧ X.cell? ⟨w.heap.size, 1, none⟩ = some (.int .i64 kd) ∧ X.cell? ⟨w.heap.size, 2, none⟩ = some (.int .i64 u) ∧ X.cell? ⟨w.heap.size, 3, none⟩ = some (.string t) ∧ X.cell? ⟨w.heap.size, 4, none⟩ = some (.slice a ts.length c))) := fun X hX => (box5h ((hX.block _ (by have := HZ.out.2; omega)).trans HZ.out.1)).1
  have KR : Hid (∀ X, Below wb.heap.size wb X → X.heap[w.heap.size + 1]? = some (.cells #[.string ⟨#[]⟩, .int .i64 0, .int .i64 0, .string ⟨#[]⟩, .slice none 0 0] 40 (0, 0))) := fun X hX => (hX.block _ (by have := HZ.out.2; omega)).trans HR.out
  go_enter Tryz.func107, Tryz.ntmps107
  go_upto_region 1 with fail
  rw [← hwb]
  clear hwb
  obtain ⟨x0, x1, x2, x3, x4⟩ := KC.out _ (Below.refl _ _)
  go_region_law (first | (go_simp; go_at_call 135; go_loud (refine (HOT.out _).mono ?_; rintro e w3 ⟨rfl, b3⟩; have E3 : Hid (Below wb.heap.size wb w3) := (Below.refl _ wb).drew.trans b3; obtain ⟨y0, y1, y2, y3, y4⟩ := KC.out _ E3.out; clear b3)) | (go_simp; go_at_call 136; go_loud (refine (HOV.out _ (B0.out.trans (E3.out.mono B0.out.size))).mono ?_; rintro e w4 ⟨⟨a4, c4, rfl, r4⟩, b4⟩; have E4 : Hid (Below wb.heap.size wb w4) := E3.out.trans (b4.mono E3.out.size); have R4 := hide (rowText_le r4 (Nat.le_trans B0.out.size E3.out.size)); obtain ⟨⟨z0, z1, z2, z3, z4⟩, f0, f1, f2, f3, f4⟩ := box5h (KR.out _ E4.out); clear b4 r4)))
  all_goals
    obtain ⟨⟨r0, r1, r2, r3, r4⟩, -⟩ := box5h (box5_here (KR.out _ E4.out) rfl (.string ky) (.int .i64 kd) (.int .i64 u) (.string t) (.slice a4 ts.length c4))
    have HF : Hid (Below w.heap.size w (((((w4.setCell ⟨w.heap.size + 1, 0, none⟩ (.string ky)).setCell ⟨w.heap.size + 1, 1, none⟩ (.int .i64 kd)).setCell ⟨w.heap.size + 1, 2, none⟩ (.int .i64 u)).setCell ⟨w.heap.size + 1, 3, none⟩ (.string t)).setCell ⟨w.heap.size + 1, 4, none⟩ (.slice a4 ts.length c4)) ∧
        RowText (((((w4.setCell ⟨w.heap.size + 1, 0, none⟩ (.string ky)).setCell ⟨w.heap.size + 1, 1, none⟩ (.int .i64 kd)).setCell ⟨w.heap.size + 1, 2, none⟩ (.int .i64 u)).setCell ⟨w.heap.size + 1, 3, none⟩ (.string t)).setCell ⟨w.heap.size + 1, 4, none⟩ (.slice a4 ts.length c4)) w.heap.size (.slice a4 ts.length c4) ts) :=
      ⟨box5_below (B0.out.trans (E4.out.mono B0.out.size)) (by omega) _ _ _ _ _, rowText_keep R4.out (fun b hb => box5_other _ _ _ (fun e => by
        obtain ⟨C, hC⟩ := text_block R4.out hb
        rw [e, KR.out _ E4.out] at hC
        simp at hC) _ _ _ _ _)⟩
    generalize (((((w4.setCell ⟨w.heap.size + 1, 0, none⟩ (.string ky)).setCell ⟨w.heap.size + 1, 1, none⟩ (.int .i64 kd)).setCell ⟨w.heap.size + 1, 2, none⟩ (.int .i64 u)).setCell ⟨w.heap.size + 1, 3, none⟩ (.string t)).setCell ⟨w.heap.size + 1, 4, none⟩ (.slice a4 ts.length c4)) = W6 at HF r0 r1 r2 r3 r4 ⊢
    go_wp2
    exact bodyPost_ret (v := .agg #[.string ky, .int .i64 kd, .int .i64 u, .string t, .slice a4 ts.length c4]) (by simp [results, Tryz.results107, go_sem, r0, r1, r2, r3, r4]) rfl ⟨⟨a4, c4, rfl, HF.out.2⟩, HF.out.1⟩
theorem ownTable_any (es : List EntD) (ao : Option Addr) (cap : Nat) (w : World) (hl : es.length ≤ 1048576) (hes : EntriesAt w ao es) (hsz : ∀ e ∈ es, EntS 1048576 e) :
    Calls Tryz.prog 65 #[.slice ao es.length cap] w fun e w' => (∃ v, e = .returned v ∧ BuildE w' w.heap.size v es) ∧ Below w.heap.size w w' := by
  have HT := hide hes
  have HS := hide hsz
  clear hes hsz
  go_enter Tryz.func65, Tryz.ntmps65
  go_wp2
  go_loopw [3, 8] (fun vv ii wr => ∃ (k : Nat), ii = .int .i64 (k : Int) ∧ k ≤ es.length ∧ Hid (BuildE wr w.heap.size vv (es.take k)) ∧ Hid (Below w.heap.size w wr)) (fun _ ii _ => es.length - (intOf ii).toNat)
  case atStart => exact ⟨0, rfl, by omega, buildE_nil _ _, Below.refl _ _⟩
  case round =>
    obtain ⟨k, rfl, hk, HO, HB⟩ := hrel
    by_cases hlt : k < es.length
    · have hlt' : decide ((k : Int) < (es.length : Int)) = true := by simp; omega
      obtain ⟨b, off, rfl, hbw, hc0, hc1, hc2, hc3, a, c, hc4, hta⟩ := entriesAt_keep HT.out HB.out k hlt
      have hws := HB.out.size
      have HY : Hid (es.take (k + 1) = es.take k ++ [es[k]]) := List.take_succ_eq_append_getElem hlt
      obtain ⟨wE, hwE⟩ : ∃ wE, wE = wr.alloc (.cells #[.string es[k].key, .int .i64 es[k].val.kind, .int .i64 es[k].val.til, .string es[k].val.text, .slice a es[k].val.items.length c] 40) := ⟨_, rfl⟩
      have BE : Hid (Below wr.heap.size wr wE) := by rw [hwE]; exact (Below.refl _ wr).alloc (Nat.le_refl _) _
      have PE : Hid (wE.heap[wr.heap.size]? = some (.cells #[.string es[k].key, .int .i64 es[k].val.kind, .int .i64 es[k].val.til, .string es[k].val.text, .slice a es[k].val.items.length c] 40 (0, 0))) := by rw [hwE]; exact heap_alloc_new _ _
      have HOV := hide (ownEntry_any es[k] a c wE (HS.out es[k] (List.getElem_mem hlt)) (textsAt_keep hta BE.out))
      have WE := hide (HB.out.trans (BE.out.mono hws))
      have HOE := hide (buildE_below HO.out BE.out)
      have hBE : w.heap.size ≤ wE.heap.size := WE.out.size
      have hel : (es.take k).length ≤ 1048576 := by rw [List.length_take]; omega
      generalize es.take k = L at HO HY HOE hel
      generalize es[k] = F at hc0 hc1 hc2 hc3 hc4 HY HOV PE hwE hta
      clear hta
      obtain ⟨ky, kd, u, t, ts⟩ := F
      simp only at hc0 hc1 hc2 hc3 hc4 HY HOV PE hwE
      have hi0 : (0 : Int) ≤ (k : Int) := by omega
      have hi1 : (k : Int) < (es.length : Int) := by omega
      obtain ⟨⟨x0, x1, x2, x3, x4⟩, -⟩ := box5h PE.out
      go_upto_region 5 with fail
      rw [← hwE]
      clear hwE
      go_wp2_with fail
      refine HOV.out.mono ?_
      rintro e w4 ⟨⟨a4, c4, rfl, r4⟩, b4⟩
      have E4 := hide b4
      have R4 := hide r4
      clear b4 r4
      go_wp2_with (at_builtin; go_loud (refine app_ent wE _ w.heap.size (by rfl) _ _ (by rfl) _ (.slice a4 ts.length c4) L ⟨ky, kd, u, t, ts⟩ (by rfl) HOE.out hBE (E4.out.alloc E4.out.size _) (rowText_below R4.out ((Below.refl _ w4).alloc (Nat.le_refl _) _)) w4.heap.size (by rfl) (heap_alloc_new w4 _) hel ?_; intro g5 cap5 w5 ho5 hb5 _; have HO5 := hide ho5; have HB5 := hide (((E4.out.alloc E4.out.size _).mono hBE).trans hb5); clear ho5 hb5))
      go_roundw
      case rel => exact ⟨k + 1, by go_num, by omega, by show BuildE _ _ _ _; rw [HY.out]; exact HO5.out, WE.out.trans HB5.out⟩
      case measure => simp [intOf]; omega
    · have hlt' : decide ((k : Int) < (es.length : Int)) = false := by simp; omega
      have hke : k = es.length := by omega
      subst hke
      have HO2 := HO.out
      rw [List.take_length] at HO2
      have HO3 := hide HO2
      clear HO2
      go_wp2
      go_ret
      exact ⟨⟨_, rfl, HO3.out⟩, HB.out⟩
def EntsR (es : List EntD) (k : Nat) : Prop := ∀ j (h : j < es.length), j < k → (1 ≤ es[j].key.size ∧ es[j].key.size ≤ 20) ∧ ValR es[j].val ∧ (0 < j → Op.bytesLess (es[j - 1]'(by omega)).key.toList es[j].key.toList = true)
def TabR (es : List EntD) : Prop := es.length ≤ 20 ∧ EntsR es es.length
theorem entsR_of {es : List EntD} (h : TabR es) (k : Nat) (hk : k < es.length) : (1 ≤ es[k].key.size ∧ es[k].key.size ≤ 20) ∧ ValR es[k].val ∧ (0 < k → Op.bytesLess (es[k - 1]'(by omega)).key.toList es[k].key.toList = true) := h.2 k hk hk
theorem tabR_iff (es : List EntD) : TabR es ↔ es.length ≤ 20 ∧ (∀ e ∈ es, (1 ≤ e.key.size ∧ e.key.size ≤ 20) ∧ ValR e.val) ∧ Asc (es.map EntD.key) := by
  constructor
  · intro h
    refine ⟨h.1, fun e he => ?_, fun j hj => ?_⟩
    · obtain ⟨j, hj, rfl⟩ := List.getElem_of_mem he
      exact ⟨(h.2 j hj hj).1, (h.2 j hj hj).2.1⟩
    · have hj' : j + 1 < es.length := by simpa using hj
      have := (h.2 (j + 1) hj' hj').2.2 (by omega)
      simpa using this
  · rintro ⟨h1, h2, h3⟩
    refine ⟨h1, fun j hj _ => ⟨(h2 _ (List.getElem_mem hj)).1, (h2 _ (List.getElem_mem hj)).2, fun h0 => ?_⟩⟩
    have := h3 (j - 1) (by simp; omega)
    simp only [List.getElem_map, show j - 1 + 1 = j from by omega] at this
    exact this
def noVal : ValD := ⟨0, 0, ⟨#[]⟩, []⟩
def findE : List EntD → ByteArray → Option ValD
  | [], _ => none
  | e :: r, key => if e.key.toList == key.toList then some e.val else findE r key
def findV (es : List EntD) (key : ByteArray) : ValD := (findE es key).getD noVal
def findB (es : List EntD) (key : ByteArray) : Bool := (findE es key).isSome
theorem findE_here {es : List EntD} {key : ByteArray} {k : Nat} (hk : k < es.length) (h : (es[k].key.toList == key.toList) = true) : findE (es.drop k) key = some es[k].val := by
  rw [List.drop_eq_getElem_cons hk]
  simp only [findE]
  rw [if_pos h]
theorem findE_next {es : List EntD} {key : ByteArray} {k : Nat} (hk : k < es.length) (h : (es[k].key.toList == key.toList) = false) : findE (es.drop k) key = findE (es.drop (k + 1)) key := by
  rw [List.drop_eq_getElem_cons hk]
  simp only [findE]
  rw [if_neg (by rw [h]; simp)]
end Go.Proofs.YtifjneldjjmeaaaGreatDoor
namespace Go.Proofs.YtifjneldjjmeaaaGreatDoor
open Go.RowKit Go.Maps
theorem toList_ne {a b : ByteArray} : (a.toList == b.toList) = false ↔ a ≠ b := by
  rw [beq_eq_false_iff_ne]
  constructor
  · intro h e; exact h (by rw [e])
  · intro h e; exact h (by rw [Lib.toList_data, Lib.toList_data] at e; cases a; cases b; simp at e; simp [e])
theorem less_trans {a b c : List UInt8} (h1 : Op.bytesLess a b = true) (h2 : Op.bytesLess b c = true) : Op.bytesLess a c = true := by
  rw [Go.Proofs.bytesLess_eq, decide_eq_true_eq] at *
  exact List.lt_trans h1 h2
theorem less_irrefl (a : List UInt8) : Op.bytesLess a a = false := by
  rw [Go.Proofs.bytesLess_eq, decide_eq_false_iff_not]
  exact List.lt_irrefl a
theorem less_total {a b : List UInt8} (h1 : Op.bytesLess a b = false) (h2 : a ≠ b) : Op.bytesLess b a = true := by
  rw [Go.Proofs.bytesLess_eq] at *
  rw [decide_eq_true_eq]
  rw [decide_eq_false_iff_not] at h1
  exact Decidable.byContradiction fun h => h2 (List.le_antisymm (List.not_lt.1 h) (List.not_lt.1 h1))
end Go.Proofs.YtifjneldjjmeaaaGreatDoor
namespace Go.Proofs.YtifjneldjjmeaaaGreatDoor
open Go.RowKit
theorem tab_less {es : List EntD} (h : TabR es) : ∀ (d i : Nat) (hj : i + d + 1 < es.length), Op.bytesLess (es[i]'(by omega)).key.toList (es[i + d + 1]'hj).key.toList = true
  | 0, i, hj => by
    have := (entsR_of h (i + 1) hj).2.2 (by omega)
    simpa using this
  | d + 1, i, hj => by
    have h1 := tab_less h d i (by omega)
    have h2 := (entsR_of h (i + d + 1 + 1) (by omega)).2.2 (by omega)
    have e : i + (d + 1) + 1 = i + d + 1 + 1 := by omega
    simp only [e]
    exact less_trans h1 (by simpa using h2)
theorem tab_pw {es : List EntD} (h : TabR es) : es.Pairwise (fun a b => Op.bytesLess a.key.toList b.key.toList = true) := by
  rw [List.pairwise_iff_getElem]
  intro i j hi hj hij
  have := tab_less h (j - i - 1) i (by omega)
  have e : i + (j - i - 1) + 1 = j := by omega
  simp only [e] at this
  exact this
theorem tab_all {es : List EntD} (h : TabR es) : ∀ e ∈ es, (1 ≤ e.key.size ∧ e.key.size ≤ 20) ∧ ValR e.val := fun e he => by
  obtain ⟨j, hj, rfl⟩ := List.getElem_of_mem he
  exact ⟨(entsR_of h j hj).1, (entsR_of h j hj).2.1⟩
theorem find_pw : ∀ (es : List EntD), es.Pairwise (fun a b => Op.bytesLess a.key.toList b.key.toList = true) → ∀ e ∈ es, findE es e.key = some e.val
  | [], _, e, he => absurd he List.not_mem_nil
  | a :: r, hp, e, he => by
    rw [List.pairwise_cons] at hp
    simp only [findE]
    rcases List.mem_cons.1 he with rfl | he
    · rw [if_pos (beq_self_eq_true _)]
    · have hlt := hp.1 e he
      rw [if_neg]
      · exact find_pw r hp.2 e he
      · intro hh
        rw [eq_of_beq hh, less_irrefl] at hlt
        cases hlt
theorem find_none : ∀ (es : List EntD) (key : ByteArray), (∀ e ∈ es, e.key ≠ key) → findE es key = none
  | [], _, _ => rfl
  | a :: r, key, h => by
    simp only [findE]
    rw [if_neg]
    · exact find_none r key (fun e he => h e (List.mem_cons_of_mem _ he))
    · intro hh
      apply h a (List.mem_cons_self ..)
      have := eq_of_beq hh
      rw [ByteArray.toList_eq, ByteArray.toList_eq] at this
      apply ByteArray.ext
      exact Array.toList_inj.1 this
end Go.Proofs.YtifjneldjjmeaaaGreatDoor
