/- The program's do, walked. -/
import Derived.Test.YtmmchemgegmhhaaGreatDoorShelfD
namespace Go.Proofs.YtmmchemgegmhhaaGreatDoor
open Go.RowKit Go.Maps

set_option maxRecDepth 100000 in
set_option maxHeartbeats 8000000 in
theorem do_any (gs : List FileD) (mb B : Nat) (A : ActD) (w : World) (hok : diskOkD gs = true) (h : ShelfAt w B mb gs) (hmb : B ≤ mb) (hBw : B ≤ w.heap.size) (hA1 : A.name.size ≤ 1048576) (hA2 : A.text.size ≤ 1048576) (hA3 : A.toN.size ≤ 1048576) :
    Calls Tryz.prog 161 #[.map (some mb), .agg #[.int .i64 A.kind, .string A.name, .string A.text, .string A.toN]] w fun e w' => e = .returned (.bool (actD gs A).isSome) ∧ ShelfAt w' B mb ((actD gs A).getD gs) ∧ Below B w w' := by
  obtain ⟨kd, nm, tx, tt⟩ := A
  simp only at hA1 hA2 hA3 ⊢
  obtain ⟨D, pt, hD⟩ := h
  have HD := hide hD
  have hsz : size D = gs.length := hD.2.1
  clear hD
  obtain ⟨wb, hwb⟩ : ∃ wb, wb = w.alloc (.cells #[.int .i64 kd, .string nm, .string tx, .string tt] 103) := ⟨_, rfl⟩
  have bb : Below w.heap.size w wb := by rw [hwb]; exact (Below.refl _ _).alloc (Nat.le_refl _) _
  have hbs : w.heap.size ≤ wb.heap.size := bb.size
  have HDb := hide (shelfD_below HD.out bb)
  have HBb : Hid (Below B w wb) := bb.mono hBw
  clear bb
  have HK := hide (Tryz.keyS nm (small_max hA1))
  have hd3 := ((disk_iff gs).1 hok).2.2
  have hd1 := ((disk_iff gs).1 hok).1
  by_cases k1 : kd = 1
  · subst k1
    cases et : tt.toList.isEmpty
    · skip
      have HE : Hid (actD gs ⟨1, nm, tx, tt⟩ = none) := actD_no (by simp [actOk, et])
      go_enter Tryz.func161, Tryz.ntmps161
      go_wp2
      go_ret
      rw [HE.out, ← hwb]
      exact ⟨rfl, ⟨D, pt, HDb.out⟩, HBb.out⟩
    · rw [act_add hok et]
      cases hF : fileD gs nm
      · skip
        go_enter Tryz.func161, Tryz.ntmps161
        go_wp2_with fail
        rw [← hwb]
        refine (add_new gs mb B nm tx _ hok ⟨D, pt, HDb.out⟩ hmb (by omega) hA1 hA2 hF).mono ?_
        rintro e w1 ⟨rfl, hs1, b1⟩
        have HS1 := hide hs1
        have HB1 := hide b1
        clear hs1 b1
        go_wp2
        go_ret
        exact ⟨rfl, HS1.out, HBb.out.trans (HB1.out)⟩
      · skip
        go_enter Tryz.func161, Tryz.ntmps161
        go_wp2_with fail
        rw [← hwb]
        refine (add_old gs mb B nm tx _ hok ⟨D, pt, HDb.out⟩ hmb (by omega) hA2 hF).mono ?_
        rintro e w1 ⟨rfl, hs1, b1⟩
        have HS1 := hide hs1
        have HB1 := hide b1
        clear hs1 b1
        go_wp2
        go_ret
        exact ⟨rfl, HS1.out, HBb.out.trans (HB1.out)⟩
  cases ex : tx.toList.isEmpty
  · skip
    have HE : Hid (actD gs ⟨kd, nm, tx, tt⟩ = none) := actD_no (by simp [actOk, ex, k1])
    go_enter Tryz.func161, Tryz.ntmps161
    go_wp2
    go_ret
    rw [HE.out, ← hwb]
    exact ⟨rfl, ⟨D, pt, HDb.out⟩, HBb.out⟩
  by_cases k3 : kd = 3
  · subst k3
    cases hF : fileD gs nm
    · skip
      have HE : Hid (actD gs ⟨3, nm, tx, tt⟩ = none) := act_none (by simp) hF
      have hhas : has D (kl nm) = false := by
        cases h : has D (kl nm) with
        | false => rfl
        | true =>
          obtain ⟨G, hG, e⟩ := (HD.out.2.2.1 nm).1 h
          exact absurd e (fileD_none hF G hG)
      have HAT : Hid (∀ z, D.atKey (kl nm) z = z) := fun z => atKey_of_not_has hhas z
      go_enter Tryz.func161, Tryz.ntmps161
      go_wp2_with (at_lookup; rw [← hwb]; clear hwb; refine wpList_lookup_own_ok _ rfl _ _ 218 rfl 9 247 (string_keyed Tryz.underlying9) Tryz.underlying218 ptrElem (Tryz.zeroP _) .nil [] rfl mb (size D) D rfl HDb.out.1 _ _ rfl HK.out ?_; intro v ps hv; rw [HAT.out] at hv; obtain rfl := ptrElem_nil hv; rw [hhas])
      go_ret
      rw [HE.out]
      exact ⟨rfl, ⟨D, pt, HDb.out⟩, HBb.out⟩
    · rename_i F
      obtain ⟨hFm, rfl⟩ := fileD_some hF
      obtain ⟨hat, hpB, hpm, hpb⟩ := HDb.out.2.2.2.1 F hFm
      have hhas : has D (kl F.name) = true := (HD.out.2.2.1 F.name).2 ⟨F, hFm, rfl⟩
      have HAT := hide hat
      have HPB := hide hpb
      obtain ⟨p, hp⟩ : ∃ p, p = pt F.name := ⟨_, rfl⟩
      rw [← hp] at HAT HPB hpB hpm
      have HP := hide hp
      clear hp hat hpb
      have hA : wb.heap[w.heap.size]? = some (.cells #[.int .i64 3, .string F.name, .string tx, .string tt] 103 (0, 0)) := by rw [hwb]; exact heap_alloc_new _ _
      obtain ⟨ca0, ca1, ca2, ca3⟩ := act_cell hA
      have HA := hide hA
      clear hA
      rw [act_move hok hF ex]
      go_enter Tryz.func161, Tryz.ntmps161
      go_wp2_with (first | (at_lookup; rw [← hwb]; clear hwb; refine wpList_lookup_own_ok _ rfl _ _ 218 rfl 9 247 (string_keyed Tryz.underlying9) Tryz.underlying218 ptrElem (Tryz.zeroP _) .nil [] rfl mb (size D) D rfl HDb.out.1 _ _ rfl HK.out ?_; intro v ps hv; rw [HAT.out] at hv; obtain rfl := ptrElem_inv hv; rw [hhas]) | (go_at_call 192; rw [HP.out]; refine (move_any gs mb B tt _ D pt F hok HDb.out hFm hmb (by omega) hA3).mono ?_; rintro e w1 ⟨rfl, hs1, b1⟩))
      go_ret
      exact ⟨rfl, hs1, HBb.out.trans b1⟩
  cases et : tt.toList.isEmpty
  · skip
    have HE : Hid (actD gs ⟨kd, nm, tx, tt⟩ = none) := actD_no (by simp [actOk, et, k3])
    go_enter Tryz.func161, Tryz.ntmps161
    go_wp2
    go_ret
    rw [HE.out, ← hwb]
    exact ⟨rfl, ⟨D, pt, HDb.out⟩, HBb.out⟩
  by_cases k2 : kd = 2
  · subst k2
    cases hF : fileD gs nm
    · skip
      have HE : Hid (actD gs ⟨2, nm, tx, tt⟩ = none) := act_none (by simp) hF
      have hhas : has D (kl nm) = false := by
        cases h : has D (kl nm) with
        | false => rfl
        | true =>
          obtain ⟨G, hG, e⟩ := (HD.out.2.2.1 nm).1 h
          exact absurd e (fileD_none hF G hG)
      have HAT : Hid (∀ z, D.atKey (kl nm) z = z) := fun z => atKey_of_not_has hhas z
      go_enter Tryz.func161, Tryz.ntmps161
      go_wp2_with (at_lookup; rw [← hwb]; clear hwb; refine wpList_lookup_own_ok _ rfl _ _ 218 rfl 9 247 (string_keyed Tryz.underlying9) Tryz.underlying218 ptrElem (Tryz.zeroP _) .nil [] rfl mb (size D) D rfl HDb.out.1 _ _ rfl HK.out ?_; intro v ps hv; rw [HAT.out] at hv; obtain rfl := ptrElem_nil hv; rw [hhas])
      go_ret
      rw [HE.out]
      exact ⟨rfl, ⟨D, pt, HDb.out⟩, HBb.out⟩
    · rename_i F
      obtain ⟨hFm, rfl⟩ := fileD_some hF
      obtain ⟨hat, hpB, hpm, hpb⟩ := HDb.out.2.2.2.1 F hFm
      have hhas : has D (kl F.name) = true := (HD.out.2.2.1 F.name).2 ⟨F, hFm, rfl⟩
      have HAT := hide hat
      have HPB := hide hpb
      obtain ⟨p, hp⟩ : ∃ p, p = pt F.name := ⟨_, rfl⟩
      rw [← hp] at HAT HPB hpB hpm
      have HP := hide hp
      clear hp hat hpb
      have hA : wb.heap[w.heap.size]? = some (.cells #[.int .i64 2, .string F.name, .string tx, .string tt] 103 (0, 0)) := by rw [hwb]; exact heap_alloc_new _ _
      obtain ⟨ca0, ca1, ca2, ca3⟩ := act_cell hA
      have HA := hide hA
      clear hA
      obtain ⟨cf0, cf1, cf2⟩ := file_cell HPB.out
      have zf := frozen_of_row wb p 2 _ _ HPB.out
      have HE := hide (act_keep (nm := F.name) hok hF et ex)
      go_enter Tryz.func161, Tryz.ntmps161
      go_wp2_with (at_lookup; rw [← hwb]; clear hwb; refine wpList_lookup_own_ok _ rfl _ _ 218 rfl 9 247 (string_keyed Tryz.underlying9) Tryz.underlying218 ptrElem (Tryz.zeroP _) .nil [] rfl mb (size D) D rfl HDb.out.1 _ _ rfl HK.out ?_; intro v ps hv; rw [HAT.out] at hv; obtain rfl := ptrElem_inv hv; rw [hhas])
      go_ret
      rw [HE.out]
      have hg1 : wb.grownBy (wb.setCell ⟨p, 2, none⟩ (.int .i64 (F.text.size : Int))) (some p) := grownBy_store (World.grownBy.refl _ _) 2 _
      refine ⟨rfl, ⟨D, pt, shelf_write (F := F) (F' := ⟨F.name, F.text, (F.text.size : Int)⟩) HDb.out hFm rfl (by rw [← HP.out]; exact hg1) (by rw [← HP.out]; exact (heap_setCell_same _ _ _ _ _ _ HPB.out).trans rfl) (put_len_old hd3 hFm rfl)⟩, HBb.out.setCell (p := ⟨p, 2, none⟩) hpB _⟩
  by_cases k4 : kd = 4
  · subst k4
    cases hF : fileD gs nm
    · skip
      have HE : Hid (actD gs ⟨4, nm, tx, tt⟩ = none) := act_none (by simp) hF
      have hhas : has D (kl nm) = false := by
        cases h : has D (kl nm) with
        | false => rfl
        | true =>
          obtain ⟨G, hG, e⟩ := (HD.out.2.2.1 nm).1 h
          exact absurd e (fileD_none hF G hG)
      have HAT : Hid (∀ z, D.atKey (kl nm) z = z) := fun z => atKey_of_not_has hhas z
      go_enter Tryz.func161, Tryz.ntmps161
      go_wp2_with (at_lookup; rw [← hwb]; clear hwb; refine wpList_lookup_own_ok _ rfl _ _ 218 rfl 9 247 (string_keyed Tryz.underlying9) Tryz.underlying218 ptrElem (Tryz.zeroP _) .nil [] rfl mb (size D) D rfl HDb.out.1 _ _ rfl HK.out ?_; intro v ps hv; rw [HAT.out] at hv; obtain rfl := ptrElem_nil hv; rw [hhas])
      go_ret
      rw [HE.out]
      exact ⟨rfl, ⟨D, pt, HDb.out⟩, HBb.out⟩
    · rename_i F
      obtain ⟨hFm, rfl⟩ := fileD_some hF
      obtain ⟨hat, hpB, hpm, hpb⟩ := HDb.out.2.2.2.1 F hFm
      have hhas : has D (kl F.name) = true := (HD.out.2.2.1 F.name).2 ⟨F, hFm, rfl⟩
      have HAT := hide hat
      have HPB := hide hpb
      obtain ⟨p, hp⟩ : ∃ p, p = pt F.name := ⟨_, rfl⟩
      rw [← hp] at HAT HPB hpB hpm
      have HP := hide hp
      clear hp hat hpb
      have hA : wb.heap[w.heap.size]? = some (.cells #[.int .i64 4, .string F.name, .string tx, .string tt] 103 (0, 0)) := by rw [hwb]; exact heap_alloc_new _ _
      obtain ⟨ca0, ca1, ca2, ca3⟩ := act_cell hA
      have HA := hide hA
      clear hA
      have HE := hide (act_drop (nm := F.name) hok hF et ex)
      have HLEN : Hid ((withoutD gs F.name).length = size (D.del (kl F.name))) := by
        have h1 := size_del (k := kl F.name) (HD.out.1.tidy (string_keyed Tryz.underlying9))
        rw [hhas, hsz] at h1
        have h2 := without_len hd3 hFm
        simp at h1
        show _ = _
        omega
      go_enter Tryz.func161, Tryz.ntmps161
      go_wp2_with (first | (at_lookup; rw [← hwb]; clear hwb; refine wpList_lookup_own_ok _ rfl _ _ 218 rfl 9 247 (string_keyed Tryz.underlying9) Tryz.underlying218 ptrElem (Tryz.zeroP _) .nil [] rfl mb (size D) D rfl HDb.out.1 _ _ rfl HK.out ?_; intro v ps hv; rw [HAT.out] at hv; obtain rfl := ptrElem_inv hv; rw [hhas]) | (at_delete; refine wpList_delete_own _ rfl _ _ 218 9 rfl 247 (string_keyed Tryz.underlying9) Tryz.underlying218 ptrElem mb (size D) D rfl HDb.out.1 _ _ rfl HK.out ?_; intro w1 hown1 hturn1))
      go_ret
      rw [HE.out]
      exact ⟨rfl, ⟨_, _, shelf_drop HDb.out hown1 hturn1.grown HLEN.out⟩, HBb.out.grown hturn1.grown (by omega) (fun k hk => by cases hk; exact hmb)⟩
  cases hF : fileD gs nm
  · skip
    have HE : Hid (actD gs ⟨kd, nm, tx, tt⟩ = none) := act_none (by exact k1) hF
    have hhas : has D (kl nm) = false := by
      cases h : has D (kl nm) with
      | false => rfl
      | true =>
        obtain ⟨G, hG, e⟩ := (HD.out.2.2.1 nm).1 h
        exact absurd e (fileD_none hF G hG)
    have HAT : Hid (∀ z, D.atKey (kl nm) z = z) := fun z => atKey_of_not_has hhas z
    go_enter Tryz.func161, Tryz.ntmps161
    go_wp2_with (at_lookup; rw [← hwb]; clear hwb; refine wpList_lookup_own_ok _ rfl _ _ 218 rfl 9 247 (string_keyed Tryz.underlying9) Tryz.underlying218 ptrElem (Tryz.zeroP _) .nil [] rfl mb (size D) D rfl HDb.out.1 _ _ rfl HK.out ?_; intro v ps hv; rw [HAT.out] at hv; obtain rfl := ptrElem_nil hv; rw [hhas])
    go_ret
    rw [HE.out]
    exact ⟨rfl, ⟨D, pt, HDb.out⟩, HBb.out⟩
  · rename_i F
    obtain ⟨hFm, rfl⟩ := fileD_some hF
    obtain ⟨hat, hpB, hpm, hpb⟩ := HDb.out.2.2.2.1 F hFm
    have hhas : has D (kl F.name) = true := (HD.out.2.2.1 F.name).2 ⟨F, hFm, rfl⟩
    have HAT := hide hat
    have HPB := hide hpb
    obtain ⟨p, hp⟩ : ∃ p, p = pt F.name := ⟨_, rfl⟩
    rw [← hp] at HAT HPB hpB hpm
    have HP := hide hp
    clear hp hat hpb
    have hA : wb.heap[w.heap.size]? = some (.cells #[.int .i64 kd, .string F.name, .string tx, .string tt] 103 (0, 0)) := by rw [hwb]; exact heap_alloc_new _ _
    obtain ⟨ca0, ca1, ca2, ca3⟩ := act_cell hA
    have HA := hide hA
    clear hA
    have HE := hide (act_other (gs := gs) (nm := F.name) (tx := tx) (tt := tt) k1 k2 k3 k4)
    go_enter Tryz.func161, Tryz.ntmps161
    go_wp2_with (at_lookup; rw [← hwb]; clear hwb; refine wpList_lookup_own_ok _ rfl _ _ 218 rfl 9 247 (string_keyed Tryz.underlying9) Tryz.underlying218 ptrElem (Tryz.zeroP _) .nil [] rfl mb (size D) D rfl HDb.out.1 _ _ rfl HK.out ?_; intro v ps hv; rw [HAT.out] at hv; obtain rfl := ptrElem_inv hv; rw [hhas])
    go_ret
    rw [HE.out]
    exact ⟨rfl, ⟨D, pt, HDb.out⟩, HBb.out⟩
end Go.Proofs.YtmmchemgegmhhaaGreatDoor
