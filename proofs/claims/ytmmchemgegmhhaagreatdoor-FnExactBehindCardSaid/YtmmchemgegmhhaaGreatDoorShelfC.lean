/- The program's add of a file that is new, walked. -/
import Derived.Test.YtmmchemgegmhhaaGreatDoorShelfB
namespace Go.Proofs.YtmmchemgegmhhaaGreatDoor
open Go.RowKit Go.Maps

theorem ptrElem_nil {v : Value} {ps : List MemPlace} (h : ptrElem v = some (.nil, ps)) : v = .pointer none := by
  unfold ptrElem at h
  split at h
  · simp at h
  · rfl
  · cases h

theorem new_file (nm X tx : ByteArray) (hX : X = ⟨#[]⟩ ++ tx) : fileOkD ⟨nm, X, 0⟩ = (nameOkD nm && decide (tx.size ≤ 20000)) := by
  have hs : X.size = tx.size := by rw [hX, ByteArray.size_append]; show 0 + tx.size = _; omega
  simp only [fileOkD, hs]
  have e1 : decide ((0 : Int) ≤ 0) = true := rfl
  have e2 : decide ((0 : Int) ≤ (tx.size : Int)) = true := decide_eq_true (by omega)
  rw [e1, e2]
  simp

set_option maxRecDepth 100000 in
set_option maxHeartbeats 4000000 in
theorem add_new (gs : List FileD) (mb B : Nat) (nm tx : ByteArray) (w : World) (hok : diskOkD gs = true) (h : ShelfAt w B mb gs) (hmb : B ≤ mb) (hBw : B ≤ w.heap.size) (hnm : nm.size ≤ 1048576) (htx : tx.size ≤ 1048576) (hF : fileD gs nm = none) :
    Calls Tryz.prog 191 #[.map (some mb), .string nm, .string tx] w fun e w' => e = .returned (.bool (addD gs nm tx).isSome) ∧ ShelfAt w' B mb ((addD gs nm tx).getD gs) ∧ Below B w w' := by
  obtain ⟨D, pt, hD⟩ := h
  have hno := fileD_none hF
  obtain ⟨hd1, hd2, hd3⟩ := (disk_iff gs).1 hok
  have HD := hide hD
  have hhas : has D (kl nm) = false := by
    cases h : has D (kl nm) with
    | false => rfl
    | true =>
      obtain ⟨G, hG, e⟩ := (hD.2.2.1 nm).1 h
      exact absurd e (hno G hG)
  have HAT : Hid (∀ z, D.atKey (kl nm) z = z) := fun z => atKey_of_not_has hhas z
  have HK := hide (Tryz.keyS nm (small_max hnm))
  have hsz : size D = gs.length := hD.2.1
  have HNO := hide hno
  obtain ⟨X, hX⟩ : ∃ X : ByteArray, X = ⟨#[]⟩ ++ tx := ⟨_, rfl⟩
  have hadd : addD gs nm tx = if (nameOkD nm && decide (tx.size ≤ 20000) && decide (gs.length + 1 ≤ 30)) = true then some (putD gs ⟨nm, X, 0⟩) else none := by
    unfold addD
    rw [hF]
    simp only [Option.getD_none]
    rw [← hX, put_ok_new (F' := ⟨nm, X, 0⟩) hok hno, new_file nm X tx hX]
  have HADD := hide hadd
  have HX := hide hX
  clear hD hadd hno hX
  have hln := fun ty => HD.out.1.len Tryz.underlying218 ty
  rw [hsz] at hln
  cases h1 : nameOkD nm
  · have HE : Hid (addD gs nm tx = none) := by show _ = _; rw [HADD.out, h1]; rfl
    clear hln
    go_enter Tryz.func191, Tryz.ntmps191
    go_wp2_with (first | (at_lookup; refine wpList_lookup_own_ok _ rfl _ _ 218 rfl 9 247 (string_keyed Tryz.underlying9) Tryz.underlying218 ptrElem (Tryz.zeroP _) .nil [] rfl mb (size D) D rfl HD.out.1 _ _ rfl HK.out ?_; intro v ps hv; rw [HAT.out] at hv; obtain rfl := ptrElem_nil hv; rw [hhas]) | (go_at_call 213; refine (nameOk_any nm _ (small_max hnm)).mono ?_; rintro e w' ⟨rfl, hw'⟩; rw [hw', h1]; clear hw' w'))
    go_ret
    rw [HE.out]
    exact ⟨rfl, ⟨D, pt, HD.out⟩, Below.refl _ _⟩
  · by_cases h30 : gs.length = 30
    · have HE : Hid (addD gs nm tx = none) := by show _ = _; rw [HADD.out, if_neg (by simp; omega)]
      have h30' : (((gs.length : Nat) : Int) == 30) = true := by simp; omega
      go_enter Tryz.func191, Tryz.ntmps191
      go_wp2_with (first | (at_lookup; refine wpList_lookup_own_ok _ rfl _ _ 218 rfl 9 247 (string_keyed Tryz.underlying9) Tryz.underlying218 ptrElem (Tryz.zeroP _) .nil [] rfl mb (size D) D rfl HD.out.1 _ _ rfl HK.out ?_; intro v ps hv; rw [HAT.out] at hv; obtain rfl := ptrElem_nil hv; rw [hhas]) | (go_at_call 213; refine (nameOk_any nm _ (small_max hnm)).mono ?_; rintro e w' ⟨rfl, hw'⟩; rw [hw', h1]; clear hw' w'))
      go_ret
      rw [HE.out]
      exact ⟨rfl, ⟨D, pt, HD.out⟩, Below.refl _ _⟩
    · have h30' : (((gs.length : Nat) : Int) == 30) = false := by simp; omega
      have hHX : X.size = tx.size := by rw [HX.out, ByteArray.size_append]; show 0 + tx.size = _; omega
      obtain ⟨wp, hwp⟩ : ∃ wp, wp = w.alloc (.cells #[.string nm, .string ⟨#[]⟩, .int .i64 0] 74) := ⟨_, rfl⟩
      have bp : Below w.heap.size w wp := by rw [hwp]; exact (Below.refl _ _).alloc (Nat.le_refl _) _
      have hws : w.heap.size + 1 ≤ wp.heap.size := by rw [hwp]; simp
      have hpb : wp.heap[w.heap.size]? = some (.cells #[.string nm, .string ⟨#[]⟩, .int .i64 0] 74 (0, 0)) := by rw [hwp]; exact heap_alloc_new _ _
      have HDp := hide (shelfD_below HD.out bp)
      have hmlt := HD.out.1.lt
      by_cases hbig : tx.size ≤ 20000
      · have hb1 : decide ((20000 : Int) < (tx.size : Int)) = false := by simp; omega
        have hb2 : decide ((20000 : Int) < 0 + (tx.size : Int)) = false := by simp; omega
        have HE : Hid (addD gs nm tx = some (putD gs ⟨nm, X, 0⟩)) := by show _ = _; rw [HADD.out, if_pos (by simp [h1]; omega)]
        obtain ⟨wt, hwt⟩ : ∃ wt, wt = w.alloc (.cells #[.string nm, .string X, .int .i64 0] 74) := ⟨_, rfl⟩
        have bt : Below w.heap.size w wt := by rw [hwt]; exact (Below.refl _ _).alloc (Nat.le_refl _) _
        have hpb1 : wt.heap[w.heap.size]? = some (fileObj ⟨nm, X, 0⟩) := by rw [hwt]; exact heap_alloc_new _ _
        have HD1 := hide (shelfD_below HD.out bt)
        go_enter Tryz.func191, Tryz.ntmps191
        go_wp2_with (first | (at_lookup; refine wpList_lookup_own_ok _ rfl _ _ 218 rfl 9 247 (string_keyed Tryz.underlying9) Tryz.underlying218 ptrElem (Tryz.zeroP _) .nil [] rfl mb (size D) D rfl HD.out.1 _ _ rfl HK.out ?_; intro v ps hv; rw [HAT.out] at hv; obtain rfl := ptrElem_nil hv; rw [hhas]) | (go_at_call 213; refine (nameOk_any nm _ (small_max hnm)).mono ?_; rintro e w' ⟨rfl, hw'⟩; rw [hw', h1]; clear hw' w') | (at_mapUpdate; rw [← HX.out, ← hwt]; refine wpList_mapUpdate_own _ rfl _ _ _ 218 rfl 9 247 (string_keyed Tryz.underlying9) Tryz.underlying218 ptrElem mb (size D) D rfl HD1.out.1 (by unfold maxLen; omega) _ _ _ rfl rfl HK.out (.lit (.int .i64 (w.heap.size : Int))) [] rfl ?_; intro w1 hown1 hgrow1))
        go_ret
        rw [HE.out]
        refine ⟨rfl, ?_, ((bt.mono hBw).grown hgrow1 (by have := bt.size; omega) (fun k hk => by cases hk; exact hmb))⟩
        have hlen : (putD gs ⟨nm, X, 0⟩).length = size (D.put (kl nm) (.lit (.int .i64 (w.heap.size : Int)))) := by
          rw [put_len_new (F := ⟨nm, X, 0⟩) HNO.out, size_put (HD.out.1.tidy (string_keyed Tryz.underlying9)), hhas, hsz]
          rfl
        have hap : ∀ G ∈ gs, G.name ≠ nm → pt G.name ≠ w.heap.size := fun G hG _ e => by
          have := (Array.getElem?_eq_some_iff.1 (HD.out.2.2.2.1 G hG).2.2.2).1
          omega
        exact ⟨_, _, shelf_put (F := ⟨nm, X, 0⟩) HD1.out hpb1 hBw (by omega) hap hown1 hgrow1 hlen⟩
      · have hb1 : decide ((20000 : Int) < (tx.size : Int)) = true := by simp; omega
        have hb2 : decide ((20000 : Int) < 0 + (tx.size : Int)) = true := by simp; omega
        have HE : Hid (addD gs nm tx = none) := by show _ = _; rw [HADD.out, if_neg (by simp; omega)]
        go_enter Tryz.func191, Tryz.ntmps191
        go_wp2_with (first | (at_lookup; refine wpList_lookup_own_ok _ rfl _ _ 218 rfl 9 247 (string_keyed Tryz.underlying9) Tryz.underlying218 ptrElem (Tryz.zeroP _) .nil [] rfl mb (size D) D rfl HD.out.1 _ _ rfl HK.out ?_; intro v ps hv; rw [HAT.out] at hv; obtain rfl := ptrElem_nil hv; rw [hhas]) | (go_at_call 213; refine (nameOk_any nm _ (small_max hnm)).mono ?_; rintro e w' ⟨rfl, hw'⟩; rw [hw', h1]; clear hw' w'))
        go_ret
        rw [HE.out, ← hwp]
        exact ⟨rfl, ⟨D, pt, HDp.out⟩, bp.mono hBw⟩
end Go.Proofs.YtmmchemgegmhhaaGreatDoor
