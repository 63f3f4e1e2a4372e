import Derived.Test.YtlcfblodflgleaaGreatDoorBe37
set_option maxRecDepth 100000
set_option maxHeartbeats 4000000
namespace Go.Proofs.YtlcfblodflgleaaGreatDoor
open Go.RowKit Go.Maps
theorem Tryz.zeroP (w : World) : (zeroValue 178).run Tryz.prog w = .ok (.pointer none) w := by
  have hz : Tryz.t178.zero = some (.pointer none) := by kernel_rfl
  simp [zeroValue, go_sem, hz]
def addD (gs : List FileD) (nm tx : ByteArray) : Option (List FileD) :=
  if diskOkD (putD gs ⟨((fileD gs nm).getD ⟨nm, ⟨#[]⟩, 0⟩).name, ((fileD gs nm).getD ⟨nm, ⟨#[]⟩, 0⟩).text ++ tx, ((fileD gs nm).getD ⟨nm, ⟨#[]⟩, 0⟩).kept⟩) = true
  then some (putD gs ⟨((fileD gs nm).getD ⟨nm, ⟨#[]⟩, 0⟩).name, ((fileD gs nm).getD ⟨nm, ⟨#[]⟩, 0⟩).text ++ tx, ((fileD gs nm).getD ⟨nm, ⟨#[]⟩, 0⟩).kept⟩) else none
theorem fileD_some {gs : List FileD} {nm : ByteArray} {F : FileD} (h : fileD gs nm = some F) : F ∈ gs ∧ F.name = nm := by
  refine ⟨List.mem_of_find?_eq_some h, ?_⟩
  have := List.find?_some h
  by_cases e : F.name = nm
  · exact e
  · rw [toList_ne.2 e] at this; cases this
theorem fileD_none {gs : List FileD} {nm : ByteArray} (h : fileD gs nm = none) : ∀ G ∈ gs, G.name ≠ nm := by
  intro G hG e
  have := List.find?_eq_none.1 h G hG
  rw [e] at this
  simp at this
theorem put_len_old {gs : List FileD} {F F' : FileD} (hs : srt gs) (hF : F ∈ gs) (hn : F'.name = F.name) : (putD gs F').length = gs.length := by
  have key : ∀ l : List FileD, srt l → (l.filter (lessF F'.name)).length + (l.filter (moreF F'.name)).length + (if (∃ X ∈ l, X.name = F'.name) then 1 else 0) = l.length := by
    intro l
    induction l with
    | nil => intro _; simp
    | cons G r ih =>
      intro h
      have hr := ih (List.pairwise_cons.1 h).2
      have hlt := (List.pairwise_cons.1 h).1
      simp only [List.filter_cons]
      by_cases e : G.name = F'.name
      · have h1 : lessF F'.name G = false := by rw [lessF, e, less_irrefl]
        have h2 : moreF F'.name G = false := by rw [moreF, e]; simp
        have hno : ¬ ∃ X ∈ r, X.name = F'.name := by
          rintro ⟨X, hX, e2⟩
          exact less_ne (hlt X hX) (e.trans e2.symm)
        rw [if_neg hno] at hr
        have e1 : (if (∃ X ∈ G :: r, X.name = F'.name) then 1 else 0) = 1 := if_pos ⟨G, List.mem_cons_self, e⟩
        rw [h1, h2, e1]
        simp
        omega
      · have hiff : (∃ X ∈ G :: r, X.name = F'.name) ↔ ∃ X ∈ r, X.name = F'.name := by
          constructor
          · rintro ⟨X, hX, e2⟩
            rcases List.mem_cons.1 hX with rfl | hX
            · exact absurd e2 e
            · exact ⟨X, hX, e2⟩
          · rintro ⟨X, hX, e2⟩
            exact ⟨X, List.mem_cons_of_mem _ hX, e2⟩
        cases hl : Op.bytesLess G.name.toList F'.name.toList
        · have h1 : lessF F'.name G = false := hl
          have h2 : moreF F'.name G = true := by rw [moreF, hl, toList_ne.2 e]; rfl
          rw [h1, h2]
          simp only [hiff]
          simp
          omega
        · have h1 : lessF F'.name G = true := hl
          have h2 : moreF F'.name G = false := by rw [moreF, hl]; rfl
          rw [h1, h2]
          simp only [hiff]
          simp
          omega
  have := key gs hs
  rw [if_pos ⟨F, hF, hn.symm⟩] at this
  simp only [putD, List.length_append, List.length_singleton]
  omega
theorem put_ok_old {gs : List FileD} {F F' : FileD} (h : diskOkD gs = true) (hF : F ∈ gs) (hn : F'.name = F.name) : diskOkD (putD gs F') = fileOkD F' := by
  obtain ⟨h1, h2, h3⟩ := (disk_iff gs).1 h
  cases hf : fileOkD F'
  · cases hd : diskOkD (putD gs F') with
    | false => rfl
    | true => rw [((disk_iff _).1 hd).2.1 F' (put_mem.2 (.inl rfl))] at hf; cases hf
  · refine (disk_iff _).2 ⟨by rw [put_len_old h3 hF hn]; exact h1, fun G hG => ?_, srt_putD F' h3⟩
    rcases put_mem.1 hG with rfl | ⟨hG, _⟩
    · exact hf
    · exact h2 G hG
theorem put_ok_new {gs : List FileD} {F' : FileD} (h : diskOkD gs = true) (hn : ∀ G ∈ gs, G.name ≠ F'.name) : diskOkD (putD gs F') = (fileOkD F' && decide (gs.length + 1 ≤ 30)) := by
  obtain ⟨h1, h2, h3⟩ := (disk_iff gs).1 h
  cases hf : fileOkD F'
  · cases hd : diskOkD (putD gs F') with
    | false => rfl
    | true => rw [((disk_iff _).1 hd).2.1 F' (put_mem.2 (.inl rfl))] at hf; cases hf
  · rw [Bool.true_and]
    by_cases hl : gs.length + 1 ≤ 30
    · rw [decide_eq_true hl]
      refine (disk_iff _).2 ⟨by rw [put_len_new hn]; exact hl, fun G hG => ?_, srt_putD F' h3⟩
      rcases put_mem.1 hG with rfl | ⟨hG, _⟩
      · exact hf
      · exact h2 G hG
    · rw [decide_eq_false hl]
      cases hd : diskOkD (putD gs F') with
      | false => rfl
      | true =>
        have := ((disk_iff _).1 hd).1
        rw [put_len_new hn] at this
        exact absurd this hl
theorem shelfD_congr {w : World} {B mb : Nat} {gs gs' : List FileD} {D : DataW Unit} {pt : ByteArray → Nat} (hm : ∀ G, G ∈ gs ↔ G ∈ gs') (hl : gs.length = gs'.length) (h : ShelfD w B mb gs D pt) : ShelfD w B mb gs' D pt := by
  obtain ⟨h1, h2, h3, h4, h5⟩ := h
  refine ⟨h1, h2.trans hl, fun s => ?_, fun F hF => h4 F ((hm F).2 hF), fun F hF G hG e => h5 F ((hm F).2 hF) G ((hm G).2 hG) e⟩
  rw [h3 s]
  constructor
  · rintro ⟨F, hF, e⟩; exact ⟨F, (hm F).1 hF, e⟩
  · rintro ⟨F, hF, e⟩; exact ⟨F, (hm F).2 hF, e⟩
theorem put_put_mem {gs : List FileD} {F G : FileD} : G ∈ putD (putD gs F) F ↔ G ∈ putD gs F := by
  constructor
  · intro h
    rcases put_mem.1 h with h | ⟨h, _⟩
    · exact put_mem.2 (.inl h)
    · exact h
  · intro h
    rcases put_mem.1 h with h | ⟨h1, h2⟩
    · exact put_mem.2 (.inl h)
    · exact put_mem.2 (.inr ⟨put_mem.2 (.inr ⟨h1, h2⟩), h2⟩)
theorem add_file {F : FileD} {tx : ByteArray} (h : fileOkD F = true) : fileOkD ⟨F.name, F.text ++ tx, F.kept⟩ = decide (F.text.size + tx.size ≤ 20000) := by
  obtain ⟨h1, h2, h3, h4, h5⟩ := ok_file h
  have hn : nameOkD F.name = true := by simp [nameOkD, h1, h2]
  simp only [fileOkD, hn, ByteArray.size_append, Bool.true_and]
  have e1 : decide (0 ≤ F.kept) = true := decide_eq_true h4
  have e2 : decide (F.kept ≤ ((F.text.size + tx.size : Nat) : Int)) = true := decide_eq_true (by omega)
  rw [e1, e2]
  simp
theorem add_old (gs : List FileD) (mb B : Nat) (nm tx : ByteArray) (w : World) (hok : diskOkD gs = true) (h : ShelfAt w B mb gs) (hmb : B ≤ mb) (hBw : B ≤ w.heap.size) (htx : tx.size ≤ 1048576) {F : FileD} (hF : fileD gs nm = some F) :
    Calls Tryz.prog 116 #[.map (some mb), .string nm, .string tx] w fun e w' => e = .returned (.bool (addD gs nm tx).isSome) ∧ ShelfAt w' B mb ((addD gs nm tx).getD gs) ∧ Below B w w' := by
  obtain ⟨D, pt, hD⟩ := h
  obtain ⟨hFm, rfl⟩ := fileD_some hF
  obtain ⟨hd1, hd2, hd3⟩ := (disk_iff gs).1 hok
  have hfo := hd2 F hFm
  obtain ⟨n1, n2, n3, n4, n5⟩ := ok_file hfo
  have HD := hide hD
  obtain ⟨hat, hpB, hpm, hpb⟩ := hD.2.2.2.1 F hFm
  have hhas : has D (kl F.name) = true := (hD.2.2.1 F.name).2 ⟨F, hFm, rfl⟩
  obtain ⟨p, hp⟩ : ∃ p, p = pt F.name := ⟨_, rfl⟩
  rw [← hp] at hat hpB hpm hpb
  have HP := hide hp
  have hc0 : w.cell? ⟨p, 0, none⟩ = some (.string F.name) := (cell_of_row w p 0 _ _ (0, 0) hpb).trans rfl
  have hc1 : w.cell? ⟨p, 1, none⟩ = some (.string F.text) := (cell_of_row w p 1 _ _ (0, 0) hpb).trans rfl
  have hc2 : w.cell? ⟨p, 2, none⟩ = some (.int .i64 F.kept) := (cell_of_row w p 2 _ _ (0, 0) hpb).trans rfl
  have hf1 := frozen_of_row w p 1 _ _ hpb
  have HPB := hide hpb
  have HAT := hide hat
  have HK := hide (Tryz.keyS F.name (by unfold maxLen; omega))
  have hsz : size D ≤ 30 := by rw [hD.2.1]; exact hd1
  have hadd : addD gs F.name tx = if fileOkD ⟨F.name, F.text ++ tx, F.kept⟩ = true then some (putD gs ⟨F.name, F.text ++ tx, F.kept⟩) else none := by
    unfold addD
    rw [hF]
    simp only [Option.getD_some]
    rw [put_ok_old (F' := ⟨F.name, F.text ++ tx, F.kept⟩) hok hFm rfl]
  rw [add_file hfo] at hadd
  have HADD := hide hadd
  clear hD hp hpb hat hadd
  by_cases hbig : F.text.size + tx.size ≤ 20000
  · have hbig' : decide ((20000 : Int) < (F.text.size : Int) + (tx.size : Int)) = false := by simp; omega
    have HE : Hid (addD gs F.name tx = some (putD gs ⟨F.name, F.text ++ tx, F.kept⟩)) := by show _ = _; rw [HADD.out, if_pos (by simp; exact hbig)]
    obtain ⟨X, HX⟩ : ∃ X : ByteArray, Hid (F.text ++ tx = X) := ⟨_, hide rfl⟩
    rw [HX.out] at HE
    obtain ⟨wt, hwt⟩ : ∃ wt, wt = w.setCell ⟨p, 1, none⟩ (.string X) := ⟨_, rfl⟩
    have hg1 : w.grownBy wt (some p) := by rw [hwt]; exact grownBy_store (World.grownBy.refl _ _) 1 _
    have hpb1 : wt.heap[p]? = some (fileObj ⟨F.name, X, F.kept⟩) := by rw [hwt]; exact (heap_setCell_same _ _ _ _ _ _ HPB.out).trans rfl
    have HD1 : Hid (ShelfD wt B mb (putD gs ⟨F.name, X, F.kept⟩) D pt) := shelf_write HD.out hFm rfl (by rw [← HP.out]; exact hg1) (by rw [← HP.out]; exact hpb1) (put_len_old hd3 hFm rfl)
    have HB1 : Hid (Below B w wt) := (Below.refl B w).grown hg1 hBw (fun k hk => by cases hk; exact hpB)
    go_enter Tryz.func116, Tryz.ntmps116
    go_wp2_with (first | (at_lookup; refine wpList_lookup_own_ok _ rfl _ _ 137 rfl 9 178 (string_keyed Tryz.underlying9) Tryz.underlying137 ptrElem (Tryz.zeroP _) .nil [] rfl mb (size D) D rfl HD.out.1 _ _ rfl HK.out ?_; intro v ps hv; rw [HAT.out] at hv; obtain rfl := ptrElem_inv hv; rw [hhas]) | (at_mapUpdate; rw [HX.out, ← hwt]; refine wpList_mapUpdate_own _ rfl _ _ _ 137 rfl 9 178 (string_keyed Tryz.underlying9) Tryz.underlying137 ptrElem mb (size D) D rfl HD1.out.1 (by unfold maxLen; omega) _ _ _ rfl rfl HK.out (.lit (.int .i64 (p : Int))) [] rfl ?_; intro w1 hown1 hgrow1))
    go_ret
    rw [HE.out]
    refine ⟨rfl, ?_, HB1.out.grown hgrow1 (by have := HB1.out.size; omega) (fun k hk => by cases hk; exact hmb)⟩
    have hs' : srt (putD gs ⟨F.name, X, F.kept⟩) := srt_putD _ hd3
    have hmem : (⟨F.name, X, F.kept⟩ : FileD) ∈ putD gs ⟨F.name, X, F.kept⟩ := put_mem.2 (.inl rfl)
    have hl1 := put_len_old (F := F) (F' := ⟨F.name, X, F.kept⟩) hd3 hFm rfl
    have hl2 := put_len_old (F := ⟨F.name, X, F.kept⟩) (F' := ⟨F.name, X, F.kept⟩) hs' hmem rfl
    have hszp : size (D.put (kl F.name) (.lit (.int .i64 (p : Int)))) = size D := by rw [size_put (HD.out.1.tidy (string_keyed Tryz.underlying9)), hhas]; rfl
    have hap : ∀ G ∈ putD gs ⟨F.name, X, F.kept⟩, G.name ≠ F.name → pt G.name ≠ p := fun G hG hn e => by
      rw [HP.out] at e
      exact hn (HD1.out.2.2.2.2 G hG ⟨F.name, X, F.kept⟩ hmem e)
    have hsh := shelf_put (F := ⟨F.name, X, F.kept⟩) HD1.out hpb1 hpB hpm hap hown1 hgrow1 (by rw [hl2, hl1, hszp, HD.out.2.1])
    exact ⟨_, _, shelfD_congr (fun G => put_put_mem) hl2 hsh⟩
  · have hbig' : decide ((20000 : Int) < (F.text.size : Int) + (tx.size : Int)) = true := by simp; omega
    have HE : Hid (addD gs F.name tx = none) := by show _ = _; rw [HADD.out, if_neg (by simp; omega)]
    go_enter Tryz.func116, Tryz.ntmps116
    go_wp2_with (at_lookup; refine wpList_lookup_own_ok _ rfl _ _ 137 rfl 9 178 (string_keyed Tryz.underlying9) Tryz.underlying137 ptrElem (Tryz.zeroP _) .nil [] rfl mb (size D) D rfl HD.out.1 _ _ rfl HK.out ?_; intro v ps hv; rw [HAT.out] at hv; obtain rfl := ptrElem_inv hv; rw [hhas])
    go_ret
    rw [HE.out]
    exact ⟨rfl, ⟨D, pt, HD.out⟩, Below.refl _ _⟩
theorem ptrElem_nil {v : Value} {ps : List MemPlace} (h : ptrElem v = some (.nil, ps)) : v = .pointer none := by
  unfold ptrElem at h
  split at h
  · simp at h
  · rfl
  · cases h
theorem new_file (nm X tx : ByteArray) (hX : X = ⟨#[]⟩ ++ tx) : fileOkD ⟨nm, X, 0⟩ = (nameOkD nm && decide (tx.size ≤ 20000)) := by
  have hs : X.size = tx.size := by rw [hX, ByteArray.size_append]; show 0 + tx.size = _; omega
  simp only [fileOkD, hs]
  have e1 : decide ((0 : Int) ≤ 0) = true := rfl
  have e2 : decide ((0 : Int) ≤ (tx.size : Int)) = true := decide_eq_true (by omega)
  rw [e1, e2]
  simp
theorem add_new (gs : List FileD) (mb B : Nat) (nm tx : ByteArray) (w : World) (hok : diskOkD gs = true) (h : ShelfAt w B mb gs) (hmb : B ≤ mb) (hBw : B ≤ w.heap.size) (hnm : nm.size ≤ 1048576) (htx : tx.size ≤ 1048576) (hF : fileD gs nm = none) :
    Calls Tryz.prog 116 #[.map (some mb), .string nm, .string tx] w fun e w' => e = .returned (.bool (addD gs nm tx).isSome) ∧ ShelfAt w' B mb ((addD gs nm tx).getD gs) ∧ Below B w w' := by
  obtain ⟨D, pt, hD⟩ := h
  have hno := fileD_none hF
  obtain ⟨hd1, hd2, hd3⟩ := (disk_iff gs).1 hok
  have HD := hide hD
  have hhas : has D (kl nm) = false := by
    cases h : has D (kl nm) with
    | false => rfl
    | true =>
      obtain ⟨G, hG, e⟩ := (hD.2.2.1 nm).1 h
      exact absurd e (hno G hG)
  have HAT : Hid (∀ z, D.atKey (kl nm) z = z) := fun z => atKey_of_not_has hhas z
  have HK := hide (Tryz.keyS nm (small_max hnm))
  have hsz : size D = gs.length := hD.2.1
  have HNO := hide hno
  obtain ⟨X, hX⟩ : ∃ X : ByteArray, X = ⟨#[]⟩ ++ tx := ⟨_, rfl⟩
  have hadd : addD gs nm tx = if (nameOkD nm && decide (tx.size ≤ 20000) && decide (gs.length + 1 ≤ 30)) = true then some (putD gs ⟨nm, X, 0⟩) else none := by
    unfold addD
    rw [hF]
    simp only [Option.getD_none]
    rw [← hX, put_ok_new (F' := ⟨nm, X, 0⟩) hok hno, new_file nm X tx hX]
  have HADD := hide hadd
  have HX := hide hX
  clear hD hadd hno hX
  have hln := fun ty => HD.out.1.len Tryz.underlying137 ty
  rw [hsz] at hln
  cases h1 : nameOkD nm
  · have HE : Hid (addD gs nm tx = none) := by show _ = _; rw [HADD.out, h1]; rfl
    clear hln
    go_enter Tryz.func116, Tryz.ntmps116
    go_wp2_with (first | (at_lookup; refine wpList_lookup_own_ok _ rfl _ _ 137 rfl 9 178 (string_keyed Tryz.underlying9) Tryz.underlying137 ptrElem (Tryz.zeroP _) .nil [] rfl mb (size D) D rfl HD.out.1 _ _ rfl HK.out ?_; intro v ps hv; rw [HAT.out] at hv; obtain rfl := ptrElem_nil hv; rw [hhas]) | (go_at_call 154; refine (nameOk_any nm _ (small_max hnm)).mono ?_; rintro e w' ⟨rfl, hw'⟩; rw [hw', h1]; clear hw' w'))
    go_ret
    rw [HE.out]
    exact ⟨rfl, ⟨D, pt, HD.out⟩, Below.refl _ _⟩
  · by_cases h30 : gs.length = 30
    · have HE : Hid (addD gs nm tx = none) := by show _ = _; rw [HADD.out, if_neg (by simp; omega)]
      have h30' : (((gs.length : Nat) : Int) == 30) = true := by simp; omega
      go_enter Tryz.func116, Tryz.ntmps116
      go_wp2_with (first | (at_lookup; refine wpList_lookup_own_ok _ rfl _ _ 137 rfl 9 178 (string_keyed Tryz.underlying9) Tryz.underlying137 ptrElem (Tryz.zeroP _) .nil [] rfl mb (size D) D rfl HD.out.1 _ _ rfl HK.out ?_; intro v ps hv; rw [HAT.out] at hv; obtain rfl := ptrElem_nil hv; rw [hhas]) | (go_at_call 154; refine (nameOk_any nm _ (small_max hnm)).mono ?_; rintro e w' ⟨rfl, hw'⟩; rw [hw', h1]; clear hw' w'))
      go_ret
      rw [HE.out]
      exact ⟨rfl, ⟨D, pt, HD.out⟩, Below.refl _ _⟩
    · have h30' : (((gs.length : Nat) : Int) == 30) = false := by simp; omega
      have hHX : X.size = tx.size := by rw [HX.out, ByteArray.size_append]; show 0 + tx.size = _; omega
      obtain ⟨wp, hwp⟩ : ∃ wp, wp = w.alloc (.cells #[.string nm, .string ⟨#[]⟩, .int .i64 0] 109) := ⟨_, rfl⟩
      have bp : Below w.heap.size w wp := by rw [hwp]; exact (Below.refl _ _).alloc (Nat.le_refl _) _
      have hws : w.heap.size + 1 ≤ wp.heap.size := by rw [hwp]; simp
      have hpb : wp.heap[w.heap.size]? = some (.cells #[.string nm, .string ⟨#[]⟩, .int .i64 0] 109 (0, 0)) := by rw [hwp]; exact heap_alloc_new _ _
      have HDp := hide (shelfD_below HD.out bp)
      have hmlt := HD.out.1.lt
      by_cases hbig : tx.size ≤ 20000
      · have hb1 : decide ((20000 : Int) < (tx.size : Int)) = false := by simp; omega
        have hb2 : decide ((20000 : Int) < 0 + (tx.size : Int)) = false := by simp; omega
        have HE : Hid (addD gs nm tx = some (putD gs ⟨nm, X, 0⟩)) := by show _ = _; rw [HADD.out, if_pos (by simp [h1]; omega)]
        obtain ⟨wt, hwt⟩ : ∃ wt, wt = w.alloc (.cells #[.string nm, .string X, .int .i64 0] 109) := ⟨_, rfl⟩
        have bt : Below w.heap.size w wt := by rw [hwt]; exact (Below.refl _ _).alloc (Nat.le_refl _) _
        have hpb1 : wt.heap[w.heap.size]? = some (fileObj ⟨nm, X, 0⟩) := by rw [hwt]; exact heap_alloc_new _ _
        have HD1 := hide (shelfD_below HD.out bt)
        go_enter Tryz.func116, Tryz.ntmps116
        go_wp2_with (first | (at_lookup; refine wpList_lookup_own_ok _ rfl _ _ 137 rfl 9 178 (string_keyed Tryz.underlying9) Tryz.underlying137 ptrElem (Tryz.zeroP _) .nil [] rfl mb (size D) D rfl HD.out.1 _ _ rfl HK.out ?_; intro v ps hv; rw [HAT.out] at hv; obtain rfl := ptrElem_nil hv; rw [hhas]) | (go_at_call 154; refine (nameOk_any nm _ (small_max hnm)).mono ?_; rintro e w' ⟨rfl, hw'⟩; rw [hw', h1]; clear hw' w') | (at_mapUpdate; rw [← HX.out, ← hwt]; refine wpList_mapUpdate_own _ rfl _ _ _ 137 rfl 9 178 (string_keyed Tryz.underlying9) Tryz.underlying137 ptrElem mb (size D) D rfl HD1.out.1 (by unfold maxLen; omega) _ _ _ rfl rfl HK.out (.lit (.int .i64 (w.heap.size : Int))) [] rfl ?_; intro w1 hown1 hgrow1))
        go_ret
        rw [HE.out]
        refine ⟨rfl, ?_, ((bt.mono hBw).grown hgrow1 (by have := bt.size; omega) (fun k hk => by cases hk; exact hmb))⟩
        have hlen : (putD gs ⟨nm, X, 0⟩).length = size (D.put (kl nm) (.lit (.int .i64 (w.heap.size : Int)))) := by
          rw [put_len_new (F := ⟨nm, X, 0⟩) HNO.out, size_put (HD.out.1.tidy (string_keyed Tryz.underlying9)), hhas, hsz]
          rfl
        have hap : ∀ G ∈ gs, G.name ≠ nm → pt G.name ≠ w.heap.size := fun G hG _ e => by
          have := (Array.getElem?_eq_some_iff.1 (HD.out.2.2.2.1 G hG).2.2.2).1
          omega
        exact ⟨_, _, shelf_put (F := ⟨nm, X, 0⟩) HD1.out hpb1 hBw (by omega) hap hown1 hgrow1 hlen⟩
      · have hb1 : decide ((20000 : Int) < (tx.size : Int)) = true := by simp; omega
        have hb2 : decide ((20000 : Int) < 0 + (tx.size : Int)) = true := by simp; omega
        have HE : Hid (addD gs nm tx = none) := by show _ = _; rw [HADD.out, if_neg (by simp; omega)]
        go_enter Tryz.func116, Tryz.ntmps116
        go_wp2_with (first | (at_lookup; refine wpList_lookup_own_ok _ rfl _ _ 137 rfl 9 178 (string_keyed Tryz.underlying9) Tryz.underlying137 ptrElem (Tryz.zeroP _) .nil [] rfl mb (size D) D rfl HD.out.1 _ _ rfl HK.out ?_; intro v ps hv; rw [HAT.out] at hv; obtain rfl := ptrElem_nil hv; rw [hhas]) | (go_at_call 154; refine (nameOk_any nm _ (small_max hnm)).mono ?_; rintro e w' ⟨rfl, hw'⟩; rw [hw', h1]; clear hw' w'))
        go_ret
        rw [HE.out, ← hwp]
        exact ⟨rfl, ⟨D, pt, HDp.out⟩, bp.mono hBw⟩
def moveD (gs : List FileD) (F : FileD) (tto : ByteArray) : Option (List FileD) :=
  if (decide (F.kept < (F.text.size : Int)) || (F.name.toList == tto.toList) || !nameOkD tto) = true then none else some (putD (withoutD gs F.name) ⟨tto, F.text, F.kept⟩)
theorem without_len {gs : List FileD} {F : FileD} (hs : srt gs) (hF : F ∈ gs) : (withoutD gs F.name).length + 1 = gs.length := by
  have key : ∀ l : List FileD, srt l → (l.filter (otherF F.name)).length + (if (∃ X ∈ l, X.name = F.name) then 1 else 0) = l.length := by
    intro l
    induction l with
    | nil => intro _; simp
    | cons G r ih =>
      intro h
      have hr := ih (List.pairwise_cons.1 h).2
      have hlt := (List.pairwise_cons.1 h).1
      simp only [List.filter_cons]
      by_cases e : G.name = F.name
      · have h1 : otherF F.name G = false := by rw [otherF, e]; simp
        have hno : ¬ ∃ X ∈ r, X.name = F.name := by
          rintro ⟨X, hX, e2⟩
          exact less_ne (hlt X hX) (e.trans e2.symm)
        rw [if_neg hno] at hr
        have e1 : (if (∃ X ∈ G :: r, X.name = F.name) then 1 else 0) = 1 := if_pos ⟨G, List.mem_cons_self, e⟩
        rw [h1, e1]
        simp only [Bool.false_eq_true, if_false, List.length_cons]
        omega
      · have hiff : (∃ X ∈ G :: r, X.name = F.name) ↔ ∃ X ∈ r, X.name = F.name := by
          constructor
          · rintro ⟨X, hX, e2⟩
            rcases List.mem_cons.1 hX with rfl | hX
            · exact absurd e2 e
            · exact ⟨X, hX, e2⟩
          · rintro ⟨X, hX, e2⟩
            exact ⟨X, List.mem_cons_of_mem _ hX, e2⟩
        have h1 : otherF F.name G = true := by rw [otherF, toList_ne.2 e]; rfl
        rw [h1]
        simp only [hiff, if_true, List.length_cons]
        omega
  have := key gs hs
  rw [if_pos ⟨F, hF, rfl⟩] at this
  simp only [withoutD]
  omega
theorem nameOk_val (s : ByteArray) (c : Bool) (w : World) (hs : s.size ≤ maxLen) (h : nameOkD s = c) : Calls Tryz.prog 154 #[.string s] w fun e w' => e = .returned (.bool c) ∧ w' = w := h ▸ nameOk_any s w hs
theorem move_any (gs : List FileD) (mb B : Nat) (tto : ByteArray) (w : World) (D : DataW Unit) (pt : ByteArray → Nat) (F : FileD) (hok : diskOkD gs = true) (hD : ShelfD w B mb gs D pt) (hFm : F ∈ gs) (hmb : B ≤ mb) (hBw : B ≤ w.heap.size) (hto : tto.size ≤ 1048576) :
    Calls Tryz.prog 117 #[.map (some mb), .pointer (some ⟨pt F.name, 0, none⟩), .string tto] w fun e w' => e = .returned (.bool (moveD gs F tto).isSome) ∧ ShelfAt w' B mb ((moveD gs F tto).getD gs) ∧ Below B w w' := by
  obtain ⟨hd1, hd2, hd3⟩ := (disk_iff gs).1 hok
  obtain ⟨n1, n2, n3, n4, n5⟩ := ok_file (hd2 F hFm)
  have HD := hide hD
  obtain ⟨_, hpB, hpm, hpb⟩ := hD.2.2.2.1 F hFm
  obtain ⟨p, hp⟩ : ∃ p, p = pt F.name := ⟨_, rfl⟩
  rw [← hp] at hpB hpm hpb ⊢
  have HP := hide hp
  have HPB := hide hpb
  have hc0 : w.cell? ⟨p, 0, none⟩ = some (.string F.name) := (cell_of_row w p 0 _ _ (0, 0) hpb).trans rfl
  have hc1 : w.cell? ⟨p, 1, none⟩ = some (.string F.text) := (cell_of_row w p 1 _ _ (0, 0) hpb).trans rfl
  have hc2 : w.cell? ⟨p, 2, none⟩ = some (.int .i64 F.kept) := (cell_of_row w p 2 _ _ (0, 0) hpb).trans rfl
  have hsz : size D = gs.length := hD.2.1
  have HK := hide (Tryz.keyS F.name (by unfold maxLen; omega))
  have HK2 := hide (Tryz.keyS tto (small_max hto))
  clear hD hp hpb
  cases hk : decide (F.kept < (F.text.size : Int))
  · cases he : (F.name.toList == tto.toList)
    · cases hn : nameOkD tto
      · have HE : Hid (moveD gs F tto = none) := by show _ = _; rw [moveD, if_pos (by simp [hn])]
        go_enter Tryz.func117, Tryz.ntmps117
        go_wp2_with fail
        go_quiet ((go_at_call 154; exact Calls.quiet_of_same (nameOk_val _ _ _ (small_max hto) hn)))
        go_wp2
        go_ret
        rw [HE.out]
        exact ⟨rfl, ⟨D, pt, shelfD_below HD.out (drewN_below _ _)⟩, (drewN_below w nq).mono hBw⟩
      · have HE : Hid (moveD gs F tto = some (putD (withoutD gs F.name) ⟨tto, F.text, F.kept⟩)) := by show _ = _; rw [moveD, if_neg (by rw [hk, he, hn]; decide)]
        go_enter Tryz.func117, Tryz.ntmps117
        go_wp2_with fail
        go_quiet ((go_at_call 154; exact Calls.quiet_of_same (nameOk_val _ _ _ (small_max hto) hn)))
        obtain ⟨wq, hwq⟩ : ∃ wq, wq = w.drewN nq := ⟨_, rfl⟩
        rw [← hwq]
        have bq : Below w.heap.size w wq := by rw [hwq]; exact drewN_below w nq
        have hqs : wq.heap.size = w.heap.size := by rw [hwq]; rfl
        have HDq := hide (shelfD_below HD.out bq)
        have HPq : Hid (wq.heap[p]? = some (fileObj F)) := blk_below HPB.out bq
        have hq0 : wq.cell? ⟨p, 0, none⟩ = some (.string F.name) := by rw [hwq]; exact hc0
        clear hwq hc0 hc1 hc2
        have hhas : has D (kl F.name) = true := (HD.out.2.2.1 F.name).2 ⟨F, hFm, rfl⟩
        have hlenD : (withoutD gs F.name).length = size (D.del (kl F.name)) := by
          have h1 := size_del (k := kl F.name) (HD.out.1.tidy (string_keyed Tryz.underlying9))
          rw [hhas, hsz] at h1
          have h2 := without_len hd3 hFm
          simp at h1
          omega
        have hsD : size (D.del (kl F.name)) ≤ 30 := by rw [← hlenD]; have := without_len hd3 hFm; omega
        have hfree : ∀ G ∈ withoutD gs F.name, pt G.name ≠ p := fun G hG e => by
          obtain ⟨hG1, hG2⟩ := without_mem.1 hG
          rw [HP.out] at e
          exact hG2 (HD.out.2.2.2.2 G hG1 F hFm e)
        have HFREE := hide hfree
        have HLEN := hide hlenD
        clear hfree hlenD
        go_wp2_with (first | (at_delete; refine wpList_delete_own _ rfl _ _ 137 9 rfl 178 (string_keyed Tryz.underlying9) Tryz.underlying137 ptrElem mb (size D) D rfl HDq.out.1 _ _ rfl HK.out ?_; intro w1 hown1 hturn1; have hg1 := hturn1.grown; have hp1 : w1.heap[p]? = some (fileObj F) := blk_grown HPq.out hg1 (by simpa using hpm); have hr0 : w1.cell? ⟨p, 0, none⟩ = some (.string F.name) := (cell_of_row w1 p 0 _ _ (0, 0) hp1).trans rfl; have hr1 := frozen_of_row w1 p 0 _ _ hp1; have HP1 := hide hp1; have HD1 := hide (shelf_drop HDq.out hown1 hg1 HLEN.out); have HDt : Hid (ShelfD (w1.setCell ⟨p, 0, none⟩ (.string tto)) B mb (withoutD gs F.name) (D.del (kl F.name)) pt) := shelfD_keep HD1.out (grownBy_store (World.grownBy.refl _ _) 0 _) (fun k hk => by cases hk; exact ⟨hpm, HFREE.out⟩); clear hp1) | (at_mapUpdate; refine wpList_mapUpdate_own _ rfl _ _ _ 137 rfl 9 178 (string_keyed Tryz.underlying9) Tryz.underlying137 ptrElem mb (size (D.del (kl F.name))) (D.del (kl F.name)) rfl HDt.out.1 (by unfold maxLen; omega) _ _ _ rfl rfl HK2.out (.lit (.int .i64 (p : Int))) [] rfl ?_; intro w2 hown2 hgrow2))
        go_ret
        rw [HE.out]
        have hpt : (w1.setCell ⟨p, 0, none⟩ (.string tto)).heap[p]? = some (fileObj ⟨tto, F.text, F.kept⟩) := (heap_setCell_same _ _ _ _ _ _ HP1.out).trans rfl
        have hs' : srt (withoutD gs F.name) := srt_without _ hd3
        have hlen : (putD (withoutD gs F.name) ⟨tto, F.text, F.kept⟩).length = size ((D.del (kl F.name)).put (kl tto) (.lit (.int .i64 (p : Int)))) := by
          rw [size_put (HDt.out.1.tidy (string_keyed Tryz.underlying9)), ← HLEN.out]
          cases hh : has (D.del (kl F.name)) (kl tto) with
          | true =>
            obtain ⟨G, hG, e⟩ := (HDt.out.2.2.1 tto).1 hh
            rw [put_len_old (F := G) (F' := ⟨tto, F.text, F.kept⟩) hs' hG e.symm]
            rfl
          | false =>
            rw [put_len_new (F := ⟨tto, F.text, F.kept⟩) (fun G hG e => by
              have := (HDt.out.2.2.1 tto).2 ⟨G, hG, e⟩
              rw [hh] at this
              cases this)]
            rfl
        have hb1 : Below B w w1 := (bq.mono hBw).grown hg1 (by omega) (fun k hk => by cases hk; exact hmb)
        have hb2 : Below B w (w1.setCell ⟨p, 0, none⟩ (.string tto)) := hb1.setCell (p := ⟨p, 0, none⟩) hpB _
        refine ⟨rfl, ⟨_, _, shelf_put (F := ⟨tto, F.text, F.kept⟩) HDt.out hpt hpB hpm (fun G hG _ => HFREE.out G hG) hown2 hgrow2 hlen⟩, hb2.grown hgrow2 (Nat.le_trans hBw hb2.size) (fun k hk => by cases hk; exact hmb)⟩
    · have HE : Hid (moveD gs F tto = none) := by show _ = _; rw [moveD, if_pos (by simp [he])]
      go_enter Tryz.func117, Tryz.ntmps117
      go_wp2_with fail
      go_quiet (fail)
      go_wp2
      go_ret
      rw [HE.out]
      exact ⟨rfl, ⟨D, pt, shelfD_below HD.out (drewN_below _ _)⟩, (drewN_below w nq).mono hBw⟩
  · have HE : Hid (moveD gs F tto = none) := by show _ = _; rw [moveD, if_pos (by simp only [hk]; rfl)]
    go_enter Tryz.func117, Tryz.ntmps117
    go_wp2_with fail
    go_quiet (fail)
    go_wp2
    go_ret
    rw [HE.out]
    exact ⟨rfl, ⟨D, pt, shelfD_below HD.out (drewN_below _ _)⟩, (drewN_below w nq).mono hBw⟩
end Go.Proofs.YtlcfblodflgleaaGreatDoor
