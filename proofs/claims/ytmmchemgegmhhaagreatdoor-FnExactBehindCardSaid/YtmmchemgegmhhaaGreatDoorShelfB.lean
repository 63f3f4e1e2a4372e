/- The program's add, walked. -/
import Derived.Test.YtmmchemgegmhhaaGreatDoorShelfA
namespace Go.Proofs.YtmmchemgegmhhaaGreatDoor
open Go.RowKit Go.Maps

theorem shelfD_congr {w : World} {B mb : Nat} {gs gs' : List FileD} {D : DataW Unit} {pt : ByteArray → Nat} (hm : ∀ G, G ∈ gs ↔ G ∈ gs') (hl : gs.length = gs'.length) (h : ShelfD w B mb gs D pt) : ShelfD w B mb gs' D pt := by
  obtain ⟨h1, h2, h3, h4, h5⟩ := h
  refine ⟨h1, h2.trans hl, fun s => ?_, fun F hF => h4 F ((hm F).2 hF), fun F hF G hG e => h5 F ((hm F).2 hF) G ((hm G).2 hG) e⟩
  rw [h3 s]
  constructor
  · rintro ⟨F, hF, e⟩; exact ⟨F, (hm F).1 hF, e⟩
  · rintro ⟨F, hF, e⟩; exact ⟨F, (hm F).2 hF, e⟩

theorem put_put_mem {gs : List FileD} {F G : FileD} : G ∈ putD (putD gs F) F ↔ G ∈ putD gs F := by
  constructor
  · intro h
    rcases put_mem.1 h with h | ⟨h, _⟩
    · exact put_mem.2 (.inl h)
    · exact h
  · intro h
    rcases put_mem.1 h with h | ⟨h1, h2⟩
    · exact put_mem.2 (.inl h)
    · exact put_mem.2 (.inr ⟨put_mem.2 (.inr ⟨h1, h2⟩), h2⟩)

theorem add_file {F : FileD} {tx : ByteArray} (h : fileOkD F = true) : fileOkD ⟨F.name, F.text ++ tx, F.kept⟩ = decide (F.text.size + tx.size ≤ 20000) := by
  obtain ⟨h1, h2, h3, h4, h5⟩ := ok_file h
  have hn : nameOkD F.name = true := by simp [nameOkD, h1, h2]
  simp only [fileOkD, hn, ByteArray.size_append, Bool.true_and]
  have e1 : decide (0 ≤ F.kept) = true := decide_eq_true h4
  have e2 : decide (F.kept ≤ ((F.text.size + tx.size : Nat) : Int)) = true := decide_eq_true (by omega)
  rw [e1, e2]
  simp

set_option maxRecDepth 100000 in
set_option maxHeartbeats 4000000 in
theorem add_old (gs : List FileD) (mb B : Nat) (nm tx : ByteArray) (w : World) (hok : diskOkD gs = true) (h : ShelfAt w B mb gs) (hmb : B ≤ mb) (hBw : B ≤ w.heap.size) (htx : tx.size ≤ 1048576) {F : FileD} (hF : fileD gs nm = some F) :
    Calls Tryz.prog 191 #[.map (some mb), .string nm, .string tx] w fun e w' => e = .returned (.bool (addD gs nm tx).isSome) ∧ ShelfAt w' B mb ((addD gs nm tx).getD gs) ∧ Below B w w' := by
  obtain ⟨D, pt, hD⟩ := h
  obtain ⟨hFm, rfl⟩ := fileD_some hF
  obtain ⟨hd1, hd2, hd3⟩ := (disk_iff gs).1 hok
  have hfo := hd2 F hFm
  obtain ⟨n1, n2, n3, n4, n5⟩ := ok_file hfo
  have HD := hide hD
  obtain ⟨hat, hpB, hpm, hpb⟩ := hD.2.2.2.1 F hFm
  have hhas : has D (kl F.name) = true := (hD.2.2.1 F.name).2 ⟨F, hFm, rfl⟩
  obtain ⟨p, hp⟩ : ∃ p, p = pt F.name := ⟨_, rfl⟩
  rw [← hp] at hat hpB hpm hpb
  have HP := hide hp
  have hc0 : w.cell? ⟨p, 0, none⟩ = some (.string F.name) := (cell_of_row w p 0 _ _ (0, 0) hpb).trans rfl
  have hc1 : w.cell? ⟨p, 1, none⟩ = some (.string F.text) := (cell_of_row w p 1 _ _ (0, 0) hpb).trans rfl
  have hc2 : w.cell? ⟨p, 2, none⟩ = some (.int .i64 F.kept) := (cell_of_row w p 2 _ _ (0, 0) hpb).trans rfl
  have hf1 := frozen_of_row w p 1 _ _ hpb
  have HPB := hide hpb
  have HAT := hide hat
  have HK := hide (Tryz.keyS F.name (by unfold maxLen; omega))
  have hsz : size D ≤ 30 := by rw [hD.2.1]; exact hd1
  have hadd : addD gs F.name tx = if fileOkD ⟨F.name, F.text ++ tx, F.kept⟩ = true then some (putD gs ⟨F.name, F.text ++ tx, F.kept⟩) else none := by
    unfold addD
    rw [hF]
    simp only [Option.getD_some]
    rw [put_ok_old (F' := ⟨F.name, F.text ++ tx, F.kept⟩) hok hFm rfl]
  rw [add_file hfo] at hadd
  have HADD := hide hadd
  clear hD hp hpb hat hadd
  by_cases hbig : F.text.size + tx.size ≤ 20000
  · have hbig' : decide ((20000 : Int) < (F.text.size : Int) + (tx.size : Int)) = false := by simp; omega
    have HE : Hid (addD gs F.name tx = some (putD gs ⟨F.name, F.text ++ tx, F.kept⟩)) := by show _ = _; rw [HADD.out, if_pos (by simp; exact hbig)]
    obtain ⟨X, HX⟩ : ∃ X : ByteArray, Hid (F.text ++ tx = X) := ⟨_, hide rfl⟩
    rw [HX.out] at HE
    obtain ⟨wt, hwt⟩ : ∃ wt, wt = w.setCell ⟨p, 1, none⟩ (.string X) := ⟨_, rfl⟩
    have hg1 : w.grownBy wt (some p) := by rw [hwt]; exact grownBy_store (World.grownBy.refl _ _) 1 _
    have hpb1 : wt.heap[p]? = some (fileObj ⟨F.name, X, F.kept⟩) := by rw [hwt]; exact (heap_setCell_same _ _ _ _ _ _ HPB.out).trans rfl
    have HD1 : Hid (ShelfD wt B mb (putD gs ⟨F.name, X, F.kept⟩) D pt) := shelf_write HD.out hFm rfl (by rw [← HP.out]; exact hg1) (by rw [← HP.out]; exact hpb1) (put_len_old hd3 hFm rfl)
    have HB1 : Hid (Below B w wt) := (Below.refl B w).grown hg1 hBw (fun k hk => by cases hk; exact hpB)
    go_enter Tryz.func191, Tryz.ntmps191
    go_wp2_with (first | (at_lookup; refine wpList_lookup_own_ok _ rfl _ _ 218 rfl 9 247 (string_keyed Tryz.underlying9) Tryz.underlying218 ptrElem (Tryz.zeroP _) .nil [] rfl mb (size D) D rfl HD.out.1 _ _ rfl HK.out ?_; intro v ps hv; rw [HAT.out] at hv; obtain rfl := ptrElem_inv hv; rw [hhas]) | (at_mapUpdate; rw [HX.out, ← hwt]; refine wpList_mapUpdate_own _ rfl _ _ _ 218 rfl 9 247 (string_keyed Tryz.underlying9) Tryz.underlying218 ptrElem mb (size D) D rfl HD1.out.1 (by unfold maxLen; omega) _ _ _ rfl rfl HK.out (.lit (.int .i64 (p : Int))) [] rfl ?_; intro w1 hown1 hgrow1))
    go_ret
    rw [HE.out]
    refine ⟨rfl, ?_, HB1.out.grown hgrow1 (by have := HB1.out.size; omega) (fun k hk => by cases hk; exact hmb)⟩
    have hs' : srt (putD gs ⟨F.name, X, F.kept⟩) := srt_putD _ hd3
    have hmem : (⟨F.name, X, F.kept⟩ : FileD) ∈ putD gs ⟨F.name, X, F.kept⟩ := put_mem.2 (.inl rfl)
    have hl1 := put_len_old (F := F) (F' := ⟨F.name, X, F.kept⟩) hd3 hFm rfl
    have hl2 := put_len_old (F := ⟨F.name, X, F.kept⟩) (F' := ⟨F.name, X, F.kept⟩) hs' hmem rfl
    have hszp : size (D.put (kl F.name) (.lit (.int .i64 (p : Int)))) = size D := by rw [size_put (HD.out.1.tidy (string_keyed Tryz.underlying9)), hhas]; rfl
    have hap : ∀ G ∈ putD gs ⟨F.name, X, F.kept⟩, G.name ≠ F.name → pt G.name ≠ p := fun G hG hn e => by
      rw [HP.out] at e
      exact hn (HD1.out.2.2.2.2 G hG ⟨F.name, X, F.kept⟩ hmem e)
    have hsh := shelf_put (F := ⟨F.name, X, F.kept⟩) HD1.out hpb1 hpB hpm hap hown1 hgrow1 (by rw [hl2, hl1, hszp, HD.out.2.1])
    exact ⟨_, _, shelfD_congr (fun G => put_put_mem) hl2 hsh⟩
  · have hbig' : decide ((20000 : Int) < (F.text.size : Int) + (tx.size : Int)) = true := by simp; omega
    have HE : Hid (addD gs F.name tx = none) := by show _ = _; rw [HADD.out, if_neg (by simp; omega)]
    go_enter Tryz.func191, Tryz.ntmps191
    go_wp2_with (at_lookup; refine wpList_lookup_own_ok _ rfl _ _ 218 rfl 9 247 (string_keyed Tryz.underlying9) Tryz.underlying218 ptrElem (Tryz.zeroP _) .nil [] rfl mb (size D) D rfl HD.out.1 _ _ rfl HK.out ?_; intro v ps hv; rw [HAT.out] at hv; obtain rfl := ptrElem_inv hv; rw [hhas])
    go_ret
    rw [HE.out]
    exact ⟨rfl, ⟨D, pt, HD.out⟩, Below.refl _ _⟩
end Go.Proofs.YtmmchemgegmhhaaGreatDoor
