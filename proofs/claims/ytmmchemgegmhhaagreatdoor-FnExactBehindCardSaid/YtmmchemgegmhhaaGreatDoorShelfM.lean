/- The program's move, walked. -/
import Derived.Test.YtmmchemgegmhhaaGreatDoorShelfC
namespace Go.Proofs.YtmmchemgegmhhaaGreatDoor
open Go.RowKit Go.Maps

def moveD (gs : List FileD) (F : FileD) (tto : ByteArray) : Option (List FileD) :=
  if (decide (F.kept < (F.text.size : Int)) || (F.name.toList == tto.toList) || !nameOkD tto) = true then none else some (putD (withoutD gs F.name) ⟨tto, F.text, F.kept⟩)

theorem without_len {gs : List FileD} {F : FileD} (hs : srt gs) (hF : F ∈ gs) : (withoutD gs F.name).length + 1 = gs.length := by
  have key : ∀ l : List FileD, srt l → (l.filter (otherF F.name)).length + (if (∃ X ∈ l, X.name = F.name) then 1 else 0) = l.length := by
    intro l
    induction l with
    | nil => intro _; simp
    | cons G r ih =>
      intro h
      have hr := ih (List.pairwise_cons.1 h).2
      have hlt := (List.pairwise_cons.1 h).1
      simp only [List.filter_cons]
      by_cases e : G.name = F.name
      · have h1 : otherF F.name G = false := by rw [otherF, e]; simp
        have hno : ¬ ∃ X ∈ r, X.name = F.name := by
          rintro ⟨X, hX, e2⟩
          exact less_ne (hlt X hX) (e.trans e2.symm)
        rw [if_neg hno] at hr
        have e1 : (if (∃ X ∈ G :: r, X.name = F.name) then 1 else 0) = 1 := if_pos ⟨G, List.mem_cons_self, e⟩
        rw [h1, e1]
        simp only [Bool.false_eq_true, if_false, List.length_cons]
        omega
      · have hiff : (∃ X ∈ G :: r, X.name = F.name) ↔ ∃ X ∈ r, X.name = F.name := by
          constructor
          · rintro ⟨X, hX, e2⟩
            rcases List.mem_cons.1 hX with rfl | hX
            · exact absurd e2 e
            · exact ⟨X, hX, e2⟩
          · rintro ⟨X, hX, e2⟩
            exact ⟨X, List.mem_cons_of_mem _ hX, e2⟩
        have h1 : otherF F.name G = true := by rw [otherF, toList_ne.2 e]; rfl
        rw [h1]
        simp only [hiff, if_true, List.length_cons]
        omega
  have := key gs hs
  rw [if_pos ⟨F, hF, rfl⟩] at this
  simp only [withoutD]
  omega

theorem nameOk_val (s : ByteArray) (c : Bool) (w : World) (hs : s.size ≤ maxLen) (h : nameOkD s = c) : Calls Tryz.prog 213 #[.string s] w fun e w' => e = .returned (.bool c) ∧ w' = w := h ▸ nameOk_any s w hs

set_option maxRecDepth 100000 in
set_option maxHeartbeats 4000000 in
theorem move_any (gs : List FileD) (mb B : Nat) (tto : ByteArray) (w : World) (D : DataW Unit) (pt : ByteArray → Nat) (F : FileD) (hok : diskOkD gs = true) (hD : ShelfD w B mb gs D pt) (hFm : F ∈ gs) (hmb : B ≤ mb) (hBw : B ≤ w.heap.size) (hto : tto.size ≤ 1048576) :
    Calls Tryz.prog 192 #[.map (some mb), .pointer (some ⟨pt F.name, 0, none⟩), .string tto] w fun e w' => e = .returned (.bool (moveD gs F tto).isSome) ∧ ShelfAt w' B mb ((moveD gs F tto).getD gs) ∧ Below B w w' := by
  obtain ⟨hd1, hd2, hd3⟩ := (disk_iff gs).1 hok
  obtain ⟨n1, n2, n3, n4, n5⟩ := ok_file (hd2 F hFm)
  have HD := hide hD
  obtain ⟨_, hpB, hpm, hpb⟩ := hD.2.2.2.1 F hFm
  obtain ⟨p, hp⟩ : ∃ p, p = pt F.name := ⟨_, rfl⟩
  rw [← hp] at hpB hpm hpb ⊢
  have HP := hide hp
  have HPB := hide hpb
  have hc0 : w.cell? ⟨p, 0, none⟩ = some (.string F.name) := (cell_of_row w p 0 _ _ (0, 0) hpb).trans rfl
  have hc1 : w.cell? ⟨p, 1, none⟩ = some (.string F.text) := (cell_of_row w p 1 _ _ (0, 0) hpb).trans rfl
  have hc2 : w.cell? ⟨p, 2, none⟩ = some (.int .i64 F.kept) := (cell_of_row w p 2 _ _ (0, 0) hpb).trans rfl
  have hsz : size D = gs.length := hD.2.1
  have HK := hide (Tryz.keyS F.name (by unfold maxLen; omega))
  have HK2 := hide (Tryz.keyS tto (small_max hto))
  clear hD hp hpb
  cases hk : decide (F.kept < (F.text.size : Int))
  · cases he : (F.name.toList == tto.toList)
    · cases hn : nameOkD tto
      · have HE : Hid (moveD gs F tto = none) := by show _ = _; rw [moveD, if_pos (by simp [hn])]
        go_enter Tryz.func192, Tryz.ntmps192
        go_wp2_with fail
        go_quiet ((go_at_call 213; exact Calls.quiet_of_same (nameOk_val _ _ _ (small_max hto) hn)))
        go_wp2
        go_ret
        rw [HE.out]
        exact ⟨rfl, ⟨D, pt, shelfD_below HD.out (drewN_below _ _)⟩, (drewN_below w nq).mono hBw⟩
      · have HE : Hid (moveD gs F tto = some (putD (withoutD gs F.name) ⟨tto, F.text, F.kept⟩)) := by show _ = _; rw [moveD, if_neg (by rw [hk, he, hn]; decide)]
        go_enter Tryz.func192, Tryz.ntmps192
        go_wp2_with fail
        go_quiet ((go_at_call 213; exact Calls.quiet_of_same (nameOk_val _ _ _ (small_max hto) hn)))
        obtain ⟨wq, hwq⟩ : ∃ wq, wq = w.drewN nq := ⟨_, rfl⟩
        rw [← hwq]
        have bq : Below w.heap.size w wq := by rw [hwq]; exact drewN_below w nq
        have hqs : wq.heap.size = w.heap.size := by rw [hwq]; rfl
        have HDq := hide (shelfD_below HD.out bq)
        have HPq : Hid (wq.heap[p]? = some (fileObj F)) := blk_below HPB.out bq
        have hq0 : wq.cell? ⟨p, 0, none⟩ = some (.string F.name) := by rw [hwq]; exact hc0
        clear hwq hc0 hc1 hc2
        have hhas : has D (kl F.name) = true := (HD.out.2.2.1 F.name).2 ⟨F, hFm, rfl⟩
        have hlenD : (withoutD gs F.name).length = size (D.del (kl F.name)) := by
          have h1 := size_del (k := kl F.name) (HD.out.1.tidy (string_keyed Tryz.underlying9))
          rw [hhas, hsz] at h1
          have h2 := without_len hd3 hFm
          simp at h1
          omega
        have hsD : size (D.del (kl F.name)) ≤ 30 := by rw [← hlenD]; have := without_len hd3 hFm; omega
        have hfree : ∀ G ∈ withoutD gs F.name, pt G.name ≠ p := fun G hG e => by
          obtain ⟨hG1, hG2⟩ := without_mem.1 hG
          rw [HP.out] at e
          exact hG2 (HD.out.2.2.2.2 G hG1 F hFm e)
        have HFREE := hide hfree
        have HLEN := hide hlenD
        clear hfree hlenD
        go_wp2_with (first | (at_delete; refine wpList_delete_own _ rfl _ _ 218 9 rfl 247 (string_keyed Tryz.underlying9) Tryz.underlying218 ptrElem mb (size D) D rfl HDq.out.1 _ _ rfl HK.out ?_; intro w1 hown1 hturn1; have hg1 := hturn1.grown; have hp1 : w1.heap[p]? = some (fileObj F) := blk_grown HPq.out hg1 (by simpa using hpm); have hr0 : w1.cell? ⟨p, 0, none⟩ = some (.string F.name) := (cell_of_row w1 p 0 _ _ (0, 0) hp1).trans rfl; have hr1 := frozen_of_row w1 p 0 _ _ hp1; have HP1 := hide hp1; have HD1 := hide (shelf_drop HDq.out hown1 hg1 HLEN.out); have HDt : Hid (ShelfD (w1.setCell ⟨p, 0, none⟩ (.string tto)) B mb (withoutD gs F.name) (D.del (kl F.name)) pt) := shelfD_keep HD1.out (grownBy_store (World.grownBy.refl _ _) 0 _) (fun k hk => by cases hk; exact ⟨hpm, HFREE.out⟩); clear hp1) | (at_mapUpdate; refine wpList_mapUpdate_own _ rfl _ _ _ 218 rfl 9 247 (string_keyed Tryz.underlying9) Tryz.underlying218 ptrElem mb (size (D.del (kl F.name))) (D.del (kl F.name)) rfl HDt.out.1 (by unfold maxLen; omega) _ _ _ rfl rfl HK2.out (.lit (.int .i64 (p : Int))) [] rfl ?_; intro w2 hown2 hgrow2))
        go_ret
        rw [HE.out]
        have hpt : (w1.setCell ⟨p, 0, none⟩ (.string tto)).heap[p]? = some (fileObj ⟨tto, F.text, F.kept⟩) := (heap_setCell_same _ _ _ _ _ _ HP1.out).trans rfl
        have hs' : srt (withoutD gs F.name) := srt_without _ hd3
        have hlen : (putD (withoutD gs F.name) ⟨tto, F.text, F.kept⟩).length = size ((D.del (kl F.name)).put (kl tto) (.lit (.int .i64 (p : Int)))) := by
          rw [size_put (HDt.out.1.tidy (string_keyed Tryz.underlying9)), ← HLEN.out]
          cases hh : has (D.del (kl F.name)) (kl tto) with
          | true =>
            obtain ⟨G, hG, e⟩ := (HDt.out.2.2.1 tto).1 hh
            rw [put_len_old (F := G) (F' := ⟨tto, F.text, F.kept⟩) hs' hG e.symm]
            rfl
          | false =>
            rw [put_len_new (F := ⟨tto, F.text, F.kept⟩) (fun G hG e => by
              have := (HDt.out.2.2.1 tto).2 ⟨G, hG, e⟩
              rw [hh] at this
              cases this)]
            rfl
        have hb1 : Below B w w1 := (bq.mono hBw).grown hg1 (by omega) (fun k hk => by cases hk; exact hmb)
        have hb2 : Below B w (w1.setCell ⟨p, 0, none⟩ (.string tto)) := hb1.setCell (p := ⟨p, 0, none⟩) hpB _
        refine ⟨rfl, ⟨_, _, shelf_put (F := ⟨tto, F.text, F.kept⟩) HDt.out hpt hpB hpm (fun G hG _ => HFREE.out G hG) hown2 hgrow2 hlen⟩, hb2.grown hgrow2 (Nat.le_trans hBw hb2.size) (fun k hk => by cases hk; exact hmb)⟩
    · have HE : Hid (moveD gs F tto = none) := by show _ = _; rw [moveD, if_pos (by simp [he])]
      go_enter Tryz.func192, Tryz.ntmps192
      go_wp2_with fail
      go_quiet (fail)
      go_wp2
      go_ret
      rw [HE.out]
      exact ⟨rfl, ⟨D, pt, shelfD_below HD.out (drewN_below _ _)⟩, (drewN_below w nq).mono hBw⟩
  · have HE : Hid (moveD gs F tto = none) := by show _ = _; rw [moveD, if_pos (by simp only [hk]; rfl)]
    go_enter Tryz.func192, Tryz.ntmps192
    go_wp2_with fail
    go_quiet (fail)
    go_wp2
    go_ret
    rw [HE.out]
    exact ⟨rfl, ⟨D, pt, shelfD_below HD.out (drewN_below _ _)⟩, (drewN_below w nq).mono hBw⟩
end Go.Proofs.YtmmchemgegmhhaaGreatDoor
