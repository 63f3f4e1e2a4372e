/- The program's DoActs, walked. -/
import Derived.Test.YtmmchemgegmhhaaGreatDoorActsI
namespace Go.Proofs.YtmmchemgegmhhaaGreatDoor
open Go.RowKit Go.Maps

theorem acts_wrong {fs : List FileD} (h : diskOkD fs = false) : ∀ qs : List ActD, actsF fs qs = (fs, 0)
  | [] => rfl
  | A :: r => by rw [actsF, actD_no (by simp [actOk, h])]

theorem blk_far {w w' : World} {B b : Nat} {O : Obj} (h : w.heap[b]? = some O) (hb : Below B w w') (hlt : b < B) : w'.heap[b]? = some O := (hb.block b hlt).trans h

set_option maxRecDepth 100000 in
set_option maxHeartbeats 8000000 in
theorem acts_any (fs : List FileD) (ao : Option Addr) (cap : Nat) (qs : List ActD) (aa : Option Addr) (capa : Nat) (w : World) (hl : fs.length ≤ 1048576) (hfs : FilesAt w ao fs) (hsz : ∀ F ∈ fs, F.name.size ≤ 1048576 ∧ F.text.size ≤ 1048576)
    (hla : qs.length ≤ 1048576) (has : ActsAt w aa qs) (hsa : ∀ A ∈ qs, A.name.size ≤ 1048576 ∧ A.text.size ≤ 1048576 ∧ A.toN.size ≤ 1048576) :
    Calls Tryz.prog 122 #[.agg #[.slice ao fs.length cap], .slice aa qs.length capa] w fun e w' => ∃ v, e = .returned (.tuple #[.agg #[v], .int .i64 ((actsF fs qs).2 : Int)]) ∧ RowF w' w.heap.size v (actsF fs qs).1 ∧ Below w.heap.size w w' := by
  have HF := hide hfs
  have HS := hide hsz
  have HA := hide has
  have HSA := hide hsa
  clear hfs hsz has hsa
  obtain ⟨wb, hwb⟩ : ∃ wb, wb = (w.alloc (.cells #[.slice ao fs.length cap] 27)).alloc (.cells #[.slice none 0 0] 27) := ⟨_, rfl⟩
  have hbs : w.heap.size + 1 + 1 ≤ wb.heap.size := by rw [hwb]; simp
  have HBb : Hid (Below w.heap.size w wb) := by rw [hwb]; exact ((Below.refl _ w).alloc (Nat.le_refl _) _).alloc (by simp) _
  have D_wb : Hid (wb.heap[w.heap.size]? = some (.cells #[.slice ao fs.length cap] 27 (0, 0))) := by rw [hwb]; exact blk_below (heap_alloc_new w _) ((Below.refl _ _).alloc (Nat.le_refl _) _)
  have R_wb : Hid (wb.heap[w.heap.size + 1]? = some (.cells #[.slice none 0 0] 27 (0, 0))) := by
    rw [hwb, show w.heap.size + 1 = (w.alloc (.cells #[.slice ao fs.length cap] 27)).heap.size from by simp]
    exact heap_alloc_new _ _
  go_enter Tryz.func122, Tryz.ntmps122
  go_wp2_with fail
  rw [← hwb]
  clear hwb
  refine (diskOk_any fs ao cap _ hl (filesAt_keep HF.out HBb.out) (fun F h => ⟨small_max (HS.out F h).1, small_max (HS.out F h).2⟩)).mono ?_
  rintro e w1 ⟨rfl, b1⟩
  have hs1 : wb.heap.size ≤ w1.heap.size := b1.size
  have HB1 : Hid (Below w.heap.size w w1) := HBb.out.trans (b1.mono (by omega))
  have cD : w1.cell? ⟨w.heap.size, 0, none⟩ = some (.slice ao fs.length cap) := box_of (blk_below D_wb.out b1)
  have R_w1 : Hid (w1.heap[w.heap.size + 1]? = some (.cells #[.slice none 0 0] 27 (0, 0))) := blk_below R_wb.out b1
  clear b1 HBb D_wb R_wb
  cases hok : diskOkD fs
  · have HE := hide (acts_wrong hok qs)
    go_wp2_with fail
    refine (ownDisk_any fs ao cap _ hl (filesAt_keep HF.out HB1.out) HS.out).mono ?_
    rintro e w2 ⟨v2, rfl, hrow, b2⟩
    obtain ⟨a2, c2, rfl, _⟩ := rowF_at hrow
    have hR := blk_below R_w1.out b2
    have cR := box_of hR
    have zR := frozen_of_row w2 (w.heap.size + 1) 0 _ _ hR
    have HROW := hide hrow
    have HB2 : Hid (Below w.heap.size w w2) := HB1.out.trans (b2.mono HB1.out.size)
    clear hrow b2 hR
    go_wp2_with fail
    refine bodyPost_ret (v := .tuple #[.agg #[.slice a2 fs.length c2], .int .i64 0]) (by simp [results, Tryz.results122, go_sem, cR]) rfl ⟨.slice a2 fs.length c2, by rw [HE.out]; rfl, ?_, HB2.out.setCell (p := ⟨w.heap.size + 1, 0, none⟩) (by show w.heap.size ≤ w.heap.size + 1; omega) _⟩
    rw [HE.out]
    exact rowF_le (rowF_grown HROW.out (grownBy_store (World.grownBy.refl _ _) 0 _) (fun g hg e => by have h1 := (rowF_lt HROW.out g hg).1; cases e; omega)) (by omega)
  · go_wp2_with fail
    refine (shelfOf_any fs ao cap _ hok (filesAt_keep HF.out HB1.out)).mono ?_
    rintro e w2 ⟨mb, rfl, hmb, hsh, b2⟩
    have HSH := hide hsh
    have hs2 : w1.heap.size ≤ w2.heap.size := b2.size
    have HB2 : Hid (Below w.heap.size w w2) := HB1.out.trans (b2.mono HB1.out.size)
    have R_w2 : Hid (w2.heap[w.heap.size + 1]? = some (.cells #[.slice none 0 0] 27 (0, 0))) := blk_below R_w1.out b2
    clear hsh b2 cD R_w1
    go_wp2_with fail
    go_loopg [7] qs.length (fun gg ii wr => ∃ (k : Nat) (G : List FileD), k + gg = qs.length ∧ ii = .int .i64 k ∧ k ≤ qs.length ∧ diskOkD G = true ∧ Hid (actsF fs qs = ((actsF G (qs.drop k)).1, k + (actsF G (qs.drop k)).2)) ∧ w1.heap.size ≤ wr.heap.size ∧ Hid (Below w.heap.size w wr) ∧ Hid (wr.heap[w.heap.size + 1]? = some (.cells #[.slice none 0 0] 27 (0, 0))) ∧ Hid (ShelfAt wr w1.heap.size mb G))
    case atStart => exact ⟨0, fs, by omega, rfl, Nat.zero_le _, hok, by show _ = _; rw [List.drop_zero, Nat.zero_add], hs2, HB2, R_w2, HSH⟩
    case round =>
      obtain ⟨k, G, hkg, rfl, hk, hGo, HK, hwr, HB, HR, HP⟩ := hrel
      by_cases hlt : k < qs.length
      · have hlt' : decide ((k : Int) < (qs.length : Int)) = true := by simp; omega
        obtain ⟨b, off, rfl, hbw, hc0, hc1, hc2, hc3⟩ := actsAt_keep HA.out HB.out k hlt
        have hsA := HSA.out qs[k] (List.getElem_mem hlt)
        obtain ⟨A, HAk⟩ : ∃ A, Hid (qs[k] = A) := ⟨qs[k], hide rfl⟩
        rw [HAk.out] at hc0 hc1 hc2 hc3 hsA
        obtain ⟨hA1, hA2, hA3⟩ := hsA
        have hi0 : (0 : Int) ≤ (k : Int) := by omega
        have hi1 : (k : Int) < (qs.length : Int) := by omega
        go_wp2_with fail
        refine (do_any G mb w1.heap.size A _ hGo HP.out hmb hwr hA1 hA2 hA3).mono ?_
        rintro e w3 ⟨rfl, hsh3, b3⟩
        have hs3 : wr.heap.size ≤ w3.heap.size := b3.size
        have HB3 : Hid (Below w.heap.size w w3) := HB.out.trans (b3.mono (by omega))
        have R_w3 : Hid (w3.heap[w.heap.size + 1]? = some (.cells #[.slice none 0 0] 27 (0, 0))) := blk_far HR.out b3 (by omega)
        have HS3 := hide hsh3
        clear hsh3 b3 hc0 hc1 hc2 hc3
        cases hact : actD G A with
        | none =>
          have hE : Hid (actsF fs qs = (G, k)) := by show _ = _; rw [HK.out, actsF_no hlt (by rw [HAk.out]; exact hact)]; rfl
          rw [hact] at HS3
          have hb : Option.isSome (none : Option (List FileD)) = false := rfl
          go_wp2_with fail
          refine (disk_any G mb w1.heap.size _ hGo HS3.out).mono ?_
          rintro e w4 ⟨v4, rfl, hrow, b4⟩
          obtain ⟨a4, c4, rfl, _⟩ := rowF_at hrow
          have hR := blk_below R_w3.out b4
          have cR := box_of hR
          have zR := frozen_of_row w4 (w.heap.size + 1) 0 _ _ hR
          have HROW := hide hrow
          have HB4 : Hid (Below w.heap.size w w4) := HB3.out.trans (b4.mono HB3.out.size)
          clear hrow b4 hR
          go_wp2_with fail
          refine bodyPost_ret (v := .tuple #[.agg #[.slice a4 G.length c4], .int .i64 (k : Int)]) (by simp [results, Tryz.results122, go_sem, cR]) rfl ⟨.slice a4 G.length c4, by rw [hE.out], ?_, HB4.out.setCell (p := ⟨w.heap.size + 1, 0, none⟩) (by show w.heap.size ≤ w.heap.size + 1; omega) _⟩
          rw [hE.out]
          exact rowF_le (rowF_grown HROW.out (grownBy_store (World.grownBy.refl _ _) 0 _) (fun g hg e => by have h1 := (rowF_lt HROW.out g hg).1; cases e; omega)) (by omega)
        | some g =>
          have hE : Hid (actsF fs qs = ((actsF g (qs.drop (k + 1))).1, k + 1 + (actsF g (qs.drop (k + 1))).2)) := by show _ = _; rw [HK.out, actsF_yes hlt (by rw [HAk.out]; exact hact)]; simp only [Prod.mk.injEq, true_and]; omega
          rw [hact] at HS3
          have hb : Option.isSome (some g) = true := rfl
          go_wp2_with fail
          go_roundg (gk - 1)
          case measure => omega
          case rel => exact ⟨k + 1, g, by omega, by go_num, by omega, actD_ok hact, hE, by omega, HB3, R_w3, HS3⟩
      · have hlt' : decide ((k : Int) < (qs.length : Int)) = false := by simp; omega
        have hE : Hid (actsF fs qs = (G, k)) := by show _ = _; rw [HK.out, actsF_end (by omega)]; rfl
        go_wp2_with fail
        refine (disk_any G mb w1.heap.size _ hGo HP.out).mono ?_
        rintro e w4 ⟨v4, rfl, hrow, b4⟩
        obtain ⟨a4, c4, rfl, _⟩ := rowF_at hrow
        have hR := blk_below HR.out b4
        have cR := box_of hR
        have zR := frozen_of_row w4 (w.heap.size + 1) 0 _ _ hR
        have HROW := hide hrow
        have HB4 : Hid (Below w.heap.size w w4) := HB.out.trans (b4.mono HB.out.size)
        clear hrow b4 hR
        go_wp2_with fail
        refine bodyPost_ret (v := .tuple #[.agg #[.slice a4 G.length c4], .int .i64 (k : Int)]) (by simp [results, Tryz.results122, go_sem, cR]) rfl ⟨.slice a4 G.length c4, by rw [hE.out], ?_, HB4.out.setCell (p := ⟨w.heap.size + 1, 0, none⟩) (by show w.heap.size ≤ w.heap.size + 1; omega) _⟩
        rw [hE.out]
        exact rowF_le (rowF_grown HROW.out (grownBy_store (World.grownBy.refl _ _) 0 _) (fun g hg e => by have h1 := (rowF_lt HROW.out g hg).1; cases e; omega)) (by omega)
end Go.Proofs.YtmmchemgegmhhaaGreatDoor
