/- The program's disk: a shelf told as a disk. -/
import Derived.Test.YtmmchemgegmhhaaGreatDoorShelfK
import Derived.Test.YtmmchemgegmhhaaGreatDoorLoseS0
namespace Go.Proofs.YtmmchemgegmhhaaGreatDoor
open Go.RowKit Go.Maps

theorem grownBy_step' {wb wr w3 : World} {r : Option Nat} (hg : wb.grownBy wr r) (hb : Below wb.heap.size wr w3) : wb.grownBy w3 r :=
  ⟨hb.os.trans hg.os, hb.tape.trans hg.tape, hb.output.trans hg.output, Nat.le_trans hg.size hb.size, fun i hi hr => (hb.block i hi).trans (hg.block i hi hr)⟩

set_option maxRecDepth 100000 in
set_option maxHeartbeats 8000000 in
theorem disk_any (gs : List FileD) (mb B : Nat) (w : World) (hok : diskOkD gs = true) (h : ShelfAt w B mb gs) :
    Calls Tryz.prog 162 #[.map (some mb)] w fun e w' => ∃ v, e = .returned (.agg #[v]) ∧ RowF w' w.heap.size v gs ∧ Below w.heap.size w w' := by
  obtain ⟨D, pt, hD⟩ := h
  have hl := ((disk_iff gs).1 hok).1
  have HOK := hide (disk_files hok).2
  have hmlt := hD.1.lt
  have HPL : Hid (∀ F ∈ gs, pt F.name < w.heap.size) := fun F hF => (Array.getElem?_eq_some_iff.1 (hD.2.2.2.1 F hF).2.2.2).1
  obtain ⟨wb, hwb⟩ : ∃ wb, wb = (w.alloc (.cells #[.slice none 0 0] 27)).alloc (.cells #[.slice none 0 0] 27) := ⟨_, rfl⟩
  have hbs : w.heap.size + 1 + 1 ≤ wb.heap.size := by rw [hwb]; simp
  have bb : Below w.heap.size w wb := by rw [hwb]; exact ((Below.refl _ w).alloc (Nat.le_refl _) _).alloc (by simp) _
  have R_wb : Hid (wb.heap[w.heap.size]? = some (.cells #[.slice none 0 0] 27 (0, 0))) := by rw [hwb]; exact blk_below (heap_alloc_new w _) ((Below.refl _ _).alloc (Nat.le_refl _) _)
  have O_wb : Hid (wb.heap[w.heap.size + 1]? = some (.cells #[.slice none 0 0] 27 (0, 0))) := by
    rw [hwb, show w.heap.size + 1 = (w.alloc (.cells #[.slice none 0 0] 27)).heap.size from by simp]
    exact heap_alloc_new _ _
  have HDb := hide (shelfD_below hD bb)
  have HBb := hide bb
  clear hD bb
  go_enter Tryz.func162, Tryz.ntmps162
  go_wp2_with fail
  rw [← hwb]
  clear hwb
  refine (keys_any (some mb) wb).mono ?_
  rintro e w' ⟨rfl, rfl⟩
  go_wp2_with fail
  refine (sorted_any wb HDb.out hok).mono ?_
  rintro e w1 ⟨vN, rfl, hrowN, b1⟩
  obtain ⟨aN, cN, rfl⟩ := slice_form hrowN
  have hs1 : wb.heap.size ≤ w1.heap.size := b1.size
  have HB1 : Hid (Below w.heap.size w w1) := HBb.out.trans (b1.mono (by omega))
  have HD1 := hide (shelfD_below HDb.out b1)
  have R_w1 : Hid (w1.heap[w.heap.size]? = some (.cells #[.slice none 0 0] 27 (0, 0))) := blk_below R_wb.out b1
  have O_w1 : Hid (w1.heap[w.heap.size + 1]? = some (.cells #[.slice none 0 0] 27 (0, 0))) := blk_below O_wb.out b1
  have HN := hide hrowN
  obtain ⟨o, ho⟩ : ∃ o, o = w.heap.size + 1 := ⟨_, rfl⟩
  rw [← ho] at O_w1 ⊢
  have hno : w.heap.size < o := by omega
  have how : o < w1.heap.size := by omega
  have hob : o < wb.heap.size := by omega
  clear ho hrowN b1 R_wb O_wb HBb
  go_wp2_with fail
  go_loopg [10] gs.length (fun gg ii wr => ∃ (k : Nat) (v : Value), k + gg = gs.length ∧ ii = .int .i64 k ∧ k ≤ gs.length ∧ Hid (w1.grownBy wr (some o)) ∧ Hid (wr.heap[o]? = some (.cells #[v] 27 (0, 0))) ∧ Hid (wr.ownsRow w1.heap.size 74 3 v k (cellsF (gs.take k))))
  case atStart => exact ⟨0, .slice none 0 0, by omega, rfl, Nat.zero_le _, World.grownBy.refl _ _, O_w1, ⟨rfl, .inl ⟨rfl, rfl⟩⟩⟩
  case round =>
    obtain ⟨k, v, hkg, rfl, hk, HG, HV, HO⟩ := hrel
    have HB : Hid (Below w.heap.size w wr) := HB1.out.grown HG.out (by omega) (fun j hj => by cases hj; omega)
    have hws : w1.heap.size ≤ wr.heap.size := HG.out.size
    have hout : wr.cell? ⟨o, 0, none⟩ = some v := box_of HV.out
    have hfo := frozen_of_row wr o 0 _ _ HV.out
    by_cases hlt : k < gs.length
    · have hlt' : decide ((k : Int) < (gs.length : Int)) = true := by simp; omega
      have hFm := List.getElem_mem hlt
      have hNk : wr.ownsRow (wb.heap.size + 1) 9 1 (.slice aN gs.length cN) gs.length (gs.map (fun F => .string F.name)) := HN.out.kept HG.out (by
        cases hv : (Value.slice aN gs.length cN).ownBlock with
        | none => exact .inl rfl
        | some g => exact .inr (fun e => by have := (HN.out.lt g hv).1; cases e; omega))
      obtain ⟨gN, capN, hvN⟩ : ∃ gN capN, (Value.slice aN gs.length cN) = .slice (some ⟨gN, 0, none⟩) gs.length capN := by
        obtain ⟨g, c, e, _⟩ := hNk.form (by omega)
        exact ⟨g, c, e⟩
      cases hvN
      have hcn : wr.cell? ⟨gN, k, none⟩ = some (.string gs[k].name) := by
        rw [hNk.cellAt k (by omega)]
        simp [hlt]
      have HDr := hide (shelfD_keep HD1.out HG.out (fun j hj => by cases hj; exact ⟨by omega, fun F hF e => by have := HPL.out F hF; omega⟩))
      obtain ⟨hat, _, hpm, hpb⟩ := HDr.out.2.2.2.1 gs[k] hFm
      obtain ⟨_, hn8, hx2, _, _⟩ := HOK.out gs[k] hFm
      have hT := List.take_add_one (l := gs) (i := k)
      rw [List.getElem?_eq_getElem hlt] at hT
      obtain ⟨F, HFk⟩ : ∃ F, Hid (gs[k] = F) := ⟨gs[k], hide rfl⟩
      rw [HFk.out] at hcn hat hpm hpb hn8 hx2 hT
      have HT : Hid (gs.take (k + 1) = gs.take k ++ [F]) := hT
      have HL : Hid ((gs.take k).length = k) := by show _ = _; rw [List.length_take]; omega
      obtain ⟨p, hp⟩ : ∃ p, p = pt F.name := ⟨_, rfl⟩
      rw [← hp] at hat hpm hpb
      have hlk : (Instr.lookup 218 (.map (some mb)) (.string F.name) false).run Tryz.prog wr.drew = .ok (.pointer (some ⟨p, 0, none⟩)) wr.drew := by
        obtain ⟨v', ps, hrun, hv⟩ := World.ownsMap.lookup (w := wr.drew) (t := 218) (e := 247) HDr.out.1 (string_keyed Tryz.underlying9) Tryz.underlying218 (Tryz.zeroP _) (zd := .nil) (zp := []) rfl (Tryz.keyS F.name (by unfold maxLen; omega))
        rw [hat] at hv
        rw [ptrElem_inv hv] at hrun
        exact hrun
      obtain ⟨cf0, cf1, cf2⟩ := file_cell hpb
      have hi0 : (0 : Int) ≤ (k : Int) := by omega
      have hi1 : (k : Int) < (gs.length : Int) := by omega
      have hF1 : F.name.size ≤ 1048576 := by omega
      have hF2 : F.text.size ≤ 1048576 := by omega
      clear hT hp hpb hat hNk hFm
      go_upto_region 5 with fail
      go_region_law ((first | (refine step_app_file _ w1.heap.size (by rfl) _ _ (by rfl) _ (gs.take k) F (by rfl) (by rw [HL.out]; exact HO4.out.alloc _) w4.heap.size (by simp [Act.eval]) (heap_alloc_new w4 _) (by rw [HL.out]; omega) (Nat.le_trans (Nat.le_trans hws hs4) (size_alloc_drew _ _)) ?_; rw [HL.out]; intro g3 cap3 w3 hown3 hb3 hg3 hgl3; have hn0 : w3.heap[o]? = some (.cells #[v] 27 (0, 0)) := (hb3.block o how).trans ((((Below.refl _ w4).alloc (Nat.le_refl _) _).block o hof4).trans HV4.out); have hn1 : w3.cell? ⟨o, 0, none⟩ = some v := (cell_of_row w3 o 0 _ _ (0, 0) hn0).trans rfl; have hn2 : w3.frozen? ⟨o, 0, none⟩ = false := frozen_of_row w3 o 0 _ _ hn0; have HN0 := hide hn0; clear hn0) | (go_simp; go_at_call 163; refine (ownFile_any F _ hF1 hF2).mono ?_; rintro e w4 ⟨rfl, b4⟩; have B4 : Hid (Below wr.heap.size wr w4) := (Below.refl _ wr).drew.trans b4; have hs4 : wr.heap.size ≤ w4.heap.size := B4.out.size; have hof4 : o < w4.heap.size := Nat.lt_of_lt_of_le how (Nat.le_trans hws hs4); have HV4 : Hid (w4.heap[o]? = some (.cells #[v] 27 (0, 0))) := blk_below HV.out B4.out; have hall0 : w4.cell? ⟨o, 0, none⟩ = some v := box_of HV4.out; have hall : (w4.alloc (.cells #[.string F.name, .string F.text, .int .i64 F.kept] 74)).cell? ⟨o, 0, none⟩ = some v := (((Below.refl _ w4).alloc (Nat.le_refl _) _).cell (p := ⟨o, 0, none⟩) hof4).trans hall0; have HO4 : Hid (w4.ownsRow w1.heap.size 74 3 v k (cellsF (gs.take k))) := ownsRow_below HO.out B4.out; clear b4)))
      all_goals
        go_wp2_with fail
        go_roundg (gk - 1)
        case measure => omega
        case rel =>
          have hbw : Below w1.heap.size wr w3 := ((B4.out.mono hws).trans ((Below.refl _ w4).alloc (by omega) _)).trans hb3
          refine ⟨k + 1, _, by omega, by go_num, by omega, grownBy_store (grownBy_step' HG.out hbw) 0 _, (heap_setCell_same _ o _ _ _ _ HN0.out).trans rfl, ?_⟩
          have hle : (gs.take k ++ [F]).length = k + 1 := by rw [List.length_append, HL.out]; rfl
          rw [hle] at hown3
          show _
          rw [HT.out]
          exact hown3.kept (grownBy_store (World.grownBy.refl _ _) 0 _) (.inr (by simp [Value.ownBlock]; omega))
    · have hlt' : decide ((k : Int) < (gs.length : Int)) = false := by simp; omega
      have hke : k = gs.length := by omega
      have hR : wr.heap[w.heap.size]? = some (.cells #[.slice none 0 0] 27 (0, 0)) := (HG.out.block w.heap.size (by omega) (by simp; omega)).trans R_w1.out
      have hr0 : wr.cell? ⟨w.heap.size, 0, none⟩ = some (.slice none 0 0) := box_of hR
      have hr1 := frozen_of_row wr w.heap.size 0 _ _ hR
      have HKE := hide hke
      clear hR hke
      obtain ⟨av, cv, rfl⟩ := slice_form HO.out
      go_wp2_with fail
      refine bodyPost_ret (v := .agg #[.slice av k cv]) (by simp [results, Tryz.results162, go_sem, hr0]) rfl ⟨.slice av k cv, rfl, ?_, HB.out.setCell (p := ⟨w.heap.size, 0, none⟩) (Nat.le_refl _) _⟩
      have hrow : RowF wr w1.heap.size (.slice av k cv) gs := by
        have h := HO.out
        have e : gs.take k = gs := List.take_of_length_le (by rw [HKE.out]; exact Nat.le_refl _)
        rw [e] at h
        refine rowF_own ?_
        rw [← HKE.out]
        exact h
      exact rowF_le (rowF_grown hrow (grownBy_store (World.grownBy.refl _ _) 0 _) (fun g hg e => by have h1 := (rowF_lt hrow g hg).1; cases e; omega)) (by omega)
end Go.Proofs.YtmmchemgegmhhaaGreatDoor
