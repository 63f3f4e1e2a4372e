import Derived.Test.YtlcfblodflgleaaGreatDoorBe39
import Derived.Test.YtlcfblodflgleaaGreatDoorBe3
import Derived.Test.YtlcfblodflgleaaGreatDoorBe6
set_option maxRecDepth 100000
set_option maxHeartbeats 8000000
namespace Go.Proofs.YtlcfblodflgleaaGreatDoor
open Go.RowKit Go.Maps
theorem grownBy_step' {wb wr w3 : World} {r : Option Nat} (hg : wb.grownBy wr r) (hb : Below wb.heap.size wr w3) : wb.grownBy w3 r :=
  ⟨hb.os.trans hg.os, hb.tape.trans hg.tape, hb.output.trans hg.output, Nat.le_trans hg.size hb.size, fun i hi hr => (hb.block i hi).trans (hg.block i hi hr)⟩
theorem disk_any (gs : List FileD) (mb B : Nat) (w : World) (hok : diskOkD gs = true) (h : ShelfAt w B mb gs) :
    Calls Tryz.prog 81 #[.map (some mb)] w fun e w' => ∃ v, e = .returned (.agg #[v]) ∧ RowF w' w.heap.size v gs ∧ Below w.heap.size w w' := by
  obtain ⟨D, pt, hD⟩ := h
  have hl := ((disk_iff gs).1 hok).1
  have HOK := hide (disk_files hok).2
  have hmlt := hD.1.lt
  have HPL : Hid (∀ F ∈ gs, pt F.name < w.heap.size) := fun F hF => (Array.getElem?_eq_some_iff.1 (hD.2.2.2.1 F hF).2.2.2).1
  obtain ⟨wb, hwb⟩ : ∃ wb, wb = (w.alloc (.cells #[.slice none 0 0] 31)).alloc (.cells #[.slice none 0 0] 31) := ⟨_, rfl⟩
  have hbs : w.heap.size + 1 + 1 ≤ wb.heap.size := by rw [hwb]; simp
  have bb : Below w.heap.size w wb := by rw [hwb]; exact ((Below.refl _ w).alloc (Nat.le_refl _) _).alloc (by simp) _
  have R_wb : Hid (wb.heap[w.heap.size]? = some (.cells #[.slice none 0 0] 31 (0, 0))) := by rw [hwb]; exact blk_below (heap_alloc_new w _) ((Below.refl _ _).alloc (Nat.le_refl _) _)
  have O_wb : Hid (wb.heap[w.heap.size + 1]? = some (.cells #[.slice none 0 0] 31 (0, 0))) := by
    rw [hwb, show w.heap.size + 1 = (w.alloc (.cells #[.slice none 0 0] 31)).heap.size from by simp]
    exact heap_alloc_new _ _
  have HDb := hide (shelfD_below hD bb)
  have HBb := hide bb
  clear hD bb
  go_enter Tryz.func81, Tryz.ntmps81
  go_wp2_with fail
  rw [← hwb]
  clear hwb
  refine (keys_any (some mb) wb).mono ?_
  rintro e w' ⟨rfl, rfl⟩
  go_wp2_with fail
  refine (sorted_any wb HDb.out hok).mono ?_
  rintro e w1 ⟨vN, rfl, hrowN, b1⟩
  obtain ⟨aN, cN, rfl⟩ := slice_form hrowN
  have hs1 : wb.heap.size ≤ w1.heap.size := b1.size
  have HB1 : Hid (Below w.heap.size w w1) := HBb.out.trans (b1.mono (by omega))
  have HD1 := hide (shelfD_below HDb.out b1)
  have R_w1 : Hid (w1.heap[w.heap.size]? = some (.cells #[.slice none 0 0] 31 (0, 0))) := blk_below R_wb.out b1
  have O_w1 : Hid (w1.heap[w.heap.size + 1]? = some (.cells #[.slice none 0 0] 31 (0, 0))) := blk_below O_wb.out b1
  have HN := hide hrowN
  obtain ⟨o, ho⟩ : ∃ o, o = w.heap.size + 1 := ⟨_, rfl⟩
  rw [← ho] at O_w1 ⊢
  have hno : w.heap.size < o := by omega
  have how : o < w1.heap.size := by omega
  have hob : o < wb.heap.size := by omega
  clear ho hrowN b1 R_wb O_wb HBb
  go_wp2_with fail
  go_loopg [10] gs.length (fun gg ii wr => ∃ (k : Nat) (v : Value), k + gg = gs.length ∧ ii = .int .i64 k ∧ k ≤ gs.length ∧ Hid (w1.grownBy wr (some o)) ∧ Hid (wr.heap[o]? = some (.cells #[v] 31 (0, 0))) ∧ Hid (wr.ownsRow w1.heap.size 109 3 v k (cellsF (gs.take k))))
  case atStart => exact ⟨0, .slice none 0 0, by omega, rfl, Nat.zero_le _, World.grownBy.refl _ _, O_w1, ⟨rfl, .inl ⟨rfl, rfl⟩⟩⟩
  case round =>
    obtain ⟨k, v, hkg, rfl, hk, HG, HV, HO⟩ := hrel
    have HB : Hid (Below w.heap.size w wr) := HB1.out.grown HG.out (by omega) (fun j hj => by cases hj; omega)
    have hws : w1.heap.size ≤ wr.heap.size := HG.out.size
    have hout : wr.cell? ⟨o, 0, none⟩ = some v := box_of HV.out
    have hfo := frozen_of_row wr o 0 _ _ HV.out
    by_cases hlt : k < gs.length
    · have hlt' : decide ((k : Int) < (gs.length : Int)) = true := by simp; omega
      have hFm := List.getElem_mem hlt
      have hNk : wr.ownsRow (wb.heap.size + 1) 9 1 (.slice aN gs.length cN) gs.length (gs.map (fun F => .string F.name)) := HN.out.kept HG.out (by
        cases hv : (Value.slice aN gs.length cN).ownBlock with
        | none => exact .inl rfl
        | some g => exact .inr (fun e => by have := (HN.out.lt g hv).1; cases e; omega))
      obtain ⟨gN, capN, hvN⟩ : ∃ gN capN, (Value.slice aN gs.length cN) = .slice (some ⟨gN, 0, none⟩) gs.length capN := by
        obtain ⟨g, c, e, _⟩ := hNk.form (by omega)
        exact ⟨g, c, e⟩
      cases hvN
      have hcn : wr.cell? ⟨gN, k, none⟩ = some (.string gs[k].name) := by
        rw [hNk.cellAt k (by omega)]
        simp [hlt]
      have HDr := hide (shelfD_keep HD1.out HG.out (fun j hj => by cases hj; exact ⟨by omega, fun F hF e => by have := HPL.out F hF; omega⟩))
      obtain ⟨hat, _, hpm, hpb⟩ := HDr.out.2.2.2.1 gs[k] hFm
      obtain ⟨_, hn8, hx2, _, _⟩ := HOK.out gs[k] hFm
      have hT := List.take_add_one (l := gs) (i := k)
      rw [List.getElem?_eq_getElem hlt] at hT
      obtain ⟨F, HFk⟩ : ∃ F, Hid (gs[k] = F) := ⟨gs[k], hide rfl⟩
      rw [HFk.out] at hcn hat hpm hpb hn8 hx2 hT
      have HT : Hid (gs.take (k + 1) = gs.take k ++ [F]) := hT
      have HL : Hid ((gs.take k).length = k) := by show _ = _; rw [List.length_take]; omega
      obtain ⟨p, hp⟩ : ∃ p, p = pt F.name := ⟨_, rfl⟩
      rw [← hp] at hat hpm hpb
      have hlk : (Instr.lookup 137 (.map (some mb)) (.string F.name) false).run Tryz.prog wr.drew = .ok (.pointer (some ⟨p, 0, none⟩)) wr.drew := by
        obtain ⟨v', ps, hrun, hv⟩ := World.ownsMap.lookup (w := wr.drew) (t := 137) (e := 178) HDr.out.1 (string_keyed Tryz.underlying9) Tryz.underlying137 (Tryz.zeroP _) (zd := .nil) (zp := []) rfl (Tryz.keyS F.name (by unfold maxLen; omega))
        rw [hat] at hv
        rw [ptrElem_inv hv] at hrun
        exact hrun
      obtain ⟨cf0, cf1, cf2⟩ := file_cell hpb
      have hi0 : (0 : Int) ≤ (k : Int) := by omega
      have hi1 : (k : Int) < (gs.length : Int) := by omega
      have hF1 : F.name.size ≤ 1048576 := by omega
      have hF2 : F.text.size ≤ 1048576 := by omega
      clear hT hp hpb hat hNk hFm
      go_upto_region 5 with fail
      go_region_law ((first | (refine step_app_file _ w1.heap.size (by rfl) _ _ (by rfl) _ (gs.take k) F (by rfl) (by rw [HL.out]; exact HO4.out.alloc _) w4.heap.size (by simp [Act.eval]) (heap_alloc_new w4 _) (by rw [HL.out]; omega) (Nat.le_trans (Nat.le_trans hws hs4) (size_alloc_drew _ _)) ?_; rw [HL.out]; intro g3 cap3 w3 hown3 hb3 hg3 hgl3; have hn0 : w3.heap[o]? = some (.cells #[v] 31 (0, 0)) := (hb3.block o how).trans ((((Below.refl _ w4).alloc (Nat.le_refl _) _).block o hof4).trans HV4.out); have hn1 : w3.cell? ⟨o, 0, none⟩ = some v := (cell_of_row w3 o 0 _ _ (0, 0) hn0).trans rfl; have hn2 : w3.frozen? ⟨o, 0, none⟩ = false := frozen_of_row w3 o 0 _ _ hn0; have HN0 := hide hn0; clear hn0) | (go_simp; go_at_call 120; refine (ownFile_any F _ hF1 hF2).mono ?_; rintro e w4 ⟨rfl, b4⟩; have B4 : Hid (Below wr.heap.size wr w4) := (Below.refl _ wr).drew.trans b4; have hs4 : wr.heap.size ≤ w4.heap.size := B4.out.size; have hof4 : o < w4.heap.size := Nat.lt_of_lt_of_le how (Nat.le_trans hws hs4); have HV4 : Hid (w4.heap[o]? = some (.cells #[v] 31 (0, 0))) := blk_below HV.out B4.out; have hall0 : w4.cell? ⟨o, 0, none⟩ = some v := box_of HV4.out; have hall : (w4.alloc (.cells #[.string F.name, .string F.text, .int .i64 F.kept] 109)).cell? ⟨o, 0, none⟩ = some v := (((Below.refl _ w4).alloc (Nat.le_refl _) _).cell (p := ⟨o, 0, none⟩) hof4).trans hall0; have HO4 : Hid (w4.ownsRow w1.heap.size 109 3 v k (cellsF (gs.take k))) := ownsRow_below HO.out B4.out; clear b4)))
      all_goals
        go_wp2_with fail
        go_roundg (gk - 1)
        case measure => omega
        case rel =>
          have hbw : Below w1.heap.size wr w3 := ((B4.out.mono hws).trans ((Below.refl _ w4).alloc (by omega) _)).trans hb3
          refine ⟨k + 1, _, by omega, by go_num, by omega, grownBy_store (grownBy_step' HG.out hbw) 0 _, (heap_setCell_same _ o _ _ _ _ HN0.out).trans rfl, ?_⟩
          have hle : (gs.take k ++ [F]).length = k + 1 := by rw [List.length_append, HL.out]; rfl
          rw [hle] at hown3
          show _
          rw [HT.out]
          exact hown3.kept (grownBy_store (World.grownBy.refl _ _) 0 _) (.inr (by simp [Value.ownBlock]; omega))
    · have hlt' : decide ((k : Int) < (gs.length : Int)) = false := by simp; omega
      have hke : k = gs.length := by omega
      have hR : wr.heap[w.heap.size]? = some (.cells #[.slice none 0 0] 31 (0, 0)) := (HG.out.block w.heap.size (by omega) (by simp; omega)).trans R_w1.out
      have hr0 : wr.cell? ⟨w.heap.size, 0, none⟩ = some (.slice none 0 0) := box_of hR
      have hr1 := frozen_of_row wr w.heap.size 0 _ _ hR
      have HKE := hide hke
      clear hR hke
      obtain ⟨av, cv, rfl⟩ := slice_form HO.out
      go_wp2_with fail
      refine bodyPost_ret (v := .agg #[.slice av k cv]) (by simp [results, Tryz.results81, go_sem, hr0]) rfl ⟨.slice av k cv, rfl, ?_, HB.out.setCell (p := ⟨w.heap.size, 0, none⟩) (Nat.le_refl _) _⟩
      have hrow : RowF wr w1.heap.size (.slice av k cv) gs := by
        have h := HO.out
        have e : gs.take k = gs := List.take_of_length_le (by rw [HKE.out]; exact Nat.le_refl _)
        rw [e] at h
        refine rowF_own ?_
        rw [← HKE.out]
        exact h
      exact rowF_le (rowF_grown hrow (grownBy_store (World.grownBy.refl _ _) 0 _) (fun g hg e => by have h1 := (rowF_lt hrow g hg).1; cases e; omega)) (by omega)
theorem ownDisk_any (fs : List FileD) (ao : Option Addr) (cap : Nat) (w : World) (hl : fs.length ≤ 1048576) (hfs : FilesAt w ao fs) (hsz : ∀ F ∈ fs, F.name.size ≤ 1048576 ∧ F.text.size ≤ 1048576) :
    Calls Tryz.prog 123 #[.agg #[.slice ao fs.length cap]] w fun e w' => ∃ v, e = .returned (.agg #[v]) ∧ RowF w' w.heap.size v fs ∧ Below w.heap.size w w' := by
  have HF := hide hfs
  have HS := hide hsz
  clear hfs hsz
  obtain ⟨w1, hw1⟩ : ∃ w1, w1 = ((w.alloc (.cells #[.slice ao fs.length cap] 31)).alloc (.cells #[.slice none 0 0] 31)).alloc (.cells #[.slice none 0 0] 31) := ⟨_, rfl⟩
  have hbs : w.heap.size + 1 + 1 + 1 ≤ w1.heap.size := by rw [hw1]; simp
  have HB1 : Hid (Below w.heap.size w w1) := by rw [hw1]; exact (((Below.refl _ w).alloc (Nat.le_refl _) _).alloc (by simp) _).alloc (by simp; omega) _
  have R_w1 : Hid (w1.heap[w.heap.size + 1]? = some (.cells #[.slice none 0 0] 31 (0, 0))) := by
    rw [hw1]
    refine blk_below ?_ ((Below.refl _ _).alloc (Nat.le_refl _) _)
    rw [show w.heap.size + 1 = (w.alloc (.cells #[.slice ao fs.length cap] 31)).heap.size from by simp]
    exact heap_alloc_new _ _
  obtain ⟨o, ho⟩ : ∃ o, o = w.heap.size + 1 + 1 := ⟨_, rfl⟩
  have O_w1 : Hid (w1.heap[o]? = some (.cells #[.slice none 0 0] 31 (0, 0))) := by
    rw [hw1, ho, show w.heap.size + 1 + 1 = ((w.alloc (.cells #[.slice ao fs.length cap] 31)).alloc (.cells #[.slice none 0 0] 31)).heap.size from by simp]
    exact heap_alloc_new _ _
  have hcd : (((w.alloc (.cells #[.slice ao fs.length cap] 31)).alloc (.cells #[.slice none 0 0] 31)).alloc (.cells #[.slice none 0 0] 31)).cell? ⟨w.heap.size, 0, none⟩ = some (.slice ao fs.length cap) := box_of (blk_below (blk_below (heap_alloc_new w _) ((Below.refl _ _).alloc (Nat.le_refl _) _)) ((Below.refl _ _).alloc (Nat.le_refl _) _))
  have hno : w.heap.size + 1 < o := by omega
  have how : o < w1.heap.size := by omega
  go_enter Tryz.func123, Tryz.ntmps123
  go_wp2_with fail
  rw [← hw1, ← ho]
  clear hw1 ho hcd
  go_loopg [9] fs.length (fun gg ii wr => ∃ (k : Nat) (v : Value), k + gg = fs.length ∧ ii = .int .i64 k ∧ k ≤ fs.length ∧ Hid (w1.grownBy wr (some o)) ∧ Hid (wr.heap[o]? = some (.cells #[v] 31 (0, 0))) ∧ Hid (wr.ownsRow w1.heap.size 109 3 v k (cellsF (fs.take k))))
  case atStart => exact ⟨0, .slice none 0 0, by omega, rfl, Nat.zero_le _, World.grownBy.refl _ _, O_w1, ⟨rfl, .inl ⟨rfl, rfl⟩⟩⟩
  case round =>
    obtain ⟨k, v, hkg, rfl, hk, HG, HV, HO⟩ := hrel
    have HB : Hid (Below w.heap.size w wr) := HB1.out.grown HG.out (by omega) (fun j hj => by cases hj; omega)
    have hws : w1.heap.size ≤ wr.heap.size := HG.out.size
    have hout : wr.cell? ⟨o, 0, none⟩ = some v := box_of HV.out
    have hfo := frozen_of_row wr o 0 _ _ HV.out
    by_cases hlt : k < fs.length
    · have hlt' : decide ((k : Int) < (fs.length : Int)) = true := by simp; omega
      obtain ⟨b, off, rfl, hbw, hc0, hc1, hc2⟩ := filesAt_keep HF.out HB.out k hlt
      obtain ⟨hF1, hF2⟩ := HS.out fs[k] (List.getElem_mem hlt)
      have hT := List.take_add_one (l := fs) (i := k)
      rw [List.getElem?_eq_getElem hlt] at hT
      obtain ⟨F, HFk⟩ : ∃ F, Hid (fs[k] = F) := ⟨fs[k], hide rfl⟩
      rw [HFk.out] at hc0 hc1 hc2 hF1 hF2 hT
      have HT : Hid (fs.take (k + 1) = fs.take k ++ [F]) := hT
      have HL : Hid ((fs.take k).length = k) := by show _ = _; rw [List.length_take]; omega
      have hi0 : (0 : Int) ≤ (k : Int) := by omega
      have hi1 : (k : Int) < (fs.length : Int) := by omega
      obtain ⟨wf, hwf⟩ : ∃ wf, wf = wr.alloc (.cells #[.string F.name, .string F.text, .int .i64 F.kept] 109) := ⟨_, rfl⟩
      have Bf : Hid (Below wr.heap.size wr wf) := by rw [hwf]; exact (Below.refl _ _).alloc (Nat.le_refl _) _
      have hfs0 : wr.heap.size ≤ wf.heap.size := Bf.out.size
      have hpf : wf.heap[wr.heap.size]? = some (.cells #[.string F.name, .string F.text, .int .i64 F.kept] 109 (0, 0)) := by rw [hwf]; exact heap_alloc_new _ _
      obtain ⟨cf0, cf1, cf2⟩ := file_cell hpf
      have HVf : Hid (wf.heap[o]? = some (.cells #[v] 31 (0, 0))) := blk_below HV.out Bf.out
      have houtf : wf.cell? ⟨o, 0, none⟩ = some v := box_of HVf.out
      have HOf : Hid (wf.ownsRow w1.heap.size 109 3 v k (cellsF (fs.take k))) := ownsRow_below HO.out Bf.out
      clear hT hpf
      go_upto_region 5 with fail
      rw [← hwf]
      clear hwf hc0 hc1 hc2 hout hfo
      go_region_law ((first | (refine step_app_file _ w1.heap.size (by rfl) _ _ (by rfl) _ (fs.take k) F (by rfl) (by rw [HL.out]; exact HO4.out.alloc _) w4.heap.size (by simp [Act.eval]) (heap_alloc_new w4 _) (by rw [HL.out]; omega) (Nat.le_trans (Nat.le_trans (Nat.le_trans hws hfs0) hs4) (size_alloc_drew _ _)) ?_; rw [HL.out]; intro g3 cap3 w3 hown3 hb3 hg3 hgl3; have hn0 : w3.heap[o]? = some (.cells #[v] 31 (0, 0)) := (hb3.block o how).trans ((((Below.refl _ w4).alloc (Nat.le_refl _) _).block o hof4).trans HV4.out); have hn1 : w3.cell? ⟨o, 0, none⟩ = some v := (cell_of_row w3 o 0 _ _ (0, 0) hn0).trans rfl; have hn2 : w3.frozen? ⟨o, 0, none⟩ = false := frozen_of_row w3 o 0 _ _ hn0; have HN0 := hide hn0; clear hn0) | (go_simp; go_at_call 120; refine (ownFile_any F _ hF1 hF2).mono ?_; rintro e w4 ⟨rfl, b4⟩; have B4 : Hid (Below wf.heap.size wf w4) := (Below.refl _ wf).drew.trans b4; have hs4 : wf.heap.size ≤ w4.heap.size := B4.out.size; have hof4 : o < w4.heap.size := Nat.lt_of_lt_of_le how (Nat.le_trans (Nat.le_trans hws hfs0) hs4); have HV4 : Hid (w4.heap[o]? = some (.cells #[v] 31 (0, 0))) := blk_below HVf.out B4.out; have hall0 : w4.cell? ⟨o, 0, none⟩ = some v := box_of HV4.out; have hall : (w4.alloc (.cells #[.string F.name, .string F.text, .int .i64 F.kept] 109)).cell? ⟨o, 0, none⟩ = some v := (((Below.refl _ w4).alloc (Nat.le_refl _) _).cell (p := ⟨o, 0, none⟩) hof4).trans hall0; have HO4 : Hid (w4.ownsRow w1.heap.size 109 3 v k (cellsF (fs.take k))) := ownsRow_below HOf.out B4.out; clear b4)))
      all_goals
        go_wp2_with fail
        go_roundg (gk - 1)
        case measure => omega
        case rel =>
          have hbw : Below w1.heap.size wr w3 := (((Bf.out.mono hws).trans (B4.out.mono (Nat.le_trans hws hfs0))).trans ((Below.refl _ w4).alloc (by omega) _)).trans hb3
          refine ⟨k + 1, _, by omega, by go_num, by omega, grownBy_store (grownBy_step' HG.out hbw) 0 _, (heap_setCell_same _ o _ _ _ _ HN0.out).trans rfl, ?_⟩
          have hle : (fs.take k ++ [F]).length = k + 1 := by rw [List.length_append, HL.out]; rfl
          rw [hle] at hown3
          show _
          rw [HT.out]
          exact hown3.kept (grownBy_store (World.grownBy.refl _ _) 0 _) (.inr (by simp [Value.ownBlock]; omega))
    · have hlt' : decide ((k : Int) < (fs.length : Int)) = false := by simp; omega
      have hke : k = fs.length := by omega
      have hR : wr.heap[w.heap.size + 1]? = some (.cells #[.slice none 0 0] 31 (0, 0)) := (HG.out.block (w.heap.size + 1) (by omega) (by simp; omega)).trans R_w1.out
      have hr0 : wr.cell? ⟨w.heap.size + 1, 0, none⟩ = some (.slice none 0 0) := box_of hR
      have hr1 := frozen_of_row wr (w.heap.size + 1) 0 _ _ hR
      have HKE := hide hke
      clear hR hke
      obtain ⟨av, cv, rfl⟩ := slice_form HO.out
      go_wp2_with fail
      refine bodyPost_ret (v := .agg #[.slice av k cv]) (by simp [results, Tryz.results123, go_sem, hr0]) rfl ⟨.slice av k cv, rfl, ?_, HB.out.setCell (p := ⟨w.heap.size + 1, 0, none⟩) (by show w.heap.size ≤ w.heap.size + 1; omega) _⟩
      have hrow : RowF wr w1.heap.size (.slice av k cv) fs := by
        have h := HO.out
        have e : fs.take k = fs := List.take_of_length_le (by rw [HKE.out]; exact Nat.le_refl _)
        rw [e] at h
        refine rowF_own ?_
        rw [← HKE.out]
        exact h
      exact rowF_le (rowF_grown hrow (grownBy_store (World.grownBy.refl _ _) 0 _) (fun g hg e => by have h1 := (rowF_lt hrow g hg).1; cases e; omega)) (by omega)
theorem acts_wrong {fs : List FileD} (h : diskOkD fs = false) : ∀ qs : List ActD, actsF fs qs = (fs, 0)
  | [] => rfl
  | A :: r => by rw [actsF, actD_no (by simp [actOk, h])]
theorem blk_far {w w' : World} {B b : Nat} {O : Obj} (h : w.heap[b]? = some O) (hb : Below B w w') (hlt : b < B) : w'.heap[b]? = some O := (hb.block b hlt).trans h
theorem acts_any (fs : List FileD) (ao : Option Addr) (cap : Nat) (qs : List ActD) (aa : Option Addr) (capa : Nat) (w : World) (hl : fs.length ≤ 1048576) (hfs : FilesAt w ao fs) (hsz : ∀ F ∈ fs, F.name.size ≤ 1048576 ∧ F.text.size ≤ 1048576)
    (hla : qs.length ≤ 1048576) (has : ActsAt w aa qs) (hsa : ∀ A ∈ qs, A.name.size ≤ 1048576 ∧ A.text.size ≤ 1048576 ∧ A.toN.size ≤ 1048576) :
    Calls Tryz.prog 87 #[.agg #[.slice ao fs.length cap], .slice aa qs.length capa] w fun e w' => ∃ v, e = .returned (.tuple #[.agg #[v], .int .i64 ((actsF fs qs).2 : Int)]) ∧ RowF w' w.heap.size v (actsF fs qs).1 ∧ Below w.heap.size w w' := by
  have HF := hide hfs
  have HS := hide hsz
  have HA := hide has
  have HSA := hide hsa
  clear hfs hsz has hsa
  obtain ⟨wb, hwb⟩ : ∃ wb, wb = (w.alloc (.cells #[.slice ao fs.length cap] 31)).alloc (.cells #[.slice none 0 0] 31) := ⟨_, rfl⟩
  have hbs : w.heap.size + 1 + 1 ≤ wb.heap.size := by rw [hwb]; simp
  have HBb : Hid (Below w.heap.size w wb) := by rw [hwb]; exact ((Below.refl _ w).alloc (Nat.le_refl _) _).alloc (by simp) _
  have D_wb : Hid (wb.heap[w.heap.size]? = some (.cells #[.slice ao fs.length cap] 31 (0, 0))) := by rw [hwb]; exact blk_below (heap_alloc_new w _) ((Below.refl _ _).alloc (Nat.le_refl _) _)
  have R_wb : Hid (wb.heap[w.heap.size + 1]? = some (.cells #[.slice none 0 0] 31 (0, 0))) := by
    rw [hwb, show w.heap.size + 1 = (w.alloc (.cells #[.slice ao fs.length cap] 31)).heap.size from by simp]
    exact heap_alloc_new _ _
  go_enter Tryz.func87, Tryz.ntmps87
  go_wp2_with fail
  rw [← hwb]
  clear hwb
  refine (diskOk_any fs ao cap _ hl (filesAt_keep HF.out HBb.out) (fun F h => ⟨small_max (HS.out F h).1, small_max (HS.out F h).2⟩)).mono ?_
  rintro e w1 ⟨rfl, b1⟩
  have hs1 : wb.heap.size ≤ w1.heap.size := b1.size
  have HB1 : Hid (Below w.heap.size w w1) := HBb.out.trans (b1.mono (by omega))
  have cD : w1.cell? ⟨w.heap.size, 0, none⟩ = some (.slice ao fs.length cap) := box_of (blk_below D_wb.out b1)
  have R_w1 : Hid (w1.heap[w.heap.size + 1]? = some (.cells #[.slice none 0 0] 31 (0, 0))) := blk_below R_wb.out b1
  clear b1 HBb D_wb R_wb
  cases hok : diskOkD fs
  · have HE := hide (acts_wrong hok qs)
    go_wp2_with fail
    refine (ownDisk_any fs ao cap _ hl (filesAt_keep HF.out HB1.out) HS.out).mono ?_
    rintro e w2 ⟨v2, rfl, hrow, b2⟩
    obtain ⟨a2, c2, rfl, _⟩ := rowF_at hrow
    have hR := blk_below R_w1.out b2
    have cR := box_of hR
    have zR := frozen_of_row w2 (w.heap.size + 1) 0 _ _ hR
    have HROW := hide hrow
    have HB2 : Hid (Below w.heap.size w w2) := HB1.out.trans (b2.mono HB1.out.size)
    clear hrow b2 hR
    go_wp2_with fail
    refine bodyPost_ret (v := .tuple #[.agg #[.slice a2 fs.length c2], .int .i64 0]) (by simp [results, Tryz.results87, go_sem, cR]) rfl ⟨.slice a2 fs.length c2, by rw [HE.out]; rfl, ?_, HB2.out.setCell (p := ⟨w.heap.size + 1, 0, none⟩) (by show w.heap.size ≤ w.heap.size + 1; omega) _⟩
    rw [HE.out]
    exact rowF_le (rowF_grown HROW.out (grownBy_store (World.grownBy.refl _ _) 0 _) (fun g hg e => by have h1 := (rowF_lt HROW.out g hg).1; cases e; omega)) (by omega)
  · go_wp2_with fail
    refine (shelfOf_any fs ao cap _ hok (filesAt_keep HF.out HB1.out)).mono ?_
    rintro e w2 ⟨mb, rfl, hmb, hsh, b2⟩
    have HSH := hide hsh
    have hs2 : w1.heap.size ≤ w2.heap.size := b2.size
    have HB2 : Hid (Below w.heap.size w w2) := HB1.out.trans (b2.mono HB1.out.size)
    have R_w2 : Hid (w2.heap[w.heap.size + 1]? = some (.cells #[.slice none 0 0] 31 (0, 0))) := blk_below R_w1.out b2
    clear hsh b2 cD R_w1
    go_wp2_with fail
    go_loopg [7] qs.length (fun gg ii wr => ∃ (k : Nat) (G : List FileD), k + gg = qs.length ∧ ii = .int .i64 k ∧ k ≤ qs.length ∧ diskOkD G = true ∧ Hid (actsF fs qs = ((actsF G (qs.drop k)).1, k + (actsF G (qs.drop k)).2)) ∧ w1.heap.size ≤ wr.heap.size ∧ Hid (Below w.heap.size w wr) ∧ Hid (wr.heap[w.heap.size + 1]? = some (.cells #[.slice none 0 0] 31 (0, 0))) ∧ Hid (ShelfAt wr w1.heap.size mb G))
    case atStart => exact ⟨0, fs, by omega, rfl, Nat.zero_le _, hok, by show _ = _; rw [List.drop_zero, Nat.zero_add], hs2, HB2, R_w2, HSH⟩
    case round =>
      obtain ⟨k, G, hkg, rfl, hk, hGo, HK, hwr, HB, HR, HP⟩ := hrel
      by_cases hlt : k < qs.length
      · have hlt' : decide ((k : Int) < (qs.length : Int)) = true := by simp; omega
        obtain ⟨b, off, rfl, hbw, hc0, hc1, hc2, hc3⟩ := actsAt_keep HA.out HB.out k hlt
        have hsA := HSA.out qs[k] (List.getElem_mem hlt)
        obtain ⟨A, HAk⟩ : ∃ A, Hid (qs[k] = A) := ⟨qs[k], hide rfl⟩
        rw [HAk.out] at hc0 hc1 hc2 hc3 hsA
        obtain ⟨hA1, hA2, hA3⟩ := hsA
        have hi0 : (0 : Int) ≤ (k : Int) := by omega
        have hi1 : (k : Int) < (qs.length : Int) := by omega
        go_wp2_with fail
        refine (do_any G mb w1.heap.size A _ hGo HP.out hmb hwr hA1 hA2 hA3).mono ?_
        rintro e w3 ⟨rfl, hsh3, b3⟩
        have hs3 : wr.heap.size ≤ w3.heap.size := b3.size
        have HB3 : Hid (Below w.heap.size w w3) := HB.out.trans (b3.mono (by omega))
        have R_w3 : Hid (w3.heap[w.heap.size + 1]? = some (.cells #[.slice none 0 0] 31 (0, 0))) := blk_far HR.out b3 (by omega)
        have HS3 := hide hsh3
        clear hsh3 b3 hc0 hc1 hc2 hc3
        cases hact : actD G A with
        | none =>
          have hE : Hid (actsF fs qs = (G, k)) := by show _ = _; rw [HK.out, actsF_no hlt (by rw [HAk.out]; exact hact)]; rfl
          rw [hact] at HS3
          have hb : Option.isSome (none : Option (List FileD)) = false := rfl
          go_wp2_with fail
          refine (disk_any G mb w1.heap.size _ hGo HS3.out).mono ?_
          rintro e w4 ⟨v4, rfl, hrow, b4⟩
          obtain ⟨a4, c4, rfl, _⟩ := rowF_at hrow
          have hR := blk_below R_w3.out b4
          have cR := box_of hR
          have zR := frozen_of_row w4 (w.heap.size + 1) 0 _ _ hR
          have HROW := hide hrow
          have HB4 : Hid (Below w.heap.size w w4) := HB3.out.trans (b4.mono HB3.out.size)
          clear hrow b4 hR
          go_wp2_with fail
          refine bodyPost_ret (v := .tuple #[.agg #[.slice a4 G.length c4], .int .i64 (k : Int)]) (by simp [results, Tryz.results87, go_sem, cR]) rfl ⟨.slice a4 G.length c4, by rw [hE.out], ?_, HB4.out.setCell (p := ⟨w.heap.size + 1, 0, none⟩) (by show w.heap.size ≤ w.heap.size + 1; omega) _⟩
          rw [hE.out]
          exact rowF_le (rowF_grown HROW.out (grownBy_store (World.grownBy.refl _ _) 0 _) (fun g hg e => by have h1 := (rowF_lt HROW.out g hg).1; cases e; omega)) (by omega)
        | some g =>
          have hE : Hid (actsF fs qs = ((actsF g (qs.drop (k + 1))).1, k + 1 + (actsF g (qs.drop (k + 1))).2)) := by show _ = _; rw [HK.out, actsF_yes hlt (by rw [HAk.out]; exact hact)]; simp only [Prod.mk.injEq, true_and]; omega
          rw [hact] at HS3
          have hb : Option.isSome (some g) = true := rfl
          go_wp2_with fail
          go_roundg (gk - 1)
          case measure => omega
          case rel => exact ⟨k + 1, g, by omega, by go_num, by omega, actD_ok hact, hE, by omega, HB3, R_w3, HS3⟩
      · have hlt' : decide ((k : Int) < (qs.length : Int)) = false := by simp; omega
        have hE : Hid (actsF fs qs = (G, k)) := by show _ = _; rw [HK.out, actsF_end (by omega)]; rfl
        go_wp2_with fail
        refine (disk_any G mb w1.heap.size _ hGo HP.out).mono ?_
        rintro e w4 ⟨v4, rfl, hrow, b4⟩
        obtain ⟨a4, c4, rfl, _⟩ := rowF_at hrow
        have hR := blk_below HR.out b4
        have cR := box_of hR
        have zR := frozen_of_row w4 (w.heap.size + 1) 0 _ _ hR
        have HROW := hide hrow
        have HB4 : Hid (Below w.heap.size w w4) := HB.out.trans (b4.mono HB.out.size)
        clear hrow b4 hR
        go_wp2_with fail
        refine bodyPost_ret (v := .tuple #[.agg #[.slice a4 G.length c4], .int .i64 (k : Int)]) (by simp [results, Tryz.results87, go_sem, cR]) rfl ⟨.slice a4 G.length c4, by rw [hE.out], ?_, HB4.out.setCell (p := ⟨w.heap.size + 1, 0, none⟩) (by show w.heap.size ≤ w.heap.size + 1; omega) _⟩
        rw [hE.out]
        exact rowF_le (rowF_grown HROW.out (grownBy_store (World.grownBy.refl _ _) 0 _) (fun g hg e => by have h1 := (rowF_lt HROW.out g hg).1; cases e; omega)) (by omega)
end Go.Proofs.YtlcfblodflgleaaGreatDoor
