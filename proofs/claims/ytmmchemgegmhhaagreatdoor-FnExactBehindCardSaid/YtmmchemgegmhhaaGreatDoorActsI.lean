/- The program's ownDisk and DoActs. -/
import Derived.Test.YtmmchemgegmhhaaGreatDoorShelfT
import Derived.Test.YtmmchemgegmhhaaGreatDoorActsS0
namespace Go.Proofs.YtmmchemgegmhhaaGreatDoor
open Go.RowKit Go.Maps

set_option maxRecDepth 100000 in
set_option maxHeartbeats 8000000 in
theorem ownDisk_any (fs : List FileD) (ao : Option Addr) (cap : Nat) (w : World) (hl : fs.length ≤ 1048576) (hfs : FilesAt w ao fs) (hsz : ∀ F ∈ fs, F.name.size ≤ 1048576 ∧ F.text.size ≤ 1048576) :
    Calls Tryz.prog 159 #[.agg #[.slice ao fs.length cap]] w fun e w' => ∃ v, e = .returned (.agg #[v]) ∧ RowF w' w.heap.size v fs ∧ Below w.heap.size w w' := by
  have HF := hide hfs
  have HS := hide hsz
  clear hfs hsz
  obtain ⟨w1, hw1⟩ : ∃ w1, w1 = ((w.alloc (.cells #[.slice ao fs.length cap] 27)).alloc (.cells #[.slice none 0 0] 27)).alloc (.cells #[.slice none 0 0] 27) := ⟨_, rfl⟩
  have hbs : w.heap.size + 1 + 1 + 1 ≤ w1.heap.size := by rw [hw1]; simp
  have HB1 : Hid (Below w.heap.size w w1) := by rw [hw1]; exact (((Below.refl _ w).alloc (Nat.le_refl _) _).alloc (by simp) _).alloc (by simp; omega) _
  have R_w1 : Hid (w1.heap[w.heap.size + 1]? = some (.cells #[.slice none 0 0] 27 (0, 0))) := by
    rw [hw1]
    refine blk_below ?_ ((Below.refl _ _).alloc (Nat.le_refl _) _)
    rw [show w.heap.size + 1 = (w.alloc (.cells #[.slice ao fs.length cap] 27)).heap.size from by simp]
    exact heap_alloc_new _ _
  obtain ⟨o, ho⟩ : ∃ o, o = w.heap.size + 1 + 1 := ⟨_, rfl⟩
  have O_w1 : Hid (w1.heap[o]? = some (.cells #[.slice none 0 0] 27 (0, 0))) := by
    rw [hw1, ho, show w.heap.size + 1 + 1 = ((w.alloc (.cells #[.slice ao fs.length cap] 27)).alloc (.cells #[.slice none 0 0] 27)).heap.size from by simp]
    exact heap_alloc_new _ _
  have hcd : (((w.alloc (.cells #[.slice ao fs.length cap] 27)).alloc (.cells #[.slice none 0 0] 27)).alloc (.cells #[.slice none 0 0] 27)).cell? ⟨w.heap.size, 0, none⟩ = some (.slice ao fs.length cap) := box_of (blk_below (blk_below (heap_alloc_new w _) ((Below.refl _ _).alloc (Nat.le_refl _) _)) ((Below.refl _ _).alloc (Nat.le_refl _) _))
  have hno : w.heap.size + 1 < o := by omega
  have how : o < w1.heap.size := by omega
  go_enter Tryz.func159, Tryz.ntmps159
  go_wp2_with fail
  rw [← hw1, ← ho]
  clear hw1 ho hcd
  go_loopg [9] fs.length (fun gg ii wr => ∃ (k : Nat) (v : Value), k + gg = fs.length ∧ ii = .int .i64 k ∧ k ≤ fs.length ∧ Hid (w1.grownBy wr (some o)) ∧ Hid (wr.heap[o]? = some (.cells #[v] 27 (0, 0))) ∧ Hid (wr.ownsRow w1.heap.size 74 3 v k (cellsF (fs.take k))))
  case atStart => exact ⟨0, .slice none 0 0, by omega, rfl, Nat.zero_le _, World.grownBy.refl _ _, O_w1, ⟨rfl, .inl ⟨rfl, rfl⟩⟩⟩
  case round =>
    obtain ⟨k, v, hkg, rfl, hk, HG, HV, HO⟩ := hrel
    have HB : Hid (Below w.heap.size w wr) := HB1.out.grown HG.out (by omega) (fun j hj => by cases hj; omega)
    have hws : w1.heap.size ≤ wr.heap.size := HG.out.size
    have hout : wr.cell? ⟨o, 0, none⟩ = some v := box_of HV.out
    have hfo := frozen_of_row wr o 0 _ _ HV.out
    by_cases hlt : k < fs.length
    · have hlt' : decide ((k : Int) < (fs.length : Int)) = true := by simp; omega
      obtain ⟨b, off, rfl, hbw, hc0, hc1, hc2⟩ := filesAt_keep HF.out HB.out k hlt
      obtain ⟨hF1, hF2⟩ := HS.out fs[k] (List.getElem_mem hlt)
      have hT := List.take_add_one (l := fs) (i := k)
      rw [List.getElem?_eq_getElem hlt] at hT
      obtain ⟨F, HFk⟩ : ∃ F, Hid (fs[k] = F) := ⟨fs[k], hide rfl⟩
      rw [HFk.out] at hc0 hc1 hc2 hF1 hF2 hT
      have HT : Hid (fs.take (k + 1) = fs.take k ++ [F]) := hT
      have HL : Hid ((fs.take k).length = k) := by show _ = _; rw [List.length_take]; omega
      have hi0 : (0 : Int) ≤ (k : Int) := by omega
      have hi1 : (k : Int) < (fs.length : Int) := by omega
      obtain ⟨wf, hwf⟩ : ∃ wf, wf = wr.alloc (.cells #[.string F.name, .string F.text, .int .i64 F.kept] 74) := ⟨_, rfl⟩
      have Bf : Hid (Below wr.heap.size wr wf) := by rw [hwf]; exact (Below.refl _ _).alloc (Nat.le_refl _) _
      have hfs0 : wr.heap.size ≤ wf.heap.size := Bf.out.size
      have hpf : wf.heap[wr.heap.size]? = some (.cells #[.string F.name, .string F.text, .int .i64 F.kept] 74 (0, 0)) := by rw [hwf]; exact heap_alloc_new _ _
      obtain ⟨cf0, cf1, cf2⟩ := file_cell hpf
      have HVf : Hid (wf.heap[o]? = some (.cells #[v] 27 (0, 0))) := blk_below HV.out Bf.out
      have houtf : wf.cell? ⟨o, 0, none⟩ = some v := box_of HVf.out
      have HOf : Hid (wf.ownsRow w1.heap.size 74 3 v k (cellsF (fs.take k))) := ownsRow_below HO.out Bf.out
      clear hT hpf
      go_upto_region 5 with fail
      rw [← hwf]
      clear hwf hc0 hc1 hc2 hout hfo
      go_region_law ((first | (refine step_app_file _ w1.heap.size (by rfl) _ _ (by rfl) _ (fs.take k) F (by rfl) (by rw [HL.out]; exact HO4.out.alloc _) w4.heap.size (by simp [Act.eval]) (heap_alloc_new w4 _) (by rw [HL.out]; omega) (Nat.le_trans (Nat.le_trans (Nat.le_trans hws hfs0) hs4) (size_alloc_drew _ _)) ?_; rw [HL.out]; intro g3 cap3 w3 hown3 hb3 hg3 hgl3; have hn0 : w3.heap[o]? = some (.cells #[v] 27 (0, 0)) := (hb3.block o how).trans ((((Below.refl _ w4).alloc (Nat.le_refl _) _).block o hof4).trans HV4.out); have hn1 : w3.cell? ⟨o, 0, none⟩ = some v := (cell_of_row w3 o 0 _ _ (0, 0) hn0).trans rfl; have hn2 : w3.frozen? ⟨o, 0, none⟩ = false := frozen_of_row w3 o 0 _ _ hn0; have HN0 := hide hn0; clear hn0) | (go_simp; go_at_call 163; refine (ownFile_any F _ hF1 hF2).mono ?_; rintro e w4 ⟨rfl, b4⟩; have B4 : Hid (Below wf.heap.size wf w4) := (Below.refl _ wf).drew.trans b4; have hs4 : wf.heap.size ≤ w4.heap.size := B4.out.size; have hof4 : o < w4.heap.size := Nat.lt_of_lt_of_le how (Nat.le_trans (Nat.le_trans hws hfs0) hs4); have HV4 : Hid (w4.heap[o]? = some (.cells #[v] 27 (0, 0))) := blk_below HVf.out B4.out; have hall0 : w4.cell? ⟨o, 0, none⟩ = some v := box_of HV4.out; have hall : (w4.alloc (.cells #[.string F.name, .string F.text, .int .i64 F.kept] 74)).cell? ⟨o, 0, none⟩ = some v := (((Below.refl _ w4).alloc (Nat.le_refl _) _).cell (p := ⟨o, 0, none⟩) hof4).trans hall0; have HO4 : Hid (w4.ownsRow w1.heap.size 74 3 v k (cellsF (fs.take k))) := ownsRow_below HOf.out B4.out; clear b4)))
      all_goals
        go_wp2_with fail
        go_roundg (gk - 1)
        case measure => omega
        case rel =>
          have hbw : Below w1.heap.size wr w3 := (((Bf.out.mono hws).trans (B4.out.mono (Nat.le_trans hws hfs0))).trans ((Below.refl _ w4).alloc (by omega) _)).trans hb3
          refine ⟨k + 1, _, by omega, by go_num, by omega, grownBy_store (grownBy_step' HG.out hbw) 0 _, (heap_setCell_same _ o _ _ _ _ HN0.out).trans rfl, ?_⟩
          have hle : (fs.take k ++ [F]).length = k + 1 := by rw [List.length_append, HL.out]; rfl
          rw [hle] at hown3
          show _
          rw [HT.out]
          exact hown3.kept (grownBy_store (World.grownBy.refl _ _) 0 _) (.inr (by simp [Value.ownBlock]; omega))
    · have hlt' : decide ((k : Int) < (fs.length : Int)) = false := by simp; omega
      have hke : k = fs.length := by omega
      have hR : wr.heap[w.heap.size + 1]? = some (.cells #[.slice none 0 0] 27 (0, 0)) := (HG.out.block (w.heap.size + 1) (by omega) (by simp; omega)).trans R_w1.out
      have hr0 : wr.cell? ⟨w.heap.size + 1, 0, none⟩ = some (.slice none 0 0) := box_of hR
      have hr1 := frozen_of_row wr (w.heap.size + 1) 0 _ _ hR
      have HKE := hide hke
      clear hR hke
      obtain ⟨av, cv, rfl⟩ := slice_form HO.out
      go_wp2_with fail
      refine bodyPost_ret (v := .agg #[.slice av k cv]) (by simp [results, Tryz.results159, go_sem, hr0]) rfl ⟨.slice av k cv, rfl, ?_, HB.out.setCell (p := ⟨w.heap.size + 1, 0, none⟩) (by show w.heap.size ≤ w.heap.size + 1; omega) _⟩
      have hrow : RowF wr w1.heap.size (.slice av k cv) fs := by
        have h := HO.out
        have e : fs.take k = fs := List.take_of_length_le (by rw [HKE.out]; exact Nat.le_refl _)
        rw [e] at h
        refine rowF_own ?_
        rw [← HKE.out]
        exact h
      exact rowF_le (rowF_grown hrow (grownBy_store (World.grownBy.refl _ _) 0 _) (fun g hg e => by have h1 := (rowF_lt hrow g hg).1; cases e; omega)) (by omega)
end Go.Proofs.YtmmchemgegmhhaaGreatDoor
