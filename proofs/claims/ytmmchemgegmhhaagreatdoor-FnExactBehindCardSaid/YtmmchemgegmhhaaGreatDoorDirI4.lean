/- The program's directory: a batch is told to it. -/
import Derived.Test.YtmmchemgegmhhaaGreatDoorDirM
namespace Go.Proofs.YtmmchemgegmhhaaGreatDoor
open Go.RowKit Go.Maps

theorem Tryz.keyT (s : ByteArray) (h : s.size ≤ maxLen) : keyOf Tryz.prog 9 (.string s) = some (kl s) := WideMaps.keyOf_string_mk Tryz.underlying9 h

theorem cells_grown {W w' : World} {mb b o : Nat} {v : Value} (hg : W.grownBy w' (some mb)) (h : W.cell? ⟨b, o, none⟩ = some v) (hb : b ≠ mb) : w'.cell? ⟨b, o, none⟩ = some v := by
  have hb2 := hg.block b (World.block_lt_of_cell? _ _ h) (by simpa using hb)
  have hc : w'.cell? ⟨b, o, none⟩ = W.cell? ⟨b, o, none⟩ := by unfold World.cell?; rw [hb2]
  exact hc.trans h
theorem changesAt_grown {w w' : World} {ao : Option Addr} {fs : List ChangeD} {mb : Nat} (h : ChangesAt w ao fs) (hg : w.grownBy w' (some mb)) (hne : ∀ b off, ao = some ⟨b, off, none⟩ → b ≠ mb) : ChangesAt w' ao fs := by
  intro j hj
  obtain ⟨b, off, h1, h2, h3, h4, h5⟩ := h j hj
  have hb := hg.block b h2 (by have := hne b off h1; simpa using this)
  have hc : ∀ o, w'.cell? ⟨b, o, none⟩ = w.cell? ⟨b, o, none⟩ := fun o => by unfold World.cell?; rw [hb]
  exact ⟨b, off, h1, Nat.lt_of_lt_of_le h2 hg.size, (hc _).trans h3, (hc _).trans h4, (hc _).trans h5⟩

set_option maxRecDepth 100000 in
set_option maxHeartbeats 1600000 in
theorem tell_any (gs : List SpotD) (mb n : Nat) (q seg pos : Int) (cs : List ChangeD) (ao : Option Addr) (cap : Nat) (w : World) (hm : DirM w mb n gs) (hn : n + cs.length ≤ 1000000) (hl : cs.length ≤ 1048576) (hcs : ChangesAt w ao cs) (hmc : 0 < cs.length → ∀ b off, ao = some ⟨b, off, none⟩ → b ≠ mb) (hsz : ∀ A ∈ cs, A.key.size ≤ 1048576) :
    Calls Tryz.prog 173 #[.map (some mb), .agg #[.int .i64 q, .slice ao cs.length cap], .int .i64 seg, .int .i64 pos] w fun e w' => e = .returned (.tuple #[]) ∧ DirM w' mb (n + cs.length) (chsIn seg pos q gs cs) ∧ w.grownBy w' (some mb) := by
  obtain ⟨wb, hwb⟩ : ∃ wb, wb = w.alloc (.cells #[.int .i64 q, .slice ao cs.length cap] 96) := ⟨_, rfl⟩
  have HB0 : Hid (Below w.heap.size w wb) := by rw [hwb]; exact (Below.refl _ w).alloc (Nat.le_refl _) _
  have HBX : Hid (wb.heap[w.heap.size]? = some (.cells #[.int .i64 q, .slice ao cs.length cap] 96 (0, 0))) := by rw [hwb]; exact heap_alloc_new w _
  have HM0 := hide (dirM_below hm HB0.out)
  have HC0 := hide (changesAt_keep hcs HB0.out)
  have hmlt := dirM_lt hm
  have HS := hide hsz
  have HMC := hide hmc
  clear hm hcs hsz hmc
  go_enter Tryz.func173, Tryz.ntmps173
  go_wp2_with fail
  rw [← hwb]
  clear hwb
  go_loopw [13] (fun ii wr => ∃ (k : Nat), ii = .int .i64 k ∧ k ≤ cs.length ∧ Hid (DirM wr mb (n + k) (chsIn seg pos q gs (cs.take k))) ∧ Hid (wb.grownBy wr (some mb))) (fun ii _ => cs.length - (intOf ii).toNat)
  case atStart => exact ⟨0, rfl, Nat.zero_le _, HM0, World.grownBy.refl _ _⟩
  case round =>
    obtain ⟨k, rfl, hk, HM, HG⟩ := hrel
    have hws := HG.out.size
    by_cases hlt : k < cs.length
    · have hlt' : decide ((k : Int) < (cs.length : Int)) = true := by simp; omega
      have hi0 : (0 : Int) ≤ (k : Int) := by omega
      have hi1 : (k : Int) < (cs.length : Int) := by omega
      obtain ⟨b, off, hab, hbw, hd0, hd1, hd2⟩ := changesAt_grown HC0.out HG.out (HMC.out (by omega)) k hlt
      subst hab
      have htk := hide (List.take_succ_eq_append_getElem hlt)
      have hks := HS.out cs[k] (List.getElem_mem hlt)
      generalize cs[k] = A at hd0 hd1 hd2 htk hks
      have HK := hide (Tryz.keyT A.key (by unfold maxLen; omega))
      obtain ⟨wr1, hwr1⟩ : ∃ x, x = wr.alloc (.cells #[.string A.key, .string A.value, .bool A.gone] 144) := ⟨_, rfl⟩
      have B1r : Hid (Below wr.heap.size wr wr1) := by rw [hwr1]; exact (Below.refl _ wr).alloc (Nat.le_refl _) _
      have hch1 : wr1.heap[wr.heap.size]? = some (.cells #[.string A.key, .string A.value, .bool A.gone] 144 (0, 0)) := by rw [hwr1]; exact heap_alloc_new wr _
      have hbx1 := (B1r.out.block w.heap.size (by have := heap_lt HBX.out; omega)).trans ((HG.out.block _ (heap_lt HBX.out) (by simp; omega)).trans HBX.out)
      have hf0 : wr1.cell? ⟨wr.heap.size, 0, none⟩ = some (.string A.key) := (cell_of_row wr1 _ 0 _ _ (0, 0) hch1).trans rfl
      have hf2 : wr1.cell? ⟨wr.heap.size, 2, none⟩ = some (.bool A.gone) := (cell_of_row wr1 _ 2 _ _ (0, 0) hch1).trans rfl
      have hf3 : wr1.cell? ⟨w.heap.size, 0, none⟩ = some (.int .i64 q) := (cell_of_row wr1 _ 0 _ _ (0, 0) hbx1).trans rfl
      have HM1 := hide (dirM_below HM.out B1r.out)
      have G1 : Hid (wb.grownBy wr1 (some mb)) := grownBy_trans HG.out (grownBy_below _ B1r.out)
      clear hch1 hbx1
      obtain ⟨D, hD1, hD2, hD3, hD4⟩ := HM1.out
      have H1 := hide hD1
      have H2 := hide hD2
      have H3 := hide hD3
      have H4 := hide hD4
      clear hD1 hD2 hD3 hD4
      cases hgo : A.gone with
      | true =>
        rw [hgo] at hf2 hwr1 hd2
        subst hwr1
        go_wp2_with (at_delete; refine wpList_delete_own _ rfl _ _ 231 9 rfl 89 (string_keyed Tryz.underlying9) Tryz.underlying231 spotElem mb (n + k) D rfl H1.out _ _ rfl HK.out ?_; intro w5 hown5 hturn5; have HN5 := hide (dirM_del ⟨A.key, seg, pos, q⟩ H2.out H3.out H4.out hown5); have HG5 := hide hturn5.grown; clear hown5 hturn5)
        go_roundw
        case rel => exact ⟨k + 1, by go_num, by omega, by show DirM _ _ _ _; rw [htk.out, chsIn_snoc, hgo]; exact dirM_mono HN5.out (by omega), grownBy_trans G1.out HG5.out⟩
        case measure => simp [intOf]; omega
      | false =>
        rw [hgo] at hf2 hwr1 hd2
        subst hwr1
        go_wp2_with (at_mapUpdate; refine wpList_mapUpdate_own _ rfl _ _ _ 231 rfl 9 89 (string_keyed Tryz.underlying9) Tryz.underlying231 spotElem mb (n + k) D rfl H1.out (by unfold maxLen; omega) _ _ _ rfl rfl HK.out (spotDat ⟨A.key, seg, pos, q⟩) [] rfl ?_; intro w5 hown5 hgrow5; have HN5 := hide (dirM_put (F := ⟨A.key, seg, pos, q⟩) H1.out.isMap H2.out H3.out H4.out hown5); have HG5 := hide hgrow5; clear hown5 hgrow5)
        go_roundw
        case rel => exact ⟨k + 1, by go_num, by omega, by show DirM _ _ _ _; rw [htk.out, chsIn_snoc, hgo]; exact HN5.out, grownBy_trans G1.out HG5.out⟩
        case measure => simp [intOf]; omega
    · have hlt' : decide ((k : Int) < (cs.length : Int)) = false := by simp; omega
      have hke : k = cs.length := by omega
      subst hke
      rw [List.take_length] at HM
      go_wp2
      refine bodyPost_end (results_none rfl _ _ _) rfl ?_
      exact ⟨rfl, HM.out, grownBy_trans (grownBy_below _ HB0.out) HG.out⟩
end Go.Proofs.YtmmchemgegmhhaaGreatDoor
