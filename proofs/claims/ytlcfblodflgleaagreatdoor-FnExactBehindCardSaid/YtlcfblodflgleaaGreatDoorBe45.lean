import Derived.Test.YtlcfblodflgleaaGreatDoorBe44
import Derived.Test.YtlcfblodflgleaaGreatDoorBe2
import Derived.Test.YtlcfblodflgleaaGreatDoorBe39
import Derived.Test.YtlcfblodflgleaaGreatDoorBe6
import Derived.Test.YtlcfblodflgleaaGreatDoorBe40
import Derived.Test.YtlcfblodflgleaaGreatDoorBe3
set_option maxRecDepth 100000
set_option maxHeartbeats 4000000
namespace Go.Proofs.YtlcfblodflgleaaGreatDoor
open Go.RowKit
theorem lose_no (fs : List FileD) (ao : Option Addr) (cap : Nat) (lv : Value) (w : World) (hl : fs.length ≤ 1048576) (hfs : FilesAt w ao fs) (hsz : ∀ F ∈ fs, F.name.size ≤ 1048576 ∧ F.text.size ≤ 1048576) (hno : diskOkD fs = false) :
    Calls Tryz.prog 88 #[.agg #[.slice ao fs.length cap], lv] w fun e w' => e = .returned (.tuple #[.agg #[.slice none 0 0], .bool false]) ∧ Below w.heap.size w w' := by
  have HF := hide hfs
  have HS := hide hsz
  clear hfs hsz
  have HB0 : Hid (Below w.heap.size w ((w.alloc (.cells #[.slice ao fs.length cap] 31)).alloc (.cells #[.slice none 0 0] 31))) := ((Below.refl _ w).alloc (Nat.le_refl _) _).alloc (by simp) _
  go_enter Tryz.func88, Tryz.ntmps88
  go_wp2_with fail
  refine (diskOk_any fs ao cap _ hl (filesAt_keep HF.out HB0.out) (fun F h => ⟨small_max (HS.out F h).1, small_max (HS.out F h).2⟩)).mono ?_
  rintro e w1 ⟨rfl, b1⟩
  rw [hno]
  have hr : w1.heap[w.heap.size + 1]? = some (.cells #[.slice none 0 0] 31 (0, 0)) := (b1.block _ (by simp)).trans (by rw [show w.heap.size + 1 = (w.alloc (.cells #[.slice ao fs.length cap] 31)).heap.size from by simp]; exact heap_alloc_new _ _)
  have hq0 : w1.cell? ⟨w.heap.size + 1, 0, none⟩ = some (.slice none 0 0) := (cell_of_row w1 (w.heap.size + 1) 0 _ _ (0, 0) hr).trans rfl
  have hf0 := frozen_of_row w1 (w.heap.size + 1) 0 _ _ hr
  have HB1 := hide (HB0.out.trans (b1.mono HB0.out.size))
  clear b1 hr
  go_wp2
  refine bodyPost_ret (v := .tuple #[.agg #[.slice none 0 0], .bool false]) (by simp [results, Tryz.results88, go_sem, hq0]) rfl ⟨rfl, ?_⟩
  exact HB1.out.setCell (p := ⟨w.heap.size + 1, 0, none⟩) (by simp) _
theorem lose_yes (fs : List FileD) (ao : Option Addr) (cap : Nat) (ls : List Int) (al : Option Addr) (capl : Nat) (w : World) (hfs : FilesAt w ao fs) (hls : IntsAt w al ls) (hok : diskOkD fs = true) :
    Calls Tryz.prog 88 #[.agg #[.slice ao fs.length cap], .slice al ls.length capl] w fun e w' => ∃ v, e = .returned (.tuple #[.agg #[v], .bool true]) ∧ RowF w' w.heap.size v (lostD fs ls) ∧ Below w.heap.size w w' := by
  have HF := hide hfs
  have HLS := hide hls
  have HOK := hide (disk_files hok)
  have hl : fs.length ≤ 30 := (disk_files hok).1
  clear hfs hls
  have HB0 : Hid (Below w.heap.size w ((w.alloc (.cells #[.slice ao fs.length cap] 31)).alloc (.cells #[.slice none 0 0] 31))) := ((Below.refl _ w).alloc (Nat.le_refl _) _).alloc (by simp) _
  go_enter Tryz.func88, Tryz.ntmps88
  go_wp2_with fail
  refine (diskOk_any fs ao cap _ (by omega) (filesAt_keep HF.out HB0.out) (fun F h => ⟨small_max (by have := HOK.out.2 F h; omega), small_max (by have := HOK.out.2 F h; omega)⟩)).mono ?_
  rintro e w1 ⟨rfl, b1⟩
  rw [hok]
  have HR1 : Hid (w1.heap[w.heap.size + 1]? = some (.cells #[.slice none 0 0] 31 (0, 0))) := (b1.block _ (by simp)).trans (by rw [show w.heap.size + 1 = (w.alloc (.cells #[.slice ao fs.length cap] 31)).heap.size from by simp]; exact heap_alloc_new _ _)
  have HX1 : Hid (w1.cell? ⟨w.heap.size, 0, none⟩ = some (.slice ao fs.length cap)) := (b1.cell (p := ⟨w.heap.size, 0, none⟩) (by simp; omega)).trans (by rw [World.cell?_alloc_lt _ _ _ (by simp)]; exact (cell_of_row _ _ _ _ _ (0, 0) (heap_alloc_new w _)).trans rfl)
  have hs1 : w.heap.size + 1 < w1.heap.size := by have := b1.size; simp at this; omega
  have HB1 := hide (HB0.out.trans (b1.mono HB0.out.size))
  clear b1
  obtain ⟨o, ho⟩ : ∃ o, o = w1.heap.size := ⟨_, rfl⟩
  obtain ⟨wb, hwb⟩ : ∃ wb, wb = w1.alloc (.cells #[.slice none 0 0] 31) := ⟨_, rfl⟩
  have HBb : Hid (Below w.heap.size w wb) := by rw [hwb]; exact HB1.out.alloc (by omega) _
  have hbs : wb.heap.size = o + 1 := by rw [hwb, ho]; simp
  have HOb : Hid (wb.heap[o]? = some (.cells #[.slice none 0 0] 31 (0, 0))) := by rw [hwb, ho]; exact heap_alloc_new _ _
  have HXb : Hid (wb.cell? ⟨w.heap.size, 0, none⟩ = some (.slice ao fs.length cap)) := by rw [hwb]; exact (((Below.refl _ w1).alloc (Nat.le_refl _) _).cell (p := ⟨w.heap.size, 0, none⟩) (by show w.heap.size < _; omega)).trans HX1.out
  have HRb : Hid (wb.heap[w.heap.size + 1]? = some (.cells #[.slice none 0 0] 31 (0, 0))) := by rw [hwb]; exact (((Below.refl _ w1).alloc (Nat.le_refl _) _).block _ (by omega)).trans HR1.out
  have hxb := HXb.out
  rw [hwb] at hxb
  go_wp2_with fail
  clear hxb
  rw [← hwb, ← ho]
  have hso : w.heap.size + 1 < o := by omega
  clear hwb ho HR1 HX1 HB1 hs1
  go_loopg [17] fs.length (fun gg ii wr => ∃ (k : Nat) (v : Value), k + gg = fs.length ∧ ii = .int .i64 k ∧ k ≤ fs.length ∧ Hid (wb.grownBy wr (some o)) ∧ Hid (wr.heap[o]? = some (.cells #[v] 31 (0, 0))) ∧ Hid (wr.ownsRow (o + 1) 109 3 v k (cellsF ((lostD fs ls).take k))))
  case atStart => exact ⟨0, .slice none 0 0, by omega, rfl, Nat.zero_le _, World.grownBy.refl _ _, HOb, ⟨rfl, .inl ⟨rfl, rfl⟩⟩⟩
  case round =>
    obtain ⟨k, v, hkg, rfl, hk, HG, HV, HO⟩ := hrel
    have HB : Hid (Below w.heap.size w wr) := HBb.out.grown HG.out (by omega) (fun j hj => by cases hj; omega)
    have hws : o < wr.heap.size := by have := HG.out.size; omega
    have hbox : wr.cell? ⟨w.heap.size, 0, none⟩ = some (.slice ao fs.length cap) := (HG.out.cell_far ⟨w.heap.size, 0, none⟩ (by show w.heap.size < _; omega) (by simp; omega)).trans HXb.out
    have hout : wr.cell? ⟨o, 0, none⟩ = some v := (cell_of_row wr o 0 _ _ (0, 0) HV.out).trans rfl
    have hfo := frozen_of_row wr o 0 _ _ HV.out
    by_cases hlt : k < fs.length
    · have hlt' : decide ((k : Int) < (fs.length : Int)) = true := by simp; omega
      obtain ⟨b, off, rfl, hbw, hc0, hc1, hc2⟩ := filesAt_keep HF.out HB.out k hlt
      obtain ⟨_, hnsz, hsz, hkp0, hkp1⟩ := HOK.out.2 fs[k] (List.getElem_mem hlt)
      obtain ⟨F, HFk⟩ : ∃ F, Hid (fs[k] = F) := ⟨fs[k], hide rfl⟩
      rw [HFk.out] at hc0 hc1 hc2 hnsz hsz hkp0 hkp1
      have hi0 : (0 : Int) ≤ (k : Int) := by omega
      have hi1 : (k : Int) < (fs.length : Int) := by omega
      have HL := hide (lostD_takeLen fs ls k hk)
      obtain ⟨x, hx⟩ : ∃ x, x = ls.getD k 0 := ⟨_, rfl⟩
      have HX : Hid (ls.getD k 0 = x) := hx.symm
      obtain ⟨W1, hW1⟩ : ∃ W1, W1 = wr.alloc (.cells #[.string F.name, .string F.text, .int .i64 F.kept] 109) := ⟨_, rfl⟩
      have HB1 : Hid (Below wr.heap.size wr W1) := by rw [hW1]; exact (Below.refl _ wr).alloc (Nat.le_refl _) _
      have HW1 : Hid (W1.heap[wr.heap.size]? = some (.cells #[.string F.name, .string F.text, .int .i64 F.kept] 109 (0, 0))) := by rw [hW1]; exact heap_alloc_new _ _
      have hW1s : W1.heap.size = wr.heap.size + 1 := by rw [hW1]; simp
      have HO1 : Hid (W1.ownsRow (o + 1) 109 3 v k (cellsF ((lostD fs ls).take k))) := by rw [hW1]; exact HO.out.alloc _
      have hV1 : W1.heap[o]? = some (.cells #[v] 31 (0, 0)) := (HB1.out.block _ hws).trans HV.out
      have hout1 : W1.cell? ⟨o, 0, none⟩ = some v := (cell_of_row W1 o 0 _ _ (0, 0) hV1).trans rfl
      have hg0 : W1.cell? ⟨wr.heap.size, 0, none⟩ = some (.string F.name) := (cell_of_row W1 wr.heap.size 0 _ _ (0, 0) HW1.out).trans rfl
      have hg1 : W1.cell? ⟨wr.heap.size, 1, none⟩ = some (.string F.text) := (cell_of_row W1 wr.heap.size 1 _ _ (0, 0) HW1.out).trans rfl
      have hg2 : W1.cell? ⟨wr.heap.size, 2, none⟩ = some (.int .i64 F.kept) := (cell_of_row W1 wr.heap.size 2 _ _ (0, 0) HW1.out).trans rfl
      have HV1 := hide hV1
      clear hV1
      obtain ⟨fv, hfv⟩ : ∃ fv, fv = wr.heap.size := ⟨_, rfl⟩
      go_upto_if 27 with fail
      rw [← hW1]
      rw [← hfv] at hg0 hg1 hg2 HW1 hW1s ⊢
      have HFV := hide hfv
      clear hfv hW1 hc0 hc1 hc2 hbox hout hfo
      obtain ⟨y, HY⟩ : ∃ y : Int, Hid (y = if k < ls.length then max F.kept x else F.kept) := ⟨_, hide rfl⟩
      go_cut [9] from 18 to 53 (fun nn wx => nn = .int .i64 y ∧ wx = W1)
      case first =>
        by_cases htold : k < ls.length
        · have htold' : decide ((k : Int) < (ls.length : Int)) = true := by simp; omega
          obtain ⟨bl, offl, rfl, hblw, hcl, hx0, hx1⟩ := intsAt_keep HLS.out (HB.out.trans (HB1.out.mono HB.out.size)) k htold
          have hxe : x = ls[k] := by rw [hx]; simp [List.getD, htold]
          rw [← hxe] at hcl
          have hi2 : (k : Int) < (ls.length : Int) := by omega
          clear hxe hx hx0 hx1
          go_wp2
          go_meet
          exact ⟨by rw [HY.out, if_pos (by omega)], rfl⟩
        · have htold' : decide ((k : Int) < (ls.length : Int)) = false := by simp; omega
          clear hx
          go_wp2
          go_meet
          exact ⟨by rw [HY.out, if_neg (by omega)], rfl⟩
      case rest =>
        obtain ⟨rfl, rfl⟩ := hcut
        have HZ : Hid (staysI F x = min y (F.text.size : Int)) := by
          show _ = _
          rw [HY.out, staysI]
          by_cases htold : k < ls.length
          · rw [if_pos htold]
            repeat' split
            all_goals omega
          · have hx0 : x = 0 := by rw [hx]; simp [List.getD, List.getElem?_eq_none (show ls.length ≤ k by omega)]
            rw [if_neg htold, hx0]
            repeat' split
            all_goals omega
        clear hx HY
        have hzb := stays_bd x hkp0 hkp1
        obtain ⟨z, hz⟩ : ∃ z : Int, z = min y (F.text.size : Int) := ⟨_, rfl⟩
        rw [HZ.out, ← hz] at hzb
        obtain ⟨hz0, hz1, hz2⟩ := hzb
        obtain ⟨tx, htx⟩ : ∃ tx, tx = F.text.extract 0 z.toNat := ⟨_, rfl⟩
        have htxs : tx.size ≤ 1048576 := by rw [htx]; simp; omega
        have hnms : F.name.size ≤ 1048576 := by omega
        have hcut := cut_to F.text z (by omega) (by omega)
        rw [← htx] at hcut
        have HT : Hid ((lostD fs ls).take (k + 1) = (lostD fs ls).take k ++ [⟨F.name, tx, z⟩]) := by show _ = _; rw [lostD_take fs ls k hlt, HFk.out, HX.out, lostF, HZ.out, ← hz, htx]
        clear htx
        have hof : o < wc.heap.size := by have := HFV.out; omega
        go_upto_region 11 with fail
        rw [← hz]
        clear hz HZ
        go_region_law ((first | (refine step_app_file _ (o + 1) (by rfl) _ _ (by rfl) _ ((lostD fs ls).take k) ⟨F.name, tx, z⟩ (by rfl) (by rw [HL.out]; exact HO4.out.alloc _) w4.heap.size (by simp [Act.eval]) (heap_alloc_new w4 _) (by rw [HL.out]; omega) (by simp; omega) ?_; rw [HL.out]; intro g3 cap3 w3 hown3 hb3 hg3 hgl3; have hn0 : w3.heap[o]? = some (.cells #[v] 31 (0, 0)) := (hb3.block o (by omega)).trans ((((Below.refl _ w4).alloc (Nat.le_refl _) _).block o hof4).trans HV4.out); have hn1 : w3.cell? ⟨o, 0, none⟩ = some v := (cell_of_row w3 o 0 _ _ (0, 0) hn0).trans rfl; have hn2 : w3.frozen? ⟨o, 0, none⟩ = false := frozen_of_row w3 o 0 _ _ hn0; have HN0 := hide hn0; clear hn0) | (go_simp; go_at_call 120; refine (ownFile_any ⟨F.name, tx, z⟩ _ hnms htxs).mono ?_; rintro e w4 ⟨rfl, b4⟩; have B4 : Hid (Below wc.heap.size wc w4) := (Below.refl _ wc).drew.trans b4; have hof4 : o < w4.heap.size := Nat.lt_of_lt_of_le hof B4.out.size; have HV4 : Hid (w4.heap[o]? = some (.cells #[v] 31 (0, 0))) := (B4.out.block o hof).trans HV1.out; have hall0 : w4.cell? ⟨o, 0, none⟩ = some v := (cell_of_row w4 o 0 _ _ (0, 0) HV4.out).trans rfl; have hall : (w4.alloc (.cells #[.string F.name, .string tx, .int .i64 z] 109)).cell? ⟨o, 0, none⟩ = some v := (((Below.refl _ w4).alloc (Nat.le_refl _) _).cell (p := ⟨o, 0, none⟩) hof4).trans hall0; have HO4 : Hid (w4.ownsRow (o + 1) 109 3 v k (cellsF ((lostD fs ls).take k))) := ownsRow_below HO1.out B4.out; clear b4)))
        all_goals
          go_wp2_with fail
          go_roundg (gk - 1)
          case measure => omega
          case rel =>
            have hbw : Below (o + 1) wr w3 := ((HB1.out.mono (by omega)).trans ((B4.out.mono (by omega)).trans ((Below.refl _ w4).alloc (by omega) _))).trans hb3
            refine ⟨k + 1, _, by omega, by go_num, by omega, grownBy_store (grownBy_step HG.out hbw hbs) 0 _, (heap_setCell_same _ o _ _ _ _ HN0.out).trans rfl, ?_⟩
            have hle : ((lostD fs ls).take k ++ [(⟨F.name, tx, z⟩ : FileD)]).length = k + 1 := by rw [List.length_append, HL.out]; rfl
            rw [hle] at hown3
            rw [HT.out]
            exact hown3.kept (grownBy_store (World.grownBy.refl _ _) 0 _) (.inr (by simp [Value.ownBlock]; omega))
    · have hlt' : decide ((k : Int) < (fs.length : Int)) = false := by simp; omega
      have hke : k = fs.length := by omega
      have hR : wr.heap[w.heap.size + 1]? = some (.cells #[.slice none 0 0] 31 (0, 0)) := (HG.out.block (w.heap.size + 1) (by omega) (by simp; omega)).trans HRb.out
      have hr0 : wr.cell? ⟨w.heap.size + 1, 0, none⟩ = some (.slice none 0 0) := (cell_of_row wr (w.heap.size + 1) 0 _ _ (0, 0) hR).trans rfl
      have hr1 := frozen_of_row wr (w.heap.size + 1) 0 _ _ hR
      have HRR := hide hR
      have HKE := hide hke
      clear hR hke
      obtain ⟨av, cv, rfl⟩ := slice_form HO.out
      go_wp2_with fail
      refine bodyPost_ret (v := .tuple #[.agg #[.slice av k cv], .bool true]) (by simp [results, Tryz.results88, go_sem, hr0]) rfl ⟨.slice av k cv, rfl, ?_, HB.out.setCell (p := ⟨w.heap.size + 1, 0, none⟩) (by simp) _⟩
      have hrow : RowF wr (o + 1) (.slice av k cv) (lostD fs ls) := by
        have h := HO.out
        have e : (lostD fs ls).take k = lostD fs ls := List.take_of_length_le (by rw [lostD_length, HKE.out]; omega)
        rw [e] at h
        refine rowF_own ?_
        rw [lostD_length, ← HKE.out]
        exact h
      exact rowF_le (rowF_grown hrow (grownBy_store (World.grownBy.refl _ _) 0 _) (fun g hg => by have := (rowF_lt hrow g hg).1; simp; omega)) (by omega)
def loseR (fs : List FileD) (ls : List Int) : List FileD := if diskOkD fs = true then lostD fs ls else []
theorem specLose_all (fs : List FileD) (ao : Option Addr) (cap : Nat) (ls : List Int) (al : Option Addr) (capl : Nat) (w : World) (hl : fs.length ≤ 1048576) (hfs : FilesAt w ao fs) (hls : IntsAt w al ls) (hsz : ∀ F ∈ fs, F.name.size ≤ 1048576 ∧ F.text.size ≤ 1048576) :
    Calls Tryz.prog 86 #[.agg #[.slice ao fs.length cap], .slice al ls.length capl] w fun e w' => ∃ v, e = .returned (.tuple #[.agg #[v], .bool (diskOkD fs)]) ∧ RowF w' w.heap.size v (loseR fs ls) ∧ Below w.heap.size w w' := by
  cases hok : diskOkD fs
  · refine (specLose_no fs ao cap _ w hl hfs hsz hok).mono ?_
    rintro e w' ⟨rfl, b⟩
    exact ⟨_, rfl, .inl ⟨rfl, by rw [loseR, if_neg (by rw [hok]; decide)]⟩, b⟩
  · refine (specLose_yes fs ao cap ls al capl w hfs hls hok).mono ?_
    rintro e w' ⟨v, rfl, hr, b⟩
    exact ⟨v, rfl, by rw [loseR, if_pos hok]; exact hr, b⟩
theorem lose_all (fs : List FileD) (ao : Option Addr) (cap : Nat) (ls : List Int) (al : Option Addr) (capl : Nat) (w : World) (hl : fs.length ≤ 1048576) (hfs : FilesAt w ao fs) (hls : IntsAt w al ls) (hsz : ∀ F ∈ fs, F.name.size ≤ 1048576 ∧ F.text.size ≤ 1048576) :
    Calls Tryz.prog 88 #[.agg #[.slice ao fs.length cap], .slice al ls.length capl] w fun e w' => ∃ v, e = .returned (.tuple #[.agg #[v], .bool (diskOkD fs)]) ∧ RowF w' w.heap.size v (loseR fs ls) ∧ Below w.heap.size w w' := by
  cases hok : diskOkD fs
  · refine (lose_no fs ao cap _ w hl hfs hsz hok).mono ?_
    rintro e w' ⟨rfl, b⟩
    exact ⟨_, rfl, .inl ⟨rfl, by rw [loseR, if_neg (by rw [hok]; decide)]⟩, b⟩
  · refine (lose_yes fs ao cap ls al capl w hfs hls hok).mono ?_
    rintro e w' ⟨v, rfl, hr, b⟩
    exact ⟨v, rfl, by rw [loseR, if_pos hok]; exact hr, b⟩
def cutD (fs : List FileD) (qs : List ActD) (wh : Int) (ls : List Int) : Option (List FileD) :=
  if wh < 0 ∨ (qs.length : Int) < wh then none
  else if (actsF fs (qs.take wh.toNat)).2 < wh.toNat then none
  else if diskOkD (actsF fs (qs.take wh.toNat)).1 = true then some (lostD (actsF fs (qs.take wh.toNat)).1 ls) else none
theorem cutD_out {fs : List FileD} {qs : List ActD} {wh : Int} {ls : List Int} (h : wh < 0 ∨ (qs.length : Int) < wh) : cutD fs qs wh ls = none := by unfold cutD; rw [if_pos h]
theorem cutD_few {fs : List FileD} {qs Q : List ActD} {wh : Int} {ls : List Int} (hw : wh = (Q.length : Int)) (hl : Q.length ≤ qs.length) (hQ : qs.take Q.length = Q) (h : (actsF fs Q).2 < Q.length) : cutD fs qs wh ls = none := by
  subst hw
  unfold cutD; rw [if_neg (by omega), Int.toNat_natCast, hQ, if_pos h]
theorem cutD_all {fs : List FileD} {qs Q : List ActD} {wh : Int} {ls : List Int} (hw : wh = (Q.length : Int)) (hl : Q.length ≤ qs.length) (hQ : qs.take Q.length = Q) (h : ¬ (actsF fs Q).2 < Q.length) :
    (cutD fs qs wh ls).isSome = diskOkD (actsF fs Q).1 ∧ (cutD fs qs wh ls).getD [] = loseR (actsF fs Q).1 ls := by
  subst hw
  unfold cutD loseR; rw [if_neg (by omega), Int.toNat_natCast, hQ, if_neg h]
  cases diskOkD (actsF fs Q).1 <;> simp
theorem actsAt_take {w : World} {ao : Option Addr} {qs Q : List ActD} (h : ActsAt w ao qs) (hQ : qs.take Q.length = Q) (hl : Q.length ≤ qs.length) : ActsAt w ao Q := by
  intro j hj
  have e : Q[j] = qs[j] := by
    have h1 : (qs.take Q.length)[j]? = Q[j]? := by rw [hQ]
    rw [List.getElem?_take_of_lt hj, List.getElem?_eq_getElem hj, List.getElem?_eq_getElem (by omega)] at h1
    exact (Option.some.inj h1).symm
  rw [e]
  exact h j (by omega)
theorem cut_any (fs : List FileD) (ao : Option Addr) (cap : Nat) (qs : List ActD) (ba offa capa : Nat) (wh : Int) (ls : List Int) (al : Option Addr) (capl : Nat) (w : World) (hl : fs.length ≤ 1048576) (hfs : FilesAt w ao fs) (hsz : ∀ F ∈ fs, F.name.size ≤ 1048576 ∧ F.text.size ≤ 1048576)
    (hla : qs.length ≤ 1048576) (has : ActsAt w (some ⟨ba, offa, none⟩) qs) (hsa : ∀ A ∈ qs, A.name.size ≤ 1048576 ∧ A.text.size ≤ 1048576 ∧ A.toN.size ≤ 1048576) (hls : IntsAt w al ls) (hca : qs.length ≤ capa) :
    Calls Tryz.prog 44 #[.agg #[.slice ao fs.length cap], .slice (some ⟨ba, offa, none⟩) qs.length capa, .int .i64 wh, .slice al ls.length capl] w fun e w' => ∃ v, e = .returned (.tuple #[.agg #[v], .bool (cutD fs qs wh ls).isSome]) ∧ RowF w' w.heap.size v ((cutD fs qs wh ls).getD []) ∧ Below w.heap.size w w' := by
  have HF := hide hfs
  have HS := hide hsz
  have HA := hide has
  have HSA := hide hsa
  have HL := hide hls
  clear hfs hsz has hsa hls
  obtain ⟨w2, hw2⟩ : ∃ w2, w2 = (w.alloc (.cells #[.slice ao fs.length cap] 31)).alloc (.cells #[.slice none 0 0] 31) := ⟨_, rfl⟩
  have hs2 : w.heap.size + 1 < w2.heap.size := by rw [hw2]; simp
  have HB2 : Hid (Below w.heap.size w w2) := by rw [hw2]; exact ((Below.refl _ w).alloc (Nat.le_refl _) _).alloc (by simp) _
  have D2 : Hid (w2.heap[w.heap.size]? = some (.cells #[.slice ao fs.length cap] 31 (0, 0))) := by rw [hw2]; exact blk_below (heap_alloc_new w _) ((Below.refl _ _).alloc (Nat.le_refl _) _)
  have R2 : Hid (w2.heap[w.heap.size + 1]? = some (.cells #[.slice none 0 0] 31 (0, 0))) := by
    rw [hw2, show w.heap.size + 1 = (w.alloc (.cells #[.slice ao fs.length cap] 31)).heap.size from by simp]
    exact heap_alloc_new _ _
  have hR0 := box_of R2.out
  have hR1 := frozen_of_row w2 (w.heap.size + 1) 0 _ _ R2.out
  by_cases hout : wh < 0 ∨ (qs.length : Int) < wh
  · have hE := hide (cutD_out (fs := fs) (ls := ls) hout)
    have hd : (decide (wh < 0) = true) ∨ (decide (wh < 0) = false ∧ decide ((qs.length : Int) < wh) = true) := by
      by_cases h0 : wh < 0
      · left; simp; omega
      · right; constructor <;> simp <;> omega
    rcases hd with hd | ⟨hd, hd'⟩
    all_goals
      rw [hw2] at hR0 hR1
      go_enter Tryz.func44, Tryz.ntmps44
      go_wp2_with fail
      rw [← hw2] at hR0 hR1 ⊢
      refine bodyPost_ret (v := .tuple #[.agg #[.slice none 0 0], .bool false]) (by simp [results, Tryz.results44, go_sem, hR0]) rfl ⟨.slice none 0 0, by rw [hE.out]; rfl, .inl ⟨rfl, by rw [hE.out]; rfl⟩, HB2.out⟩
  · obtain ⟨n, rfl⟩ := Int.eq_ofNat_of_zero_le (show 0 ≤ wh by omega)
    obtain ⟨Q, hQ, hQl⟩ : ∃ Q, qs.take n = Q ∧ n = Q.length := ⟨_, rfl, by rw [List.length_take]; omega⟩
    subst hQl
    have hql : Q.length ≤ qs.length := by omega
    have HQ := hide hQ
    have hQa := hide (actsAt_take HA.out hQ hql)
    have hQs : Hid (∀ A ∈ Q, A.name.size ≤ 1048576 ∧ A.text.size ≤ 1048576 ∧ A.toN.size ≤ 1048576) := fun A hA => HSA.out A (by rw [← hQ] at hA; exact List.mem_of_mem_take hA)
    have hd0 : decide ((Q.length : Int) < 0) = false := by simp
    have hd1 : decide ((qs.length : Int) < (Q.length : Int)) = false := by simp; omega
    have hi0 : (0 : Int) ≤ (Q.length : Int) := by omega
    have hi1 : (Q.length : Int) ≤ (capa : Int) := by omega
    obtain ⟨R, HRR⟩ : ∃ R, Hid ((actsF fs Q).1 = R) := ⟨_, hide rfl⟩
    obtain ⟨cc, HCC⟩ : ∃ cc, Hid ((actsF fs Q).2 = cc) := ⟨_, hide rfl⟩
    have hRl : R.length ≤ 1048576 := by rw [← HRR.out]; exact actsF_len Q fs hl
    have HRs : Hid (∀ F ∈ R, F.name.size ≤ 1048576 ∧ F.text.size ≤ 1048576) := by rw [← HRR.out]; exact actsF_small Q fs HS.out
    have hcl : cc ≤ Q.length := by rw [← HCC.out]; exact actsF_count Q fs
    clear hout hQ
    go_enter Tryz.func44, Tryz.ntmps44
    go_upto_region 3 with fail
    rw [← hw2]
    clear hw2
    go_cut [10, 11] from 12 (fun s10 s11 wx => ∃ β a9 c9, s10 = .pointer (some ⟨β, 0, none⟩) ∧ s11 = .int .i64 (cc : Int) ∧ GotF w2 wx β (.slice a9 R.length c9) R)
    case first =>
      rename_i hJ9 hK9
      have hk := box_of D2.out
      have hW0 : w.heap.size < w2.heap.size := by omega
      have KS : Hid (∀ X, Below w2.heap.size w2 X → X.cell? ⟨w.heap.size, 0, none⟩ = some (.slice ao fs.length cap)) := fun X hX => (hX.cell (p := ⟨w.heap.size, 0, none⟩) hW0).trans hk
      have HFk : Hid (∀ X, Below w2.heap.size w2 X → FilesAt X ao fs) := fun X hX => filesAt_keep HF.out (HB2.out.trans (hX.mono HB2.out.size))
      have HAk : Hid (∀ X, Below w2.heap.size w2 X → ActsAt X (some ⟨ba, offa, none⟩) Q) := fun X hX => actsAt_keep hQa.out (HB2.out.trans (hX.mono HB2.out.size))
      go_region_held3 (fun w' => w'.cell? ⟨w.heap.size, 0, none⟩ = some (.slice ao fs.length cap)) (first | (exact KS.out _ ((Below.refl _ _).drew)) | (exact KS.out _ (((Below.refl _ w2).alloc (Nat.le_refl _) _).drew)) | (exact KS.out _ e5) | (exact KS.out _ (e5.alloc e5.size _)) | (exact KS.out _ (e5.setCell (p := ⟨_, 0, none⟩) wb _)) | fail) ((first | (go_at_call 87; refine (acts_any fs _ _ Q _ _ _ hl (HFk.out _ ((Below.refl _ _).drew)) HS.out (by omega) (HAk.out _ ((Below.refl _ _).drew)) hQs.out).mono ?_; rintro e w5 ⟨v5, rfl, hrow5, b5⟩; rw [HRR.out] at hrow5; rw [HCC.out]; obtain ⟨a5, c5, rfl, _⟩ := rowF_at hrow5; have e5 : Below w2.heap.size w2 w5 := ((Below.refl _ _).drew).trans b5) | (go_at_call 87; refine (acts_any fs _ _ Q _ _ _ hl (HFk.out _ (((Below.refl _ w2).alloc (Nat.le_refl _) _).drew)) HS.out (by omega) (HAk.out _ (((Below.refl _ w2).alloc (Nat.le_refl _) _).drew)) hQs.out).mono ?_; rintro e w5 ⟨v5, rfl, hrow5, b5⟩; rw [HRR.out] at hrow5; rw [HCC.out]; obtain ⟨a5, c5, rfl, _⟩ := rowF_at hrow5; have e5 : Below w2.heap.size w2 w5 := (((Below.refl _ w2).alloc (Nat.le_refl _) _).drew).trans (b5.mono (by simp)); have q5 : Hid (w5.heap[w2.heap.size]? = some (.cells #[.slice none 0 0] 31 (0, 0))) := (b5.block _ (by simp)).trans (heap_alloc_new w2 _); have wb := Nat.le_refl w2.heap.size; have zb : w2.heap.size < (w2.alloc (.cells #[.slice none 0 0] 31)).drew.heap.size := (by simp); have hq4 := box_of q5.out; have hq5 := frozen_of_row w5 _ 0 _ _ q5.out) | fail))
      all_goals (refine hK9 _ _ (Met.intro (hJ9 _ _ ?_)); (repeat apply Exists.intro); refine ⟨?_, rfl⟩)
      all_goals first | (exact ⟨_, _, _, rfl, rfl, got_old hrow5 zb wb e5 q5.out⟩) | (exact ⟨_, _, _, rfl, rfl, got_new hrow5 (Nat.le_refl _) e5⟩)
    case rest =>
      obtain ⟨βW, aW, cW, rfl, rfl, hgot⟩ := hcut
      obtain ⟨wW, hwc⟩ : ∃ x, x = wc := ⟨_, rfl⟩
      subst hwc
      obtain ⟨hb0, hrow, hU, b_wW, hβ1, hβ2⟩ := hgot
      have bW := hide hb0
      have rW := hide hrow
      have HBW : Hid (Below w.heap.size w wW) := HB2.out.trans (b_wW.mono HB2.out.size)
      have RW := hide (blk_below R2.out b_wW)
      have hsW := b_wW.size
      clear hb0 hrow hU b_wW hR0 hR1 hβ1 hβ2
      have hR0 := box_of RW.out
      have hR1 := frozen_of_row wW (w.heap.size + 1) 0 _ _ RW.out
      by_cases hfew : cc < Q.length
      · have hE := hide (cutD_few (ls := ls) rfl hql HQ.out (by rw [HCC.out]; exact hfew))
        have hd : decide ((cc : Int) < (Q.length : Int)) = true := by simp; omega
        go_wp2_with fail
        refine bodyPost_ret (v := .tuple #[.agg #[.slice none 0 0], .bool false]) (by simp [results, Tryz.results44, go_sem, hR0]) rfl ⟨.slice none 0 0, by rw [hE.out]; rfl, .inl ⟨rfl, by rw [hE.out]; rfl⟩, by first | exact HBW.out | exact HBW.out.setCell (p := ⟨w.heap.size + 1, 0, none⟩) (by show w.heap.size ≤ w.heap.size + 1; omega) _⟩
      · obtain ⟨hE1, hE2⟩ := cutD_all (ls := ls) rfl hql HQ.out (fs := fs) (by rw [HCC.out]; exact hfew)
        rw [HRR.out] at hE1 hE2
        have HE1 := hide hE1
        have HE2 := hide hE2
        clear hE1 hE2
        have hd : decide ((cc : Int) < (Q.length : Int)) = false := by simp; omega
        have hbW := box_of bW.out
        go_wp2_with fail
        refine (lose_all R _ _ ls _ _ _ hRl (rowF_files rW.out) (intsAt_keep HL.out HBW.out) HRs.out).mono ?_
        rintro e w9 ⟨v9, rfl, hrow9, b9⟩
        obtain ⟨a9, c9, rfl, _⟩ := rowF_at hrow9
        have H9 := hide hrow9
        have HB9 : Hid (Below w.heap.size w w9) := HBW.out.trans (b9.mono HBW.out.size)
        have hR9 := blk_below RW.out b9
        have hx0 := box_of hR9
        have hx1 := frozen_of_row w9 (w.heap.size + 1) 0 _ _ hR9
        clear hrow9 b9 hR9 hR0 hR1 hbW
        go_wp2_with fail
        refine bodyPost_ret (v := .tuple #[.agg #[.slice a9 (loseR R ls).length c9], .bool (diskOkD R)]) (by simp [results, Tryz.results44, go_sem, hx0]) rfl ⟨.slice a9 (loseR R ls).length c9, by rw [HE1.out], ?_, HB9.out.setCell (p := ⟨w.heap.size + 1, 0, none⟩) (by show w.heap.size ≤ w.heap.size + 1; omega) _⟩
        rw [HE2.out]
        exact rowF_le (rowF_grown H9.out (grownBy_store (World.grownBy.refl _ _) 0 _) (fun g hg e => by have h1 := (rowF_lt H9.out g hg).1; cases e; omega)) (by omega)
end Go.Proofs.YtlcfblodflgleaaGreatDoor
