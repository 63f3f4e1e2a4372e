import Derived.Test.YtmmchemgegmhhaaGreatDoorSlim16
import Derived.Test.YtmmchemgegmhhaaGreatDoorSlim13
import Derived.Test.YtmmchemgegmhhaaGreatDoorSlim20
import Derived.Test.YtmmchemgegmhhaaGreatDoorSlim1
set_option maxRecDepth 100000
set_option maxHeartbeats 12000000
namespace Go.Proofs.YtmmchemgegmhhaaGreatDoor
open Go.RowKit
theorem l03Put_own (fs : List FileD) (ao : Option Addr) (cap : Nat) (F : FileD) (w : World) (hl : fs.length ≤ 1000) (hfs : FilesAt w ao fs) :
    Calls Tryz.prog 187 #[.agg #[.slice ao fs.length cap], .agg #[.string F.name, .string F.text, .int .i64 F.kept]] w fun e w' => ∃ v, e = .returned (.agg #[v]) ∧ w'.ownsRow w.heap.size 74 3 v (putD fs F).length (cellsF (putD fs F)) ∧ Below w.heap.size w w' := by
  have HF := hide hfs
  clear hfs
  obtain ⟨wa, hwa⟩ : ∃ wa, wa = ((w.alloc (.cells #[.slice ao fs.length cap] 27)).alloc (.cells #[.string F.name, .string F.text, .int .i64 F.kept] 74)).alloc (.cells #[.slice none 0 0] 27) := ⟨_, rfl⟩
  have hwas : wa.heap.size = w.heap.size + 1 + 1 + 1 := by rw [hwa]; simp
  have HBa : Hid (Below w.heap.size w wa) := by rw [hwa]; exact (((Below.refl _ w).alloc (Nat.le_refl _) _).alloc (by simp) _).alloc (by simp; omega) _
  have HXa : Hid (wa.heap[w.heap.size]? = some (.cells #[.slice ao fs.length cap] 27 (0, 0))) := by rw [hwa]; exact blk_below (blk_below (heap_alloc_new w _) ((Below.refl _ _).alloc (Nat.le_refl _) _)) ((Below.refl _ _).alloc (Nat.le_refl _) _)
  have HFa : Hid (wa.heap[w.heap.size + 1]? = some (.cells #[.string F.name, .string F.text, .int .i64 F.kept] 74 (0, 0))) := by
    rw [hwa]
    refine blk_below ?_ ((Below.refl _ _).alloc (Nat.le_refl _) _)
    rw [show w.heap.size + 1 = (w.alloc (.cells #[.slice ao fs.length cap] 27)).heap.size from by simp]
    exact heap_alloc_new _ _
  have HRa : Hid (wa.heap[w.heap.size + 1 + 1]? = some (.cells #[.slice none 0 0] 27 (0, 0))) := by
    rw [hwa, show w.heap.size + 1 + 1 = ((w.alloc (.cells #[.slice ao fs.length cap] 27)).alloc (.cells #[.string F.name, .string F.text, .int .i64 F.kept] 74)).heap.size from by simp]
    exact heap_alloc_new _ _
  obtain ⟨o, ho⟩ : ∃ o, o = wa.heap.size := ⟨_, rfl⟩
  obtain ⟨wb, hwb⟩ : ∃ wb, wb = wa.alloc (.cells #[.slice none 0 0] 27) := ⟨_, rfl⟩
  have bab : Below wa.heap.size wa wb := by rw [hwb]; exact (Below.refl _ _).alloc (Nat.le_refl _) _
  have hbs : wb.heap.size = o + 1 := by rw [hwb, ho]; simp
  have HBb : Hid (Below w.heap.size w wb) := HBa.out.trans (bab.mono (by omega))
  have HXb : Hid (wb.cell? ⟨w.heap.size, 0, none⟩ = some (.slice ao fs.length cap)) := box_of (blk_below HXa.out bab)
  have HFb : Hid (wb.heap[w.heap.size + 1]? = some (.cells #[.string F.name, .string F.text, .int .i64 F.kept] 74 (0, 0))) := blk_below HFa.out bab
  have HRb : Hid (wb.heap[w.heap.size + 1 + 1]? = some (.cells #[.slice none 0 0] 27 (0, 0))) := blk_below HRa.out bab
  have HOb : Hid (wb.heap[o]? = some (.cells #[.slice none 0 0] 27 (0, 0))) := by rw [hwb, ho]; exact heap_alloc_new _ _
  have hso : w.heap.size + 1 + 1 < o := by omega
  have hov : o = w.heap.size + 1 + 1 + 1 := by omega
  rw [hwa] at hwb
  clear bab hwa hwas ho HXa HFa HRa HBa
  go_enter Tryz.func187, Tryz.ntmps187
  go_wp2_with fail
  rw [← hwb, ← hov]
  clear hwb hov
  go_loopg [6] fs.length (fun gg ii wr => ∃ (k : Nat) (v : Value), k + gg = fs.length ∧ ii = .int .i64 k ∧ k ≤ fs.length ∧ Hid (wb.grownBy wr (some o)) ∧ Hid (wr.heap[o]? = some (.cells #[v] 27 (0, 0))) ∧ Hid (wr.ownsRow (o + 1) 74 3 v ((fs.take k).filter (lessF F.name)).length (cellsF ((fs.take k).filter (lessF F.name)))))
  case atStart => exact ⟨0, .slice none 0 0, by omega, rfl, Nat.zero_le _, World.grownBy.refl _ _, HOb, ⟨rfl, .inl ⟨rfl, rfl⟩⟩⟩
  case round =>
    obtain ⟨k, v, hkg, rfl, hk, HG, HV, HO⟩ := hrel
    have HB : Hid (Below w.heap.size w wr) := HBb.out.grown HG.out (by omega) (fun j hj => by cases hj; omega)
    have hws : o < wr.heap.size := by have := HG.out.size; omega
    have hbox : wr.cell? ⟨w.heap.size, 0, none⟩ = some (.slice ao fs.length cap) := (HG.out.cell_far ⟨w.heap.size, 0, none⟩ (by show w.heap.size < _; omega) (by simp; omega)).trans HXb.out
    have hout : wr.cell? ⟨o, 0, none⟩ = some v := (cell_of_row wr o 0 _ _ (0, 0) HV.out).trans rfl
    have hfo := frozen_of_row wr o 0 _ _ HV.out
    have HLk : Hid (((fs.take k).filter (lessF F.name)).length ≤ 1048576) := by show _ ≤ _; have := filter_le (fs := fs) (lessF F.name) k; omega
    obtain ⟨LL, HLL⟩ : ∃ LL, Hid (((fs.take k).filter (lessF F.name)) = LL) := ⟨_, hide rfl⟩
    rw [HLL.out] at HO HLk
    by_cases hlt : k < fs.length
    · have hlt' : decide ((k : Int) < (fs.length : Int)) = true := by simp; omega
      obtain ⟨b, off, rfl, hbw, hc0, hc1, hc2⟩ := filesAt_keep HF.out HB.out k hlt
      obtain ⟨G, HGk⟩ : ∃ G, Hid (fs[k] = G) := ⟨fs[k], hide rfl⟩
      rw [HGk.out] at hc0 hc1 hc2
      have hi0 : (0 : Int) ≤ (k : Int) := by omega
      have hi1 : (k : Int) < (fs.length : Int) := by omega
      have HN := hide (filter_next (lessF F.name) hlt)
      rw [HGk.out] at HN
      have HFB : Hid (wr.heap[w.heap.size + 1]? = some (.cells #[.string F.name, .string F.text, .int .i64 F.kept] 74 (0, 0))) := (HG.out.block (w.heap.size + 1) (by omega) (by simp; omega)).trans HFb.out
      have hfn : wr.cell? ⟨w.heap.size + 1, 0, none⟩ = some (.string F.name) := (cell_of_row wr (w.heap.size + 1) 0 _ _ (0, 0) HFB.out).trans rfl
      go_wp2_with fail
      go_quiet (fail)
      obtain ⟨wq, hwq⟩ : ∃ wq, wq = wr.drewN nq := ⟨_, rfl⟩
      rw [← hwq]
      have HBq : Hid (Below wr.heap.size wr wq) := by rw [hwq]; exact drewN_below wr nq
      have hqs : wq.heap.size = wr.heap.size := by rw [hwq]; rfl
      have hq0 : wq.cell? ⟨b, off + k * 3, none⟩ = some (.string G.name) := by rw [hwq]; exact hc0
      have hq1 : wq.cell? ⟨b, off + k * 3 + 1, none⟩ = some (.string G.text) := by rw [hwq]; exact hc1
      have hq2 : wq.cell? ⟨b, off + k * 3 + 2, none⟩ = some (.int .i64 G.kept) := by rw [hwq]; exact hc2
      have hqb : wq.cell? ⟨w.heap.size, 0, none⟩ = some (.slice (some ⟨b, off, none⟩) fs.length cap) := by rw [hwq]; exact hbox
      have hqo : wq.cell? ⟨o, 0, none⟩ = some v := by rw [hwq]; exact hout
      have HVq : Hid (wq.heap[o]? = some (.cells #[v] 27 (0, 0))) := by rw [hwq]; exact HV.out
      have HOq : Hid (wq.ownsRow (o + 1) 74 3 v LL.length (cellsF LL)) := by rw [hwq]; exact HO.out
      have HGq : Hid (wb.grownBy wq (some o)) := grownBy_step HG.out (HBq.out.mono (by omega)) hbs
      clear hwq hc0 hc1 hc2 hbox hout hfo
      cases hp' : Op.bytesLess G.name.toList F.name.toList
      · have hp : lessF F.name G = false := hp'
        have HT : Hid (((fs.take (k + 1)).filter (lessF F.name)) = LL) := by show _ = _; rw [HN.out, hp, ← HLL.out]; simp
        go_wp2
        go_roundg (gk - 1)
        case measure => omega
        case rel => exact ⟨k + 1, v, by omega, by go_num, by omega, HGq, HVq, by show _; rw [HT.out]; exact HOq.out⟩
      · have hp : lessF F.name G = true := hp'
        have HT : Hid (((fs.take (k + 1)).filter (lessF F.name)) = LL ++ [G]) := by show _ = _; rw [HN.out, hp, ← HLL.out]; simp
        have hof : o < wq.heap.size := by omega
        have hall : (wq.alloc (.cells #[.string G.name, .string G.text, .int .i64 G.kept] 74)).cell? ⟨o, 0, none⟩ = some v := (((Below.refl _ wq).alloc (Nat.le_refl _) _).cell (p := ⟨o, 0, none⟩) hof).trans hqo
        have HQS := hide hqs
        clear hqs
        go_upto_region 6 with fail
        go_region_law (refine step_app_file _ (o + 1) (by rfl) _ _ (by rfl) _ LL G (by rfl) (HOq.out.alloc _) wq.heap.size (by simp [Act.eval]) (heap_alloc_new wq _) (by have := HLk.out; omega) (by have := HQS.out; simp; omega) ?_; intro g3 cap3 w3 hown3 hb3 hg3 hgl3; have hn0 : w3.heap[o]? = some (.cells #[v] 27 (0, 0)) := (hb3.block o (by omega)).trans ((((Below.refl _ wq).alloc (Nat.le_refl _) _).block o hof).trans HVq.out); have hn1 : w3.cell? ⟨o, 0, none⟩ = some v := (cell_of_row w3 o 0 _ _ (0, 0) hn0).trans rfl; have hn2 : w3.frozen? ⟨o, 0, none⟩ = false := frozen_of_row w3 o 0 _ _ hn0; have HN0 := hide hn0; clear hn0)
        all_goals
          go_wp2_with fail
          go_roundg (gk - 1)
          case measure => omega
          case rel =>
            have hqs := HQS.out
            have hbw : Below (o + 1) wr w3 := ((HBq.out.mono (by omega)).trans (((Below.refl _ wq).alloc (by omega) _).drew)).trans hb3
            refine ⟨k + 1, _, by omega, by go_num, by omega, grownBy_store (grownBy_step HG.out hbw hbs) 0 _, (heap_setCell_same _ o _ _ _ _ HN0.out).trans rfl, ?_⟩
            show _
            rw [HT.out]
            have hle : (LL ++ [G]).length = LL.length + 1 := by simp only [List.length_append, List.length_singleton]
            have hfin := hown3.kept (grownBy_store (World.grownBy.refl w3 (some o)) 0 (.slice (some ⟨g3, 0, none⟩) (LL.length + 1) cap3)) (.inr (by simp [Value.ownBlock]; omega))
            rw [hle] at hfin ⊢
            exact hfin
    · have hlt' : decide ((k : Int) < (fs.length : Int)) = false := by simp; omega
      have hke : k = fs.length := by omega
      have HE : Hid (((fs.take k).filter (lessF F.name)) = fs.filter (lessF F.name)) := by show _ = _; rw [hke, List.take_length]
      clear hke
      rw [← HLL.out, HE.out] at HO HLk
      have HFB : Hid (wr.heap[w.heap.size + 1]? = some (.cells #[.string F.name, .string F.text, .int .i64 F.kept] 74 (0, 0))) := (HG.out.block (w.heap.size + 1) (by omega) (by simp; omega)).trans HFb.out
      have hfn : wr.cell? ⟨w.heap.size + 1, 0, none⟩ = some (.string F.name) := (cell_of_row wr (w.heap.size + 1) 0 _ _ (0, 0) HFB.out).trans rfl
      have hft : wr.cell? ⟨w.heap.size + 1, 1, none⟩ = some (.string F.text) := (cell_of_row wr (w.heap.size + 1) 1 _ _ (0, 0) HFB.out).trans rfl
      have hfk : wr.cell? ⟨w.heap.size + 1, 2, none⟩ = some (.int .i64 F.kept) := (cell_of_row wr (w.heap.size + 1) 2 _ _ (0, 0) HFB.out).trans rfl
      go_wp2_with (at_builtin; refine app_file _ (o + 1) (by rfl) _ _ (by rfl) _ (fs.filter (lessF F.name)) F (by rfl) (HO.out.alloc _) wr.heap.size (by simp [Act.eval]) (heap_alloc_new wr _) (by have := List.length_filter_le (lessF F.name) fs; omega) (by simp; omega) ?_; intro g3 cap3 w3 hown3 hb3 hg3 hgl3; have hn0 : w3.heap[o]? = some (.cells #[v] 27 (0, 0)) := (hb3.block o (by omega)).trans ((((Below.refl _ wr).alloc (Nat.le_refl _) _).block o hws).trans HV.out); have hn1 : w3.cell? ⟨o, 0, none⟩ = some v := (cell_of_row w3 o 0 _ _ (0, 0) hn0).trans rfl; have hn2 : w3.frozen? ⟨o, 0, none⟩ = false := frozen_of_row w3 o 0 _ _ hn0; have HN0 := hide hn0; clear hn0)
      obtain ⟨w5, hw5⟩ : ∃ w5, w5 = w3.setCell ⟨o, 0, none⟩ (.slice (some ⟨g3, 0, none⟩) ((fs.filter (lessF F.name)).length + 1) cap3) := ⟨_, rfl⟩
      have HG5 : Hid (wb.grownBy w5 (some o)) := by rw [hw5]; exact grownBy_store (grownBy_step HG.out ((((Below.refl _ wr).alloc (by omega) _)).trans hb3) hbs) 0 _
      have HV5 : Hid (w5.heap[o]? = some (.cells #[.slice (some ⟨g3, 0, none⟩) ((fs.filter (lessF F.name)).length + 1) cap3] 27 (0, 0))) := by rw [hw5]; exact (heap_setCell_same _ o _ _ _ _ HN0.out).trans rfl
      have HO5 : Hid (w5.ownsRow (o + 1) 74 3 (.slice (some ⟨g3, 0, none⟩) ((fs.filter (lessF F.name)).length + 1) cap3) (fs.filter (lessF F.name) ++ [F] ++ (fs.take 0).filter (moreF F.name)).length (cellsF (fs.filter (lessF F.name) ++ [F] ++ (fs.take 0).filter (moreF F.name)))) := by
        have e : (fs.filter (lessF F.name) ++ [F] ++ (fs.take 0).filter (moreF F.name)) = fs.filter (lessF F.name) ++ [F] := by simp
        rw [hw5, e]
        exact hown3.kept (grownBy_store (World.grownBy.refl w3 (some o)) 0 _) (.inr (by simp [Value.ownBlock]; omega))
      rw [← hw5]
      clear hw5 hown3 hb3 hn1 hn2 HN0 HO HG HV HB hbox hout hfo hfn hft hfk HFB HLk HE
      go_loopg [7] fs.length (fun gg ii wr => ∃ (k : Nat) (v : Value), k + gg = fs.length ∧ ii = .int .i64 k ∧ k ≤ fs.length ∧ Hid (wb.grownBy wr (some o)) ∧ Hid (wr.heap[o]? = some (.cells #[v] 27 (0, 0))) ∧ Hid (wr.ownsRow (o + 1) 74 3 v (fs.filter (lessF F.name) ++ [F] ++ (fs.take k).filter (moreF F.name)).length (cellsF (fs.filter (lessF F.name) ++ [F] ++ (fs.take k).filter (moreF F.name)))))
      case atStart => exact ⟨0, _, by omega, rfl, Nat.zero_le _, HG5, HV5, HO5⟩
      case round =>
        clear HG5 HV5 HO5
        obtain ⟨k, v, hkg, rfl, hk, HG, HV, HO⟩ := hrel
        have HB : Hid (Below w.heap.size w wr) := HBb.out.grown HG.out (by omega) (fun j hj => by cases hj; omega)
        have hws : o < wr.heap.size := by have := HG.out.size; omega
        have hbox : wr.cell? ⟨w.heap.size, 0, none⟩ = some (.slice ao fs.length cap) := (HG.out.cell_far ⟨w.heap.size, 0, none⟩ (by show w.heap.size < _; omega) (by simp; omega)).trans HXb.out
        have hout : wr.cell? ⟨o, 0, none⟩ = some v := (cell_of_row wr o 0 _ _ (0, 0) HV.out).trans rfl
        have hfo := frozen_of_row wr o 0 _ _ HV.out
        have HLk : Hid ((fs.filter (lessF F.name) ++ [F] ++ (fs.take k).filter (moreF F.name)).length ≤ 1048576) := by show _ ≤ _; have h1 := filter_le (fs := fs) (moreF F.name) k; have h2 := List.length_filter_le (lessF F.name) fs; simp only [List.length_append, List.length_singleton]; omega
        obtain ⟨LL, HLL⟩ : ∃ LL, Hid ((fs.filter (lessF F.name) ++ [F] ++ (fs.take k).filter (moreF F.name)) = LL) := ⟨_, hide rfl⟩
        rw [HLL.out] at HO HLk
        by_cases hlt : k < fs.length
        · have hlt' : decide ((k : Int) < (fs.length : Int)) = true := by simp; omega
          obtain ⟨b, off, rfl, hbw, hc0, hc1, hc2⟩ := filesAt_keep HF.out HB.out k hlt
          obtain ⟨G, HGk⟩ : ∃ G, Hid (fs[k] = G) := ⟨fs[k], hide rfl⟩
          rw [HGk.out] at hc0 hc1 hc2
          have hi0 : (0 : Int) ≤ (k : Int) := by omega
          have hi1 : (k : Int) < (fs.length : Int) := by omega
          have HN := hide (filter_next (moreF F.name) hlt)
          rw [HGk.out] at HN
          have HFB : Hid (wr.heap[w.heap.size + 1]? = some (.cells #[.string F.name, .string F.text, .int .i64 F.kept] 74 (0, 0))) := (HG.out.block (w.heap.size + 1) (by omega) (by simp; omega)).trans HFb.out
          have hfn : wr.cell? ⟨w.heap.size + 1, 0, none⟩ = some (.string F.name) := (cell_of_row wr (w.heap.size + 1) 0 _ _ (0, 0) HFB.out).trans rfl
          go_wp2_with fail
          go_quiet (fail)
          obtain ⟨wq, hwq⟩ : ∃ wq, wq = wr.drewN nq := ⟨_, rfl⟩
          rw [← hwq]
          have HBq : Hid (Below wr.heap.size wr wq) := by rw [hwq]; exact drewN_below wr nq
          have hqs : wq.heap.size = wr.heap.size := by rw [hwq]; rfl
          have hq0 : wq.cell? ⟨b, off + k * 3, none⟩ = some (.string G.name) := by rw [hwq]; exact hc0
          have hq1 : wq.cell? ⟨b, off + k * 3 + 1, none⟩ = some (.string G.text) := by rw [hwq]; exact hc1
          have hq2 : wq.cell? ⟨b, off + k * 3 + 2, none⟩ = some (.int .i64 G.kept) := by rw [hwq]; exact hc2
          have hqb : wq.cell? ⟨w.heap.size, 0, none⟩ = some (.slice (some ⟨b, off, none⟩) fs.length cap) := by rw [hwq]; exact hbox
          have hqo : wq.cell? ⟨o, 0, none⟩ = some v := by rw [hwq]; exact hout
          have HVq : Hid (wq.heap[o]? = some (.cells #[v] 27 (0, 0))) := by rw [hwq]; exact HV.out
          have HOq : Hid (wq.ownsRow (o + 1) 74 3 v LL.length (cellsF LL)) := by rw [hwq]; exact HO.out
          have HGq : Hid (wb.grownBy wq (some o)) := grownBy_step HG.out (HBq.out.mono (by omega)) hbs
          clear hwq hc0 hc1 hc2 hbox hout hfo
          obtain ⟨tb, htb⟩ : ∃ tb, tb = (!Op.bytesLess G.name.toList F.name.toList && !(G.name.toList == F.name.toList)) := ⟨_, rfl⟩
          rw [← htb]
          cases tb
          · have hp : moreF F.name G = false := by rw [moreF, Bool.not_or]; exact htb.symm
            clear htb
            have HT : Hid ((fs.filter (lessF F.name) ++ [F] ++ (fs.take (k + 1)).filter (moreF F.name)) = LL) := by show _ = _; rw [HN.out, hp, ← HLL.out]; simp
            go_wp2
            go_roundg (gk - 1)
            case measure => omega
            case rel => exact ⟨k + 1, v, by omega, by go_num, by omega, HGq, HVq, by show _; rw [HT.out]; exact HOq.out⟩
          · have hp : moreF F.name G = true := by rw [moreF, Bool.not_or]; exact htb.symm
            clear htb
            have HT : Hid ((fs.filter (lessF F.name) ++ [F] ++ (fs.take (k + 1)).filter (moreF F.name)) = LL ++ [G]) := by show _ = _; rw [HN.out, hp, ← HLL.out]; simp
            have hof : o < wq.heap.size := by omega
            have hall : (wq.alloc (.cells #[.string G.name, .string G.text, .int .i64 G.kept] 74)).cell? ⟨o, 0, none⟩ = some v := (((Below.refl _ wq).alloc (Nat.le_refl _) _).cell (p := ⟨o, 0, none⟩) hof).trans hqo
            have HQS := hide hqs
            clear hqs
            go_upto_region 12 with fail
            go_region_law (refine step_app_file _ (o + 1) (by rfl) _ _ (by rfl) _ LL G (by rfl) (HOq.out.alloc _) wq.heap.size (by simp [Act.eval]) (heap_alloc_new wq _) (by have := HLk.out; omega) (by have := HQS.out; simp; omega) ?_; intro g3 cap3 w3 hown3 hb3 hg3 hgl3; have hn0 : w3.heap[o]? = some (.cells #[v] 27 (0, 0)) := (hb3.block o (by omega)).trans ((((Below.refl _ wq).alloc (Nat.le_refl _) _).block o hof).trans HVq.out); have hn1 : w3.cell? ⟨o, 0, none⟩ = some v := (cell_of_row w3 o 0 _ _ (0, 0) hn0).trans rfl; have hn2 : w3.frozen? ⟨o, 0, none⟩ = false := frozen_of_row w3 o 0 _ _ hn0; have HN0 := hide hn0; clear hn0)
            all_goals
              go_wp2_with fail
              go_roundg (gk - 1)
              case measure => omega
              case rel =>
                have hqs := HQS.out
                have hbw : Below (o + 1) wr w3 := ((HBq.out.mono (by omega)).trans (((Below.refl _ wq).alloc (by omega) _).drew)).trans hb3
                refine ⟨k + 1, _, by omega, by go_num, by omega, grownBy_store (grownBy_step HG.out hbw hbs) 0 _, (heap_setCell_same _ o _ _ _ _ HN0.out).trans rfl, ?_⟩
                show _
                rw [HT.out]
                have hle : (LL ++ [G]).length = LL.length + 1 := by simp only [List.length_append, List.length_singleton]
                have hfin := hown3.kept (grownBy_store (World.grownBy.refl w3 (some o)) 0 (.slice (some ⟨g3, 0, none⟩) (LL.length + 1) cap3)) (.inr (by simp [Value.ownBlock]; omega))
                rw [hle] at hfin ⊢
                exact hfin
        · have hlt' : decide ((k : Int) < (fs.length : Int)) = false := by simp; omega
          have hke : k = fs.length := by omega
          have hR : wr.heap[w.heap.size + 1 + 1]? = some (.cells #[.slice none 0 0] 27 (0, 0)) := (HG.out.block (w.heap.size + 1 + 1) (by omega) (by simp; omega)).trans HRb.out
          have hr0 : wr.cell? ⟨w.heap.size + 1 + 1, 0, none⟩ = some (.slice none 0 0) := (cell_of_row wr (w.heap.size + 1 + 1) 0 _ _ (0, 0) hR).trans rfl
          have hr1 := frozen_of_row wr (w.heap.size + 1 + 1) 0 _ _ hR
          have HE : Hid ((fs.filter (lessF F.name) ++ [F] ++ (fs.take k).filter (moreF F.name)) = putD fs F) := by show _ = _; rw [hke, List.take_length]; rfl
          clear hR hke
          rw [← HLL.out, HE.out] at HO HLk
          obtain ⟨av, cv, rfl⟩ := slice_form HO.out
          go_wp2_with fail
          refine bodyPost_ret (v := .agg #[.slice av (putD fs F).length cv]) (by simp [results, Tryz.results187, go_sem, hr0]) rfl ⟨_, rfl, ?_, HB.out.setCell (p := ⟨w.heap.size + 1 + 1, 0, none⟩) (by simp; omega) _⟩
          exact ownsRow_mono (HO.out.kept (grownBy_store (World.grownBy.refl _ (some (w.heap.size + 1 + 1))) 0 _) (by cases e : (Value.slice av (putD fs F).length cv).ownBlock with | none => exact .inl rfl | some b => exact .inr (by have := (HO.out.lt b e).1; simp; omega))) (by omega)
theorem l03Put_any (fs : List FileD) (ao : Option Addr) (cap : Nat) (F : FileD) (w : World) (hl : fs.length ≤ 1000) (hfs : FilesAt w ao fs) :
    Calls Tryz.prog 187 #[.agg #[.slice ao fs.length cap], .agg #[.string F.name, .string F.text, .int .i64 F.kept]] w fun e w' => ∃ v, e = .returned (.agg #[v]) ∧ RowF w' w.heap.size v (putD fs F) ∧ Below w.heap.size w w' :=
  (l03Put_own fs ao cap F w hl hfs).mono fun _ _ ⟨v, he, ho, hb⟩ => ⟨v, he, rowF_own ho, hb⟩
theorem l03Without_any (fs : List FileD) (ao : Option Addr) (cap : Nat) (nm : ByteArray) (w : World) (hl : fs.length ≤ 1000) (hfs : FilesAt w ao fs) :
    Calls Tryz.prog 188 #[.agg #[.slice ao fs.length cap], .string nm] w fun e w' => ∃ v, e = .returned (.agg #[v]) ∧ RowF w' w.heap.size v (withoutD fs nm) ∧ Below w.heap.size w w' := by
  have HF := hide hfs
  clear hfs
  obtain ⟨wa, hwa⟩ : ∃ wa, wa = (w.alloc (.cells #[.slice ao fs.length cap] 27)).alloc (.cells #[.slice none 0 0] 27) := ⟨_, rfl⟩
  have hwas : wa.heap.size = w.heap.size + 1 + 1 := by rw [hwa]; simp
  have HBa : Hid (Below w.heap.size w wa) := by rw [hwa]; exact ((Below.refl _ w).alloc (Nat.le_refl _) _).alloc (by simp) _
  have HXa : Hid (wa.heap[w.heap.size]? = some (.cells #[.slice ao fs.length cap] 27 (0, 0))) := by rw [hwa]; exact blk_below (heap_alloc_new w _) ((Below.refl _ _).alloc (Nat.le_refl _) _)
  have HRa : Hid (wa.heap[w.heap.size + 1]? = some (.cells #[.slice none 0 0] 27 (0, 0))) := by
    rw [hwa, show w.heap.size + 1 = (w.alloc (.cells #[.slice ao fs.length cap] 27)).heap.size from by simp]
    exact heap_alloc_new _ _
  obtain ⟨o, ho⟩ : ∃ o, o = wa.heap.size := ⟨_, rfl⟩
  obtain ⟨wb, hwb⟩ : ∃ wb, wb = wa.alloc (.cells #[.slice none 0 0] 27) := ⟨_, rfl⟩
  have bab : Below wa.heap.size wa wb := by rw [hwb]; exact (Below.refl _ _).alloc (Nat.le_refl _) _
  have hbs : wb.heap.size = o + 1 := by rw [hwb, ho]; simp
  have HBb : Hid (Below w.heap.size w wb) := HBa.out.trans (bab.mono (by omega))
  have HXb : Hid (wb.cell? ⟨w.heap.size, 0, none⟩ = some (.slice ao fs.length cap)) := box_of (blk_below HXa.out bab)
  have HRb : Hid (wb.heap[w.heap.size + 1]? = some (.cells #[.slice none 0 0] 27 (0, 0))) := blk_below HRa.out bab
  have HOb : Hid (wb.heap[o]? = some (.cells #[.slice none 0 0] 27 (0, 0))) := by rw [hwb, ho]; exact heap_alloc_new _ _
  have hso : w.heap.size + 1 < o := by omega
  have hov : o = w.heap.size + 1 + 1 := by omega
  rw [hwa] at hwb
  clear bab hwa hwas ho HXa HRa HBa
  go_enter Tryz.func188, Tryz.ntmps188
  go_wp2_with fail
  rw [← hwb, ← hov]
  clear hwb hov
  go_loopg [6] fs.length (fun gg ii wr => ∃ (k : Nat) (v : Value), k + gg = fs.length ∧ ii = .int .i64 k ∧ k ≤ fs.length ∧ Hid (wb.grownBy wr (some o)) ∧ Hid (wr.heap[o]? = some (.cells #[v] 27 (0, 0))) ∧ Hid (wr.ownsRow (o + 1) 74 3 v ((fs.take k).filter (otherF nm)).length (cellsF ((fs.take k).filter (otherF nm)))))
  case atStart => exact ⟨0, .slice none 0 0, by omega, rfl, Nat.zero_le _, World.grownBy.refl _ _, HOb, ⟨rfl, .inl ⟨rfl, rfl⟩⟩⟩
  case round =>
    obtain ⟨k, v, hkg, rfl, hk, HG, HV, HO⟩ := hrel
    have HB : Hid (Below w.heap.size w wr) := HBb.out.grown HG.out (by omega) (fun j hj => by cases hj; omega)
    have hws : o < wr.heap.size := by have := HG.out.size; omega
    have hbox : wr.cell? ⟨w.heap.size, 0, none⟩ = some (.slice ao fs.length cap) := (HG.out.cell_far ⟨w.heap.size, 0, none⟩ (by show w.heap.size < _; omega) (by simp; omega)).trans HXb.out
    have hout : wr.cell? ⟨o, 0, none⟩ = some v := (cell_of_row wr o 0 _ _ (0, 0) HV.out).trans rfl
    have hfo := frozen_of_row wr o 0 _ _ HV.out
    have HLk : Hid (((fs.take k).filter (otherF nm)).length ≤ 1048576) := by show _ ≤ _; have := filter_le (fs := fs) (otherF nm) k; omega
    obtain ⟨LL, HLL⟩ : ∃ LL, Hid (((fs.take k).filter (otherF nm)) = LL) := ⟨_, hide rfl⟩
    rw [HLL.out] at HO HLk
    by_cases hlt : k < fs.length
    · have hlt' : decide ((k : Int) < (fs.length : Int)) = true := by simp; omega
      obtain ⟨b, off, rfl, hbw, hc0, hc1, hc2⟩ := filesAt_keep HF.out HB.out k hlt
      obtain ⟨G, HGk⟩ : ∃ G, Hid (fs[k] = G) := ⟨fs[k], hide rfl⟩
      rw [HGk.out] at hc0 hc1 hc2
      have hi0 : (0 : Int) ≤ (k : Int) := by omega
      have hi1 : (k : Int) < (fs.length : Int) := by omega
      have HN := hide (filter_next (otherF nm) hlt)
      rw [HGk.out] at HN
      obtain ⟨wq, hwq⟩ : ∃ wq, wq = wr := ⟨_, rfl⟩
      have HBq : Hid (Below wr.heap.size wr wq) := by rw [hwq]; exact Below.refl _ _
      have hqs : wq.heap.size = wr.heap.size := by rw [hwq]
      have hq0 : wq.cell? ⟨b, off + k * 3, none⟩ = some (.string G.name) := by rw [hwq]; exact hc0
      have hq1 : wq.cell? ⟨b, off + k * 3 + 1, none⟩ = some (.string G.text) := by rw [hwq]; exact hc1
      have hq2 : wq.cell? ⟨b, off + k * 3 + 2, none⟩ = some (.int .i64 G.kept) := by rw [hwq]; exact hc2
      have hqb : wq.cell? ⟨w.heap.size, 0, none⟩ = some (.slice (some ⟨b, off, none⟩) fs.length cap) := by rw [hwq]; exact hbox
      have hqo : wq.cell? ⟨o, 0, none⟩ = some v := by rw [hwq]; exact hout
      have HVq : Hid (wq.heap[o]? = some (.cells #[v] 27 (0, 0))) := by rw [hwq]; exact HV.out
      have HOq : Hid (wq.ownsRow (o + 1) 74 3 v LL.length (cellsF LL)) := by rw [hwq]; exact HO.out
      have HGq : Hid (wb.grownBy wq (some o)) := grownBy_step HG.out (HBq.out.mono (by omega)) hbs
      subst hwq
      clear hc0 hc1 hc2 hout hfo
      cases hp' : (G.name.toList == nm.toList)
      · have hp : otherF nm G = true := by simp [otherF, hp']
        have HT : Hid (((fs.take (k + 1)).filter (otherF nm)) = LL ++ [G]) := by show _ = _; rw [HN.out, hp, ← HLL.out]; simp
        have hof : o < wq.heap.size := by omega
        have hall : (wq.alloc (.cells #[.string G.name, .string G.text, .int .i64 G.kept] 74)).cell? ⟨o, 0, none⟩ = some v := (((Below.refl _ wq).alloc (Nat.le_refl _) _).cell (p := ⟨o, 0, none⟩) hof).trans hqo
        have HQS := hide hqs
        clear hqs
        go_upto_region 6 with fail
        go_region_law (refine step_app_file _ (o + 1) (by rfl) _ _ (by rfl) _ LL G (by rfl) (HOq.out.alloc _) wq.heap.size (by simp [Act.eval]) (heap_alloc_new wq _) (by have := HLk.out; omega) (by have := HQS.out; simp; omega) ?_; intro g3 cap3 w3 hown3 hb3 hg3 hgl3; have hn0 : w3.heap[o]? = some (.cells #[v] 27 (0, 0)) := (hb3.block o (by omega)).trans ((((Below.refl _ wq).alloc (Nat.le_refl _) _).block o hof).trans HVq.out); have hn1 : w3.cell? ⟨o, 0, none⟩ = some v := (cell_of_row w3 o 0 _ _ (0, 0) hn0).trans rfl; have hn2 : w3.frozen? ⟨o, 0, none⟩ = false := frozen_of_row w3 o 0 _ _ hn0; have HN0 := hide hn0; clear hn0)
        all_goals
          go_wp2_with fail
          go_roundg (gk - 1)
          case measure => omega
          case rel =>
            have hqs := HQS.out
            have hbw : Below (o + 1) wq w3 := ((HBq.out.mono (by omega)).trans (((Below.refl _ wq).alloc (by omega) _).drew)).trans hb3
            refine ⟨k + 1, _, by omega, by go_num, by omega, grownBy_store (grownBy_step HG.out hbw hbs) 0 _, (heap_setCell_same _ o _ _ _ _ HN0.out).trans rfl, ?_⟩
            show _
            rw [HT.out]
            have hle : (LL ++ [G]).length = LL.length + 1 := by simp only [List.length_append, List.length_singleton]
            have hfin := hown3.kept (grownBy_store (World.grownBy.refl w3 (some o)) 0 (.slice (some ⟨g3, 0, none⟩) (LL.length + 1) cap3)) (.inr (by simp [Value.ownBlock]; omega))
            rw [hle] at hfin ⊢
            exact hfin
      · have hp : otherF nm G = false := by simp [otherF, hp']
        have HT : Hid (((fs.take (k + 1)).filter (otherF nm)) = LL) := by show _ = _; rw [HN.out, hp, ← HLL.out]; simp
        go_wp2
        go_roundg (gk - 1)
        case measure => omega
        case rel => exact ⟨k + 1, v, by omega, by go_num, by omega, HGq, HVq, by show _; rw [HT.out]; exact HOq.out⟩
    · have hlt' : decide ((k : Int) < (fs.length : Int)) = false := by simp; omega
      have hke : k = fs.length := by omega
      have hR : wr.heap[w.heap.size + 1]? = some (.cells #[.slice none 0 0] 27 (0, 0)) := (HG.out.block (w.heap.size + 1) (by omega) (by simp; omega)).trans HRb.out
      have hr0 : wr.cell? ⟨w.heap.size + 1, 0, none⟩ = some (.slice none 0 0) := (cell_of_row wr (w.heap.size + 1) 0 _ _ (0, 0) hR).trans rfl
      have hr1 := frozen_of_row wr (w.heap.size + 1) 0 _ _ hR
      have HE : Hid (((fs.take k).filter (otherF nm)) = withoutD fs nm) := by show _ = _; rw [hke, List.take_length]; rfl
      clear hR hke
      rw [← HLL.out, HE.out] at HO HLk
      obtain ⟨av, cv, rfl⟩ := slice_form HO.out
      go_wp2_with fail
      refine bodyPost_ret (v := .agg #[.slice av (withoutD fs nm).length cv]) (by simp [results, Tryz.results188, go_sem, hr0]) rfl ⟨_, rfl, ?_, HB.out.setCell (p := ⟨w.heap.size + 1, 0, none⟩) (by simp) _⟩
      have hrow := rowF_own HO.out
      exact rowF_le (rowF_grown hrow (grownBy_store (World.grownBy.refl _ _) 0 _) (fun g hg => by have := (rowF_lt hrow g hg).1; simp; omega)) (by omega)
theorem file_cell {w : World} {b : Nat} {x y : ByteArray} {z : Int} {t : TypeId} (h : w.heap[b]? = some (.cells #[.string x, .string y, .int .i64 z] t (0, 0))) : w.cell? ⟨b, 0, none⟩ = some (.string x) ∧ w.cell? ⟨b, 1, none⟩ = some (.string y) ∧ w.cell? ⟨b, 2, none⟩ = some (.int .i64 z) :=
  ⟨(cell_of_row w b 0 _ _ (0, 0) h).trans rfl, (cell_of_row w b 1 _ _ (0, 0) h).trans rfl, (cell_of_row w b 2 _ _ (0, 0) h).trans rfl⟩
theorem act_cell {w : World} {b : Nat} {k : Int} {x y z : ByteArray} {t : TypeId} (h : w.heap[b]? = some (.cells #[.int .i64 k, .string x, .string y, .string z] t (0, 0))) : w.cell? ⟨b, 0, none⟩ = some (.int .i64 k) ∧ w.cell? ⟨b, 1, none⟩ = some (.string x) ∧ w.cell? ⟨b, 2, none⟩ = some (.string y) ∧ w.cell? ⟨b, 3, none⟩ = some (.string z) :=
  ⟨(cell_of_row w b 0 _ _ (0, 0) h).trans rfl, (cell_of_row w b 1 _ _ (0, 0) h).trans rfl, (cell_of_row w b 2 _ _ (0, 0) h).trans rfl, (cell_of_row w b 3 _ _ (0, 0) h).trans rfl⟩
theorem cell_other {w : World} {p q : Addr} {u V : Value} (h : w.cell? q = some u) (hlt : q.block < p.block) : (w.setCell p V).cell? q = some u :=
  (((Below.refl p.block w).setCell (p := p) (Nat.le_refl _) V).cell (p := q) hlt).trans h
theorem put_sizes {fs : List FileD} {F : FileD} (h : ∀ G ∈ fs, G.name.size ≤ maxLen ∧ G.text.size ≤ maxLen) (h1 : F.name.size ≤ maxLen) (h2 : F.text.size ≤ maxLen) : ∀ G ∈ putD fs F, G.name.size ≤ maxLen ∧ G.text.size ≤ maxLen := by
  intro G hG
  rcases mem_putD.1 hG with ⟨hm, _⟩ | rfl | ⟨hm, _⟩
  · exact h G hm
  · exact ⟨h1, h2⟩
  · exact h G hm
theorem specAct_any (fs : List FileD) (ao : Option Addr) (cap : Nat) (A : ActD) (w : World) (hl : fs.length ≤ 1048576) (hfs : FilesAt w ao fs) (hsz : ∀ F ∈ fs, F.name.size ≤ 1048576 ∧ F.text.size ≤ 1048576) (hA1 : A.name.size ≤ 1048576) (hA2 : A.text.size ≤ 1048576) (hA3 : A.toN.size ≤ 1048576) :
    Calls Tryz.prog 154 #[.agg #[.slice ao fs.length cap], .agg #[.int .i64 A.kind, .string A.name, .string A.text, .string A.toN]] w fun e w' => ∃ v, e = .returned (.tuple #[.agg #[v], .bool (actD fs A).isSome]) ∧ RowF w' w.heap.size v ((actD fs A).getD []) ∧ Below w.heap.size w w' := by
  obtain ⟨kd, nm, tx, tt⟩ := A
  simp only at hA1 hA2 hA3 ⊢
  have HF := hide hfs
  have HS := hide hsz
  clear hfs hsz
  obtain ⟨wb, hwb⟩ : ∃ wb, wb = ((w.alloc (.cells #[.slice ao fs.length cap] 27)).alloc (.cells #[.int .i64 kd, .string nm, .string tx, .string tt] 103)).alloc (.cells #[.slice none 0 0] 27) := ⟨_, rfl⟩
  have hbs : wb.heap.size = w.heap.size + 1 + 1 + 1 := by rw [hwb]; simp
  have HB_wb : Hid (Below w.heap.size w wb) := by rw [hwb]; exact (((Below.refl _ w).alloc (Nat.le_refl _) _).alloc (by simp) _).alloc (by simp; omega) _
  have D_wb : Hid (wb.heap[w.heap.size]? = some (.cells #[.slice ao fs.length cap] 27 (0, 0))) := by rw [hwb]; exact blk_below (blk_below (heap_alloc_new w _) ((Below.refl _ _).alloc (Nat.le_refl _) _)) ((Below.refl _ _).alloc (Nat.le_refl _) _)
  have A_wb : Hid (wb.heap[w.heap.size + 1]? = some (.cells #[.int .i64 kd, .string nm, .string tx, .string tt] 103 (0, 0))) := by
    rw [hwb]
    refine blk_below ?_ ((Below.refl _ _).alloc (Nat.le_refl _) _)
    rw [show w.heap.size + 1 = (w.alloc (.cells #[.slice ao fs.length cap] 27)).heap.size from by simp]
    exact heap_alloc_new _ _
  have R_wb : Hid (wb.heap[w.heap.size + 1 + 1]? = some (.cells #[.slice none 0 0] 27 (0, 0))) := by
    rw [hwb, show w.heap.size + 1 + 1 = ((w.alloc (.cells #[.slice ao fs.length cap] 27)).alloc (.cells #[.int .i64 kd, .string nm, .string tx, .string tt] 103)).heap.size from by simp]
    exact heap_alloc_new _ _
  go_enter Tryz.func154, Tryz.ntmps154
  go_wp2_with fail
  rw [← hwb]
  clear hwb
  refine (specDiskOk_any fs ao cap _ hl (filesAt_keep HF.out HB_wb.out) (fun F h => ⟨small_max (HS.out F h).1, small_max (HS.out F h).2⟩)).mono ?_
  rintro e w1 ⟨rfl, b_w1⟩
  have hs_w1 : wb.heap.size ≤ w1.heap.size := (b_w1).size
  have HB_w1 : Hid (Below w.heap.size w w1) := HB_wb.out.trans ((b_w1).mono HB_wb.out.size)
  have D_w1 : Hid (w1.heap[w.heap.size]? = some (.cells #[.slice ao fs.length cap] 27 (0, 0))) := blk_below D_wb.out (b_w1)
  have A_w1 : Hid (w1.heap[w.heap.size + 1]? = some (.cells #[.int .i64 kd, .string nm, .string tx, .string tt] 103 (0, 0))) := blk_below A_wb.out (b_w1)
  have R_w1 : Hid (w1.heap[w.heap.size + 1 + 1]? = some (.cells #[.slice none 0 0] 27 (0, 0))) := blk_below R_wb.out (b_w1)
  clear HB_wb D_wb A_wb R_wb b_w1
  obtain ⟨ca0, ca1, ca2, ca3⟩ := act_cell A_w1.out
  cases hok : diskOkD fs
  · skip
    have cR := box_of R_w1.out
    have zR0 := frozen_of_row w1 (w.heap.size + 1 + 1) 0 _ _ R_w1.out
    have HNO : Hid (actD fs ⟨kd, nm, tx, tt⟩ = none) := actD_no (by simp [actOk, hok])
    go_wp2
    refine bodyPost_ret (v := .tuple #[.agg #[.slice none 0 0], .bool false]) (by simp [results, Tryz.results154, go_sem, cR]) rfl ⟨.slice none 0 0, by rw [HNO.out]; rfl, .inl ⟨rfl, by rw [HNO.out]; rfl⟩, ?_⟩
    exact HB_w1.out.setCell (p := ⟨w.heap.size + 1 + 1, 0, none⟩) (by show w.heap.size ≤ w.heap.size + 1 + 1; omega) _
  have h30 : fs.length ≤ 30 := (disk_files hok).1
  have HFO := hide (disk_files hok).2
  cases h1 : nameOkD nm
  · skip
    go_wp2_with fail
    refine (l03Name_val _ _ _ (small_max hA1) h1).mono ?_
    rintro e w' ⟨rfl, hw'⟩
    rw [hw']
    clear hw' w'
    have cR := box_of R_w1.out
    have zR0 := frozen_of_row w1 (w.heap.size + 1 + 1) 0 _ _ R_w1.out
    have HNO : Hid (actD fs ⟨kd, nm, tx, tt⟩ = none) := actD_no (by simp [actOk, hok, h1])
    go_wp2
    refine bodyPost_ret (v := .tuple #[.agg #[.slice none 0 0], .bool false]) (by simp [results, Tryz.results154, go_sem, cR]) rfl ⟨.slice none 0 0, by rw [HNO.out]; rfl, .inl ⟨rfl, by rw [HNO.out]; rfl⟩, ?_⟩
    exact HB_w1.out.setCell (p := ⟨w.heap.size + 1 + 1, 0, none⟩) (by show w.heap.size ≤ w.heap.size + 1 + 1; omega) _
  go_wp2_with fail
  refine (l03Name_val _ _ _ (small_max hA1) h1).mono ?_
  rintro e w' ⟨rfl, hw'⟩
  rw [hw']
  clear hw' w'
  by_cases k1 : kd = 1
  · skip
    subst k1
    cases et : tt.toList.isEmpty
    · skip
      have cR := box_of R_w1.out
      have zR0 := frozen_of_row w1 (w.heap.size + 1 + 1) 0 _ _ R_w1.out
      have HNO : Hid (actD fs ⟨1, nm, tx, tt⟩ = none) := actD_no (by simp [actOk, hok, h1, et])
      go_wp2
      refine bodyPost_ret (v := .tuple #[.agg #[.slice none 0 0], .bool false]) (by simp [results, Tryz.results154, go_sem, cR]) rfl ⟨.slice none 0 0, by rw [HNO.out]; rfl, .inl ⟨rfl, by rw [HNO.out]; rfl⟩, ?_⟩
      exact HB_w1.out.setCell (p := ⟨w.heap.size + 1 + 1, 0, none⟩) (by show w.heap.size ≤ w.heap.size + 1 + 1; omega) _
    · skip
      have hact : actOk fs ⟨1, nm, tx, tt⟩ = true := by simp [actOk, hok, h1, et]
      have cD := box_of D_w1.out
      go_wp2_with fail
      clear cD ca0 ca1 ca2 ca3
      refine (l03At_any fs _ _ nm _ hl (filesAt_keep HF.out HB_w1.out)).mono ?_
      rintro e w2 ⟨rfl, b_w2⟩
      have hs_w2 : w1.heap.size ≤ w2.heap.size := (b_w2).size
      have HB_w2 : Hid (Below w.heap.size w w2) := HB_w1.out.trans ((b_w2).mono HB_w1.out.size)
      have D_w2 : Hid (w2.heap[w.heap.size]? = some (.cells #[.slice ao fs.length cap] 27 (0, 0))) := blk_below D_w1.out (b_w2)
      have A_w2 : Hid (w2.heap[w.heap.size + 1]? = some (.cells #[.int .i64 1, .string nm, .string tx, .string tt] 103 (0, 0))) := blk_below A_w1.out (b_w2)
      have R_w2 : Hid (w2.heap[w.heap.size + 1 + 1]? = some (.cells #[.slice none 0 0] 27 (0, 0))) := blk_below R_w1.out (b_w2)
      clear HB_w1 D_w1 A_w1 R_w1 b_w2
      rcases at_cases nm fs 0 with ⟨hat, hno⟩ | ⟨j, hj, hat, hnm, hfd⟩
      · skip
        have hfn : fileD fs nm = none := List.find?_eq_none.2 (fun F hF => by rw [hno F hF]; decide)
        rw [hat]
        have hd : decide ((-1 : Int) < 0) = true := by decide
        have hd2 : decide ((0 : Int) ≤ -1) = false := by decide
        obtain ⟨ca0, ca1, ca2, ca3⟩ := act_cell A_w2.out
        obtain ⟨wG, hw_wG⟩ : ∃ wq, wq = w2.alloc (.cells #[.string nm, .string ⟨#[]⟩, .int .i64 0] 74) := ⟨_, rfl⟩
        have bb_wG : Below w2.heap.size w2 wG := by rw [hw_wG]; exact (Below.refl _ _).alloc (Nat.le_refl _) _
        have hz_wG : w2.heap.size + 1 ≤ wG.heap.size := by rw [hw_wG]; simp
        have F_wG : Hid (wG.heap[w2.heap.size]? = some (.cells #[.string nm, .string ⟨#[]⟩, .int .i64 0] 74 (0, 0))) := by rw [hw_wG]; exact heap_alloc_new _ _
        have hs_wG : w2.heap.size ≤ wG.heap.size := (bb_wG).size
        have HB_wG : Hid (Below w.heap.size w wG) := HB_w2.out.trans ((bb_wG).mono HB_w2.out.size)
        have D_wG : Hid (wG.heap[w.heap.size]? = some (.cells #[.slice ao fs.length cap] 27 (0, 0))) := blk_below D_w2.out (bb_wG)
        have A_wG : Hid (wG.heap[w.heap.size + 1]? = some (.cells #[.int .i64 1, .string nm, .string tx, .string tt] 103 (0, 0))) := blk_below A_w2.out (bb_wG)
        have R_wG : Hid (wG.heap[w.heap.size + 1 + 1]? = some (.cells #[.slice none 0 0] 27 (0, 0))) := blk_below R_w2.out (bb_wG)
        have hwGs : wG.heap.size = w2.heap.size + 1 := by rw [hw_wG]; simp
        obtain ⟨wO, hw_wO⟩ : ∃ wq, wq = wG.alloc (.cells #[.slice none 0 0] 27) := ⟨_, rfl⟩
        have bb_wO : Below wG.heap.size wG wO := by rw [hw_wO]; exact (Below.refl _ _).alloc (Nat.le_refl _) _
        have hz_wO : wG.heap.size + 1 ≤ wO.heap.size := by rw [hw_wO]; simp
        have O_wO : Hid (wO.heap[w2.heap.size + 1]? = some (.cells #[.slice none 0 0] 27 (0, 0))) := by rw [hw_wO, ← hwGs]; exact heap_alloc_new _ _
        have hs_wO : wG.heap.size ≤ wO.heap.size := (bb_wO).size
        have HB_wO : Hid (Below w.heap.size w wO) := HB_wG.out.trans ((bb_wO).mono HB_wG.out.size)
        have D_wO : Hid (wO.heap[w.heap.size]? = some (.cells #[.slice ao fs.length cap] 27 (0, 0))) := blk_below D_wG.out (bb_wO)
        have A_wO : Hid (wO.heap[w.heap.size + 1]? = some (.cells #[.int .i64 1, .string nm, .string tx, .string tt] 103 (0, 0))) := blk_below A_wG.out (bb_wO)
        have R_wO : Hid (wO.heap[w.heap.size + 1 + 1]? = some (.cells #[.slice none 0 0] 27 (0, 0))) := blk_below R_wG.out (bb_wO)
        have F_wO : Hid (wO.heap[w2.heap.size]? = some (.cells #[.string nm, .string ⟨#[]⟩, .int .i64 0] 74 (0, 0))) := blk_below F_wG.out (bb_wO)
        go_upto_region 9 with fail
        rw [← hw_wG, ← hw_wO]
        clear hw_wG hw_wO bb_wG bb_wO HB_wG D_wG A_wG R_wG F_wG
        clear ca0 ca1 ca2 ca3
        clear HB_w2 D_w2 A_w2 R_w2
        obtain ⟨ca0, ca1, ca2, ca3⟩ := act_cell A_wO.out
        obtain ⟨cf0, cf1, cf2⟩ := file_cell F_wO.out
        have zF1 := frozen_of_row wO (w2.heap.size) 1 _ _ F_wO.out
        obtain ⟨X, hX⟩ : ∃ X : ByteArray, X = ⟨#[]⟩ ++ tx := ⟨_, rfl⟩
        have hXs : X.size ≤ maxLen := by rw [hX, ByteArray.size_append]; unfold maxLen; show 0 + tx.size ≤ _; omega
        have HX := hide hX
        clear hX
        obtain ⟨wT, hw_wT⟩ : ∃ wq, wq = wO.setCell ⟨w2.heap.size, 1, none⟩ (.string X) := ⟨_, rfl⟩
        have hs_wT : wO.heap.size ≤ wT.heap.size := by rw [hw_wT]; simp [World.setCell]
        have HB_wT : Hid (Below w.heap.size w wT) := by rw [hw_wT]; exact HB_wO.out.setCell (p := ⟨w2.heap.size, 1, none⟩) (by show w.heap.size ≤ w2.heap.size; omega) _
        have D_wT : Hid (wT.heap[w.heap.size]? = some (.cells #[.slice ao fs.length cap] 27 (0, 0))) := by rw [hw_wT, Below.heap_setCell _ _ _ _ (by first | (show (w.heap.size : Nat) ≠ w2.heap.size; omega) | (show (w2.heap.size : Nat) ≠ w.heap.size; omega))]; exact D_wO.out
        have A_wT : Hid (wT.heap[w.heap.size + 1]? = some (.cells #[.int .i64 1, .string nm, .string tx, .string tt] 103 (0, 0))) := by rw [hw_wT, Below.heap_setCell _ _ _ _ (by first | (show (w.heap.size + 1 : Nat) ≠ w2.heap.size; omega) | (show (w2.heap.size : Nat) ≠ w.heap.size + 1; omega))]; exact A_wO.out
        have R_wT : Hid (wT.heap[w.heap.size + 1 + 1]? = some (.cells #[.slice none 0 0] 27 (0, 0))) := by rw [hw_wT, Below.heap_setCell _ _ _ _ (by first | (show (w.heap.size + 1 + 1 : Nat) ≠ w2.heap.size; omega) | (show (w2.heap.size : Nat) ≠ w.heap.size + 1 + 1; omega))]; exact R_wO.out
        have F_wT : Hid (wT.heap[w2.heap.size]? = some (.cells #[.string nm, .string X, .int .i64 0] 74 (0, 0))) := by rw [hw_wT]; exact (heap_setCell_same _ _ _ _ _ _ F_wO.out).trans rfl
        have O_wT : Hid (wT.heap[w2.heap.size + 1]? = some (.cells #[.slice none 0 0] 27 (0, 0))) := by rw [hw_wT, Below.heap_setCell _ _ _ _ (by first | (show (w2.heap.size + 1 : Nat) ≠ w2.heap.size; omega) | (show (w2.heap.size : Nat) ≠ w2.heap.size + 1; omega))]; exact O_wO.out
        clear HB_wO D_wO A_wO R_wO F_wO O_wO
        go_upto_region 11 with fail
        rw [← HX.out, ← hw_wT]
        clear hw_wT cf0 cf1 cf2 zF1 ca0 ca1 ca2 ca3
        have cD := box_of D_wT.out
        obtain ⟨cf0, cf1, cf2⟩ := file_cell F_wT.out
        go_wp2_with fail
        clear cD cf0 cf1 cf2
        refine (l03Put_any fs _ _ ⟨nm, X, 0⟩ _ (by omega) (filesAt_keep HF.out HB_wT.out)).mono ?_
        rintro e w7 ⟨v7, rfl, hrow7, b_w7⟩
        obtain ⟨aP, cP, rfl, _⟩ := rowF_at hrow7
        have P_w7 := hide hrow7
        clear hrow7
        have hs_w7 : wT.heap.size ≤ w7.heap.size := (b_w7).size
        have HB_w7 : Hid (Below w.heap.size w w7) := HB_wT.out.trans ((b_w7).mono HB_wT.out.size)
        have D_w7 : Hid (w7.heap[w.heap.size]? = some (.cells #[.slice ao fs.length cap] 27 (0, 0))) := blk_below D_wT.out (b_w7)
        have A_w7 : Hid (w7.heap[w.heap.size + 1]? = some (.cells #[.int .i64 1, .string nm, .string tx, .string tt] 103 (0, 0))) := blk_below A_wT.out (b_w7)
        have R_w7 : Hid (w7.heap[w.heap.size + 1 + 1]? = some (.cells #[.slice none 0 0] 27 (0, 0))) := blk_below R_wT.out (b_w7)
        have F_w7 : Hid (w7.heap[w2.heap.size]? = some (.cells #[.string nm, .string X, .int .i64 0] 74 (0, 0))) := blk_below F_wT.out (b_w7)
        have O_w7 : Hid (w7.heap[w2.heap.size + 1]? = some (.cells #[.slice none 0 0] 27 (0, 0))) := blk_below O_wT.out (b_w7)
        clear HB_wT D_wT A_wT R_wT F_wT O_wT b_w7
        have cO := box_of O_w7.out
        have zO0 := frozen_of_row w7 (w2.heap.size + 1) 0 _ _ O_w7.out
        obtain ⟨w8, hw_w8⟩ : ∃ wq, wq = w7.setCell ⟨w2.heap.size + 1, 0, none⟩ (.slice aP (putD fs ⟨nm, X, 0⟩).length cP) := ⟨_, rfl⟩
        have hs_w8 : w7.heap.size ≤ w8.heap.size := by rw [hw_w8]; simp [World.setCell]
        have HB_w8 : Hid (Below w.heap.size w w8) := by rw [hw_w8]; exact HB_w7.out.setCell (p := ⟨w2.heap.size + 1, 0, none⟩) (by show w.heap.size ≤ w2.heap.size + 1; omega) _
        have D_w8 : Hid (w8.heap[w.heap.size]? = some (.cells #[.slice ao fs.length cap] 27 (0, 0))) := by rw [hw_w8, Below.heap_setCell _ _ _ _ (by first | (show (w.heap.size : Nat) ≠ w2.heap.size + 1; omega) | (show (w2.heap.size + 1 : Nat) ≠ w.heap.size; omega))]; exact D_w7.out
        have A_w8 : Hid (w8.heap[w.heap.size + 1]? = some (.cells #[.int .i64 1, .string nm, .string tx, .string tt] 103 (0, 0))) := by rw [hw_w8, Below.heap_setCell _ _ _ _ (by first | (show (w.heap.size + 1 : Nat) ≠ w2.heap.size + 1; omega) | (show (w2.heap.size + 1 : Nat) ≠ w.heap.size + 1; omega))]; exact A_w7.out
        have R_w8 : Hid (w8.heap[w.heap.size + 1 + 1]? = some (.cells #[.slice none 0 0] 27 (0, 0))) := by rw [hw_w8, Below.heap_setCell _ _ _ _ (by first | (show (w.heap.size + 1 + 1 : Nat) ≠ w2.heap.size + 1; omega) | (show (w2.heap.size + 1 : Nat) ≠ w.heap.size + 1 + 1; omega))]; exact R_w7.out
        have F_w8 : Hid (w8.heap[w2.heap.size]? = some (.cells #[.string nm, .string X, .int .i64 0] 74 (0, 0))) := by rw [hw_w8, Below.heap_setCell _ _ _ _ (by first | (show (w2.heap.size : Nat) ≠ w2.heap.size + 1; omega) | (show (w2.heap.size + 1 : Nat) ≠ w2.heap.size; omega))]; exact F_w7.out
        have O_w8 : Hid (w8.heap[w2.heap.size + 1]? = some (.cells #[.slice aP (putD fs ⟨nm, X, 0⟩).length cP] 27 (0, 0))) := by rw [hw_w8]; exact (heap_setCell_same _ _ _ _ _ _ O_w7.out).trans rfl
        have P_w8 : Hid (RowF w8 wT.heap.size (.slice aP (putD fs ⟨nm, X, 0⟩).length cP) (putD fs ⟨nm, X, 0⟩)) := by rw [hw_w8]; exact rowF_grown P_w7.out (grownBy_store (World.grownBy.refl _ _) 0 _) (fun g hg e => by have h1 := (rowF_lt P_w7.out g hg).1; cases e; omega)
        clear HB_w7 D_w7 A_w7 R_w7 F_w7 O_w7 P_w7
        go_upto_region 24 with fail
        rw [← hw_w8]
        clear hw_w8 cO zO0
        have hRl : (putD fs ⟨nm, X, 0⟩).length ≤ 1048576 := by have := len_putD_le fs ⟨nm, X, 0⟩; omega
        have HRs : Hid (∀ G ∈ putD fs ⟨nm, X, 0⟩, G.name.size ≤ maxLen ∧ G.text.size ≤ maxLen) := put_sizes (fun G hG => ⟨small_max (HS.out G hG).1, small_max (HS.out G hG).2⟩) (by show _ ≤ _; exact small_max hA1) (by show _ ≤ _; exact hXs)
        have cO := box_of O_w8.out
        have hraw : rawD fs ⟨1, nm, tx, tt⟩ = some (putD fs ⟨nm, X, 0⟩) := by rw [HX.out]; simp [rawD, actF, hfn]
        go_wp2_with fail
        clear cO
        refine (specDiskOk_any (putD fs ⟨nm, X, 0⟩) _ _ _ hRl (rowF_files P_w8.out) HRs.out).mono ?_
        rintro e w9 ⟨rfl, b_w9⟩
        have hs_w9 : w8.heap.size ≤ w9.heap.size := (b_w9).size
        have HB_w9 : Hid (Below w.heap.size w w9) := HB_w8.out.trans ((b_w9).mono HB_w8.out.size)
        have D_w9 : Hid (w9.heap[w.heap.size]? = some (.cells #[.slice ao fs.length cap] 27 (0, 0))) := blk_below D_w8.out (b_w9)
        have A_w9 : Hid (w9.heap[w.heap.size + 1]? = some (.cells #[.int .i64 1, .string nm, .string tx, .string tt] 103 (0, 0))) := blk_below A_w8.out (b_w9)
        have R_w9 : Hid (w9.heap[w.heap.size + 1 + 1]? = some (.cells #[.slice none 0 0] 27 (0, 0))) := blk_below R_w8.out (b_w9)
        have F_w9 : Hid (w9.heap[w2.heap.size]? = some (.cells #[.string nm, .string X, .int .i64 0] 74 (0, 0))) := blk_below F_w8.out (b_w9)
        have O_w9 : Hid (w9.heap[w2.heap.size + 1]? = some (.cells #[.slice aP (putD fs ⟨nm, X, 0⟩).length cP] 27 (0, 0))) := blk_below O_w8.out (b_w9)
        have P_w9 : Hid (RowF w9 wT.heap.size (.slice aP (putD fs ⟨nm, X, 0⟩).length cP) (putD fs ⟨nm, X, 0⟩)) := rowF_below P_w8.out (b_w9)
        clear HB_w8 D_w8 A_w8 R_w8 F_w8 O_w8 P_w8 b_w9
        cases hdk : diskOkD (putD fs ⟨nm, X, 0⟩)
        · skip
          have cR := box_of R_w9.out
          have zR0 := frozen_of_row w9 (w.heap.size + 1 + 1) 0 _ _ R_w9.out
          have HNO : Hid (actD fs ⟨1, nm, tx, tt⟩ = none) := actD_bad hact hraw hdk
          go_wp2
          refine bodyPost_ret (v := .tuple #[.agg #[.slice none 0 0], .bool false]) (by simp [results, Tryz.results154, go_sem, cR]) rfl ⟨.slice none 0 0, by rw [HNO.out]; rfl, .inl ⟨rfl, by rw [HNO.out]; rfl⟩, ?_⟩
          exact HB_w9.out.setCell (p := ⟨w.heap.size + 1 + 1, 0, none⟩) (by show w.heap.size ≤ w.heap.size + 1 + 1; omega) _
        · skip
          have cO := box_of O_w9.out
          have cR := box_of R_w9.out
          have zR0 := frozen_of_row w9 (w.heap.size + 1 + 1) 0 _ _ R_w9.out
          have HYES : Hid (actD fs ⟨1, nm, tx, tt⟩ = some (putD fs ⟨nm, X, 0⟩)) := actD_yes hact hraw hdk
          go_wp2_with fail
          refine bodyPost_ret (v := .tuple #[.agg #[.slice aP (putD fs ⟨nm, X, 0⟩).length cP], .bool true]) (by simp [results, Tryz.results154, go_sem, cR]) rfl ⟨.slice aP (putD fs ⟨nm, X, 0⟩).length cP, by rw [HYES.out]; rfl, ?_, HB_w9.out.setCell (p := ⟨w.heap.size + 1 + 1, 0, none⟩) (by show w.heap.size ≤ w.heap.size + 1 + 1; omega) _⟩
          rw [HYES.out]
          exact rowF_le (rowF_grown P_w9.out (grownBy_store (World.grownBy.refl _ _) 0 _) (fun g hg e => by have h1 := (rowF_lt P_w9.out g hg).1; cases e; omega)) (by omega)
      · skip
        rw [hat, Nat.zero_add]
        have hd : decide ((j : Int) < 0) = false := by simp
        have hd2 : decide ((0 : Int) ≤ (j : Int)) = true := by simp
        have hd3 : ((0 : Int) ≤ (j : Int)) := by omega
        have hd4 : (j : Int) < (fs.length : Int) := by omega
        have hFm := List.getElem_mem hj
        obtain ⟨F, HFj⟩ : ∃ F, Hid (fs[j] = F) := ⟨fs[j], hide rfl⟩
        rw [HFj.out] at hnm hfd hFm
        have hfd' : fileD fs nm = some F := hfd
        obtain ⟨hF1, hF2⟩ := HS.out F hFm
        obtain ⟨ca0, ca1, ca2, ca3⟩ := act_cell A_w2.out
        obtain ⟨wF, hw_wF⟩ : ∃ wq, wq = w2.alloc (.cells #[.string nm, .string ⟨#[]⟩, .int .i64 0] 74) := ⟨_, rfl⟩
        have bb_wF : Below w2.heap.size w2 wF := by rw [hw_wF]; exact (Below.refl _ _).alloc (Nat.le_refl _) _
        have hz_wF : w2.heap.size + 1 ≤ wF.heap.size := by rw [hw_wF]; simp
        have F_wF : Hid (wF.heap[w2.heap.size]? = some (.cells #[.string nm, .string ⟨#[]⟩, .int .i64 0] 74 (0, 0))) := by rw [hw_wF]; exact heap_alloc_new _ _
        have hs_wF : w2.heap.size ≤ wF.heap.size := (bb_wF).size
        have HB_wF : Hid (Below w.heap.size w wF) := HB_w2.out.trans ((bb_wF).mono HB_w2.out.size)
        have D_wF : Hid (wF.heap[w.heap.size]? = some (.cells #[.slice ao fs.length cap] 27 (0, 0))) := blk_below D_w2.out (bb_wF)
        have A_wF : Hid (wF.heap[w.heap.size + 1]? = some (.cells #[.int .i64 1, .string nm, .string tx, .string tt] 103 (0, 0))) := blk_below A_w2.out (bb_wF)
        have R_wF : Hid (wF.heap[w.heap.size + 1 + 1]? = some (.cells #[.slice none 0 0] 27 (0, 0))) := blk_below R_w2.out (bb_wF)
        obtain ⟨b, off, rfl, hbw, hc0, hc1, hc2⟩ := filesAt_keep HF.out HB_wF.out j hj
        rw [HFj.out] at hc0 hc1 hc2
        have cD := box_of D_wF.out
        rw [hw_wF] at cD hc0 hc1 hc2
        clear HB_wF D_wF A_wF R_wF F_wF bb_wF
        obtain ⟨wG, hw_wG⟩ : ∃ wq, wq = w2.alloc (.cells #[.string F.name, .string F.text, .int .i64 F.kept] 74) := ⟨_, rfl⟩
        have bb_wG : Below w2.heap.size w2 wG := by rw [hw_wG]; exact (Below.refl _ _).alloc (Nat.le_refl _) _
        have hz_wG : w2.heap.size + 1 ≤ wG.heap.size := by rw [hw_wG]; simp
        have F_wG : Hid (wG.heap[w2.heap.size]? = some (.cells #[.string F.name, .string F.text, .int .i64 F.kept] 74 (0, 0))) := by rw [hw_wG]; exact heap_alloc_new _ _
        have hs_wG : w2.heap.size ≤ wG.heap.size := (bb_wG).size
        have HB_wG : Hid (Below w.heap.size w wG) := HB_w2.out.trans ((bb_wG).mono HB_w2.out.size)
        have D_wG : Hid (wG.heap[w.heap.size]? = some (.cells #[.slice (some ⟨b, off, none⟩) fs.length cap] 27 (0, 0))) := blk_below D_w2.out (bb_wG)
        have A_wG : Hid (wG.heap[w.heap.size + 1]? = some (.cells #[.int .i64 1, .string nm, .string tx, .string tt] 103 (0, 0))) := blk_below A_w2.out (bb_wG)
        have R_wG : Hid (wG.heap[w.heap.size + 1 + 1]? = some (.cells #[.slice none 0 0] 27 (0, 0))) := blk_below R_w2.out (bb_wG)
        have hwGs : wG.heap.size = w2.heap.size + 1 := by rw [hw_wG]; simp
        obtain ⟨wO, hw_wO⟩ : ∃ wq, wq = wG.alloc (.cells #[.slice none 0 0] 27) := ⟨_, rfl⟩
        have bb_wO : Below wG.heap.size wG wO := by rw [hw_wO]; exact (Below.refl _ _).alloc (Nat.le_refl _) _
        have hz_wO : wG.heap.size + 1 ≤ wO.heap.size := by rw [hw_wO]; simp
        have O_wO : Hid (wO.heap[w2.heap.size + 1]? = some (.cells #[.slice none 0 0] 27 (0, 0))) := by rw [hw_wO, ← hwGs]; exact heap_alloc_new _ _
        have hs_wO : wG.heap.size ≤ wO.heap.size := (bb_wO).size
        have HB_wO : Hid (Below w.heap.size w wO) := HB_wG.out.trans ((bb_wO).mono HB_wG.out.size)
        have D_wO : Hid (wO.heap[w.heap.size]? = some (.cells #[.slice (some ⟨b, off, none⟩) fs.length cap] 27 (0, 0))) := blk_below D_wG.out (bb_wO)
        have A_wO : Hid (wO.heap[w.heap.size + 1]? = some (.cells #[.int .i64 1, .string nm, .string tx, .string tt] 103 (0, 0))) := blk_below A_wG.out (bb_wO)
        have R_wO : Hid (wO.heap[w.heap.size + 1 + 1]? = some (.cells #[.slice none 0 0] 27 (0, 0))) := blk_below R_wG.out (bb_wO)
        have F_wO : Hid (wO.heap[w2.heap.size]? = some (.cells #[.string F.name, .string F.text, .int .i64 F.kept] 74 (0, 0))) := blk_below F_wG.out (bb_wO)
        go_upto_region 9 with fail
        rw [← hw_wG, ← hw_wO]
        clear hw_wG hw_wO bb_wG bb_wO HB_wG D_wG A_wG R_wG F_wG
        clear cD hc0 hc1 hc2 ca0 ca1 ca2 ca3 hw_wF
        clear HB_w2 D_w2 A_w2 R_w2
        obtain ⟨ca0, ca1, ca2, ca3⟩ := act_cell A_wO.out
        obtain ⟨cf0, cf1, cf2⟩ := file_cell F_wO.out
        have zF1 := frozen_of_row wO (w2.heap.size) 1 _ _ F_wO.out
        obtain ⟨wT, hw_wT⟩ : ∃ wq, wq = wO.setCell ⟨w2.heap.size, 1, none⟩ (.string (F.text ++ tx)) := ⟨_, rfl⟩
        have hs_wT : wO.heap.size ≤ wT.heap.size := by rw [hw_wT]; simp [World.setCell]
        have HB_wT : Hid (Below w.heap.size w wT) := by rw [hw_wT]; exact HB_wO.out.setCell (p := ⟨w2.heap.size, 1, none⟩) (by show w.heap.size ≤ w2.heap.size; omega) _
        have D_wT : Hid (wT.heap[w.heap.size]? = some (.cells #[.slice (some ⟨b, off, none⟩) fs.length cap] 27 (0, 0))) := by rw [hw_wT, Below.heap_setCell _ _ _ _ (by first | (show (w.heap.size : Nat) ≠ w2.heap.size; omega) | (show (w2.heap.size : Nat) ≠ w.heap.size; omega))]; exact D_wO.out
        have A_wT : Hid (wT.heap[w.heap.size + 1]? = some (.cells #[.int .i64 1, .string nm, .string tx, .string tt] 103 (0, 0))) := by rw [hw_wT, Below.heap_setCell _ _ _ _ (by first | (show (w.heap.size + 1 : Nat) ≠ w2.heap.size; omega) | (show (w2.heap.size : Nat) ≠ w.heap.size + 1; omega))]; exact A_wO.out
        have R_wT : Hid (wT.heap[w.heap.size + 1 + 1]? = some (.cells #[.slice none 0 0] 27 (0, 0))) := by rw [hw_wT, Below.heap_setCell _ _ _ _ (by first | (show (w.heap.size + 1 + 1 : Nat) ≠ w2.heap.size; omega) | (show (w2.heap.size : Nat) ≠ w.heap.size + 1 + 1; omega))]; exact R_wO.out
        have F_wT : Hid (wT.heap[w2.heap.size]? = some (.cells #[.string F.name, .string (F.text ++ tx), .int .i64 F.kept] 74 (0, 0))) := by rw [hw_wT]; exact (heap_setCell_same _ _ _ _ _ _ F_wO.out).trans rfl
        have O_wT : Hid (wT.heap[w2.heap.size + 1]? = some (.cells #[.slice none 0 0] 27 (0, 0))) := by rw [hw_wT, Below.heap_setCell _ _ _ _ (by first | (show (w2.heap.size + 1 : Nat) ≠ w2.heap.size; omega) | (show (w2.heap.size : Nat) ≠ w2.heap.size + 1; omega))]; exact O_wO.out
        clear HB_wO D_wO A_wO R_wO F_wO O_wO
        go_upto_region 11 with fail
        rw [← hw_wT]
        clear hw_wT cf0 cf1 cf2 zF1 ca0 ca1 ca2 ca3
        have cD := box_of D_wT.out
        obtain ⟨cf0, cf1, cf2⟩ := file_cell F_wT.out
        go_wp2_with fail
        clear cD cf0 cf1 cf2
        refine (l03Put_any fs _ _ ⟨F.name, F.text ++ tx, F.kept⟩ _ (by omega) (filesAt_keep HF.out HB_wT.out)).mono ?_
        rintro e w7 ⟨v7, rfl, hrow7, b_w7⟩
        obtain ⟨aP, cP, rfl, _⟩ := rowF_at hrow7
        have P_w7 := hide hrow7
        clear hrow7
        have hs_w7 : wT.heap.size ≤ w7.heap.size := (b_w7).size
        have HB_w7 : Hid (Below w.heap.size w w7) := HB_wT.out.trans ((b_w7).mono HB_wT.out.size)
        have D_w7 : Hid (w7.heap[w.heap.size]? = some (.cells #[.slice (some ⟨b, off, none⟩) fs.length cap] 27 (0, 0))) := blk_below D_wT.out (b_w7)
        have A_w7 : Hid (w7.heap[w.heap.size + 1]? = some (.cells #[.int .i64 1, .string nm, .string tx, .string tt] 103 (0, 0))) := blk_below A_wT.out (b_w7)
        have R_w7 : Hid (w7.heap[w.heap.size + 1 + 1]? = some (.cells #[.slice none 0 0] 27 (0, 0))) := blk_below R_wT.out (b_w7)
        have F_w7 : Hid (w7.heap[w2.heap.size]? = some (.cells #[.string F.name, .string (F.text ++ tx), .int .i64 F.kept] 74 (0, 0))) := blk_below F_wT.out (b_w7)
        have O_w7 : Hid (w7.heap[w2.heap.size + 1]? = some (.cells #[.slice none 0 0] 27 (0, 0))) := blk_below O_wT.out (b_w7)
        clear HB_wT D_wT A_wT R_wT F_wT O_wT b_w7
        have cO := box_of O_w7.out
        have zO0 := frozen_of_row w7 (w2.heap.size + 1) 0 _ _ O_w7.out
        obtain ⟨w8, hw_w8⟩ : ∃ wq, wq = w7.setCell ⟨w2.heap.size + 1, 0, none⟩ (.slice aP (putD fs ⟨F.name, F.text ++ tx, F.kept⟩).length cP) := ⟨_, rfl⟩
        have hs_w8 : w7.heap.size ≤ w8.heap.size := by rw [hw_w8]; simp [World.setCell]
        have HB_w8 : Hid (Below w.heap.size w w8) := by rw [hw_w8]; exact HB_w7.out.setCell (p := ⟨w2.heap.size + 1, 0, none⟩) (by show w.heap.size ≤ w2.heap.size + 1; omega) _
        have D_w8 : Hid (w8.heap[w.heap.size]? = some (.cells #[.slice (some ⟨b, off, none⟩) fs.length cap] 27 (0, 0))) := by rw [hw_w8, Below.heap_setCell _ _ _ _ (by first | (show (w.heap.size : Nat) ≠ w2.heap.size + 1; omega) | (show (w2.heap.size + 1 : Nat) ≠ w.heap.size; omega))]; exact D_w7.out
        have A_w8 : Hid (w8.heap[w.heap.size + 1]? = some (.cells #[.int .i64 1, .string nm, .string tx, .string tt] 103 (0, 0))) := by rw [hw_w8, Below.heap_setCell _ _ _ _ (by first | (show (w.heap.size + 1 : Nat) ≠ w2.heap.size + 1; omega) | (show (w2.heap.size + 1 : Nat) ≠ w.heap.size + 1; omega))]; exact A_w7.out
        have R_w8 : Hid (w8.heap[w.heap.size + 1 + 1]? = some (.cells #[.slice none 0 0] 27 (0, 0))) := by rw [hw_w8, Below.heap_setCell _ _ _ _ (by first | (show (w.heap.size + 1 + 1 : Nat) ≠ w2.heap.size + 1; omega) | (show (w2.heap.size + 1 : Nat) ≠ w.heap.size + 1 + 1; omega))]; exact R_w7.out
        have F_w8 : Hid (w8.heap[w2.heap.size]? = some (.cells #[.string F.name, .string (F.text ++ tx), .int .i64 F.kept] 74 (0, 0))) := by rw [hw_w8, Below.heap_setCell _ _ _ _ (by first | (show (w2.heap.size : Nat) ≠ w2.heap.size + 1; omega) | (show (w2.heap.size + 1 : Nat) ≠ w2.heap.size; omega))]; exact F_w7.out
        have O_w8 : Hid (w8.heap[w2.heap.size + 1]? = some (.cells #[.slice aP (putD fs ⟨F.name, F.text ++ tx, F.kept⟩).length cP] 27 (0, 0))) := by rw [hw_w8]; exact (heap_setCell_same _ _ _ _ _ _ O_w7.out).trans rfl
        have P_w8 : Hid (RowF w8 wT.heap.size (.slice aP (putD fs ⟨F.name, F.text ++ tx, F.kept⟩).length cP) (putD fs ⟨F.name, F.text ++ tx, F.kept⟩)) := by rw [hw_w8]; exact rowF_grown P_w7.out (grownBy_store (World.grownBy.refl _ _) 0 _) (fun g hg e => by have h1 := (rowF_lt P_w7.out g hg).1; cases e; omega)
        clear HB_w7 D_w7 A_w7 R_w7 F_w7 O_w7 P_w7
        go_upto_region 24 with fail
        rw [← hw_w8]
        clear hw_w8 cO zO0
        have hRl : (putD fs ⟨F.name, F.text ++ tx, F.kept⟩).length ≤ 1048576 := by have := len_putD_le fs ⟨F.name, F.text ++ tx, F.kept⟩; omega
        have HRs : Hid (∀ G ∈ putD fs ⟨F.name, F.text ++ tx, F.kept⟩, G.name.size ≤ maxLen ∧ G.text.size ≤ maxLen) := put_sizes (fun G hG => ⟨small_max (HS.out G hG).1, small_max (HS.out G hG).2⟩) (by show _ ≤ _; exact small_max hF1) (by show _ ≤ _; rw [ByteArray.size_append]; unfold maxLen; omega)
        have cO := box_of O_w8.out
        have hraw : rawD fs ⟨1, nm, tx, tt⟩ = some (putD fs ⟨F.name, F.text ++ tx, F.kept⟩) := by simp [rawD, actF, hfd']
        go_wp2_with fail
        clear cO
        refine (specDiskOk_any (putD fs ⟨F.name, F.text ++ tx, F.kept⟩) _ _ _ hRl (rowF_files P_w8.out) HRs.out).mono ?_
        rintro e w9 ⟨rfl, b_w9⟩
        have hs_w9 : w8.heap.size ≤ w9.heap.size := (b_w9).size
        have HB_w9 : Hid (Below w.heap.size w w9) := HB_w8.out.trans ((b_w9).mono HB_w8.out.size)
        have D_w9 : Hid (w9.heap[w.heap.size]? = some (.cells #[.slice (some ⟨b, off, none⟩) fs.length cap] 27 (0, 0))) := blk_below D_w8.out (b_w9)
        have A_w9 : Hid (w9.heap[w.heap.size + 1]? = some (.cells #[.int .i64 1, .string nm, .string tx, .string tt] 103 (0, 0))) := blk_below A_w8.out (b_w9)
        have R_w9 : Hid (w9.heap[w.heap.size + 1 + 1]? = some (.cells #[.slice none 0 0] 27 (0, 0))) := blk_below R_w8.out (b_w9)
        have F_w9 : Hid (w9.heap[w2.heap.size]? = some (.cells #[.string F.name, .string (F.text ++ tx), .int .i64 F.kept] 74 (0, 0))) := blk_below F_w8.out (b_w9)
        have O_w9 : Hid (w9.heap[w2.heap.size + 1]? = some (.cells #[.slice aP (putD fs ⟨F.name, F.text ++ tx, F.kept⟩).length cP] 27 (0, 0))) := blk_below O_w8.out (b_w9)
        have P_w9 : Hid (RowF w9 wT.heap.size (.slice aP (putD fs ⟨F.name, F.text ++ tx, F.kept⟩).length cP) (putD fs ⟨F.name, F.text ++ tx, F.kept⟩)) := rowF_below P_w8.out (b_w9)
        clear HB_w8 D_w8 A_w8 R_w8 F_w8 O_w8 P_w8 b_w9
        cases hdk : diskOkD (putD fs ⟨F.name, F.text ++ tx, F.kept⟩)
        · skip
          have cR := box_of R_w9.out
          have zR0 := frozen_of_row w9 (w.heap.size + 1 + 1) 0 _ _ R_w9.out
          have HNO : Hid (actD fs ⟨1, nm, tx, tt⟩ = none) := actD_bad hact hraw hdk
          go_wp2
          refine bodyPost_ret (v := .tuple #[.agg #[.slice none 0 0], .bool false]) (by simp [results, Tryz.results154, go_sem, cR]) rfl ⟨.slice none 0 0, by rw [HNO.out]; rfl, .inl ⟨rfl, by rw [HNO.out]; rfl⟩, ?_⟩
          exact HB_w9.out.setCell (p := ⟨w.heap.size + 1 + 1, 0, none⟩) (by show w.heap.size ≤ w.heap.size + 1 + 1; omega) _
        · skip
          have cO := box_of O_w9.out
          have cR := box_of R_w9.out
          have zR0 := frozen_of_row w9 (w.heap.size + 1 + 1) 0 _ _ R_w9.out
          have HYES : Hid (actD fs ⟨1, nm, tx, tt⟩ = some (putD fs ⟨F.name, F.text ++ tx, F.kept⟩)) := actD_yes hact hraw hdk
          go_wp2_with fail
          refine bodyPost_ret (v := .tuple #[.agg #[.slice aP (putD fs ⟨F.name, F.text ++ tx, F.kept⟩).length cP], .bool true]) (by simp [results, Tryz.results154, go_sem, cR]) rfl ⟨.slice aP (putD fs ⟨F.name, F.text ++ tx, F.kept⟩).length cP, by rw [HYES.out]; rfl, ?_, HB_w9.out.setCell (p := ⟨w.heap.size + 1 + 1, 0, none⟩) (by show w.heap.size ≤ w.heap.size + 1 + 1; omega) _⟩
          rw [HYES.out]
          exact rowF_le (rowF_grown P_w9.out (grownBy_store (World.grownBy.refl _ _) 0 _) (fun g hg e => by have h1 := (rowF_lt P_w9.out g hg).1; cases e; omega)) (by omega)
  by_cases k3 : kd = 3
  · skip
    subst k3
    cases ex : tx.toList.isEmpty
    · skip
      have cR := box_of R_w1.out
      have zR0 := frozen_of_row w1 (w.heap.size + 1 + 1) 0 _ _ R_w1.out
      have HNO : Hid (actD fs ⟨3, nm, tx, tt⟩ = none) := actD_no (by simp [actOk, hok, h1, ex])
      go_wp2
      refine bodyPost_ret (v := .tuple #[.agg #[.slice none 0 0], .bool false]) (by simp [results, Tryz.results154, go_sem, cR]) rfl ⟨.slice none 0 0, by rw [HNO.out]; rfl, .inl ⟨rfl, by rw [HNO.out]; rfl⟩, ?_⟩
      exact HB_w1.out.setCell (p := ⟨w.heap.size + 1 + 1, 0, none⟩) (by show w.heap.size ≤ w.heap.size + 1 + 1; omega) _
    · skip
      have hact : actOk fs ⟨3, nm, tx, tt⟩ = true := by simp [actOk, hok, h1, ex]
      have cD := box_of D_w1.out
      go_wp2_with fail
      clear cD ca0 ca1 ca2 ca3
      refine (l03At_any fs _ _ nm _ hl (filesAt_keep HF.out HB_w1.out)).mono ?_
      rintro e w2 ⟨rfl, b_w2⟩
      have hs_w2 : w1.heap.size ≤ w2.heap.size := (b_w2).size
      have HB_w2 : Hid (Below w.heap.size w w2) := HB_w1.out.trans ((b_w2).mono HB_w1.out.size)
      have D_w2 : Hid (w2.heap[w.heap.size]? = some (.cells #[.slice ao fs.length cap] 27 (0, 0))) := blk_below D_w1.out (b_w2)
      have A_w2 : Hid (w2.heap[w.heap.size + 1]? = some (.cells #[.int .i64 3, .string nm, .string tx, .string tt] 103 (0, 0))) := blk_below A_w1.out (b_w2)
      have R_w2 : Hid (w2.heap[w.heap.size + 1 + 1]? = some (.cells #[.slice none 0 0] 27 (0, 0))) := blk_below R_w1.out (b_w2)
      clear HB_w1 D_w1 A_w1 R_w1 b_w2
      rcases at_cases nm fs 0 with ⟨hat, hno⟩ | ⟨j, hj, hat, hnm, hfd⟩
      · skip
        have hfn : fileD fs nm = none := List.find?_eq_none.2 (fun F hF => by rw [hno F hF]; decide)
        rw [hat]
        have hd : decide ((-1 : Int) < 0) = true := by decide
        have hd2 : decide ((0 : Int) ≤ -1) = false := by decide
        obtain ⟨ca0, ca1, ca2, ca3⟩ := act_cell A_w2.out
        obtain ⟨wF, hw_wF⟩ : ∃ wq, wq = w2.alloc (.cells #[.string nm, .string ⟨#[]⟩, .int .i64 0] 74) := ⟨_, rfl⟩
        have bb_wF : Below w2.heap.size w2 wF := by rw [hw_wF]; exact (Below.refl _ _).alloc (Nat.le_refl _) _
        have hz_wF : w2.heap.size + 1 ≤ wF.heap.size := by rw [hw_wF]; simp
        have F_wF : Hid (wF.heap[w2.heap.size]? = some (.cells #[.string nm, .string ⟨#[]⟩, .int .i64 0] 74 (0, 0))) := by rw [hw_wF]; exact heap_alloc_new _ _
        have hs_wF : w2.heap.size ≤ wF.heap.size := (bb_wF).size
        have HB_wF : Hid (Below w.heap.size w wF) := HB_w2.out.trans ((bb_wF).mono HB_w2.out.size)
        have D_wF : Hid (wF.heap[w.heap.size]? = some (.cells #[.slice ao fs.length cap] 27 (0, 0))) := blk_below D_w2.out (bb_wF)
        have A_wF : Hid (wF.heap[w.heap.size + 1]? = some (.cells #[.int .i64 3, .string nm, .string tx, .string tt] 103 (0, 0))) := blk_below A_w2.out (bb_wF)
        have R_wF : Hid (wF.heap[w.heap.size + 1 + 1]? = some (.cells #[.slice none 0 0] 27 (0, 0))) := blk_below R_w2.out (bb_wF)
        obtain ⟨wO, hw_wO⟩ : ∃ wq, wq = wF.alloc (.cells #[.slice none 0 0] 27) := ⟨_, rfl⟩
        have bb_wO : Below wF.heap.size wF wO := by rw [hw_wO]; exact (Below.refl _ _).alloc (Nat.le_refl _) _
        have hz_wO : wF.heap.size + 1 ≤ wO.heap.size := by rw [hw_wO]; simp
        have O_wO : Hid (wO.heap[wF.heap.size]? = some (.cells #[.slice none 0 0] 27 (0, 0))) := by rw [hw_wO]; exact heap_alloc_new _ _
        have hs_wO : wF.heap.size ≤ wO.heap.size := (bb_wO).size
        have HB_wO : Hid (Below w.heap.size w wO) := HB_wF.out.trans ((bb_wO).mono HB_wF.out.size)
        have D_wO : Hid (wO.heap[w.heap.size]? = some (.cells #[.slice ao fs.length cap] 27 (0, 0))) := blk_below D_wF.out (bb_wO)
        have A_wO : Hid (wO.heap[w.heap.size + 1]? = some (.cells #[.int .i64 3, .string nm, .string tx, .string tt] 103 (0, 0))) := blk_below A_wF.out (bb_wO)
        have R_wO : Hid (wO.heap[w.heap.size + 1 + 1]? = some (.cells #[.slice none 0 0] 27 (0, 0))) := blk_below R_wF.out (bb_wO)
        have F_wO : Hid (wO.heap[w2.heap.size]? = some (.cells #[.string nm, .string ⟨#[]⟩, .int .i64 0] 74 (0, 0))) := blk_below F_wF.out (bb_wO)
        have qa0 := (act_cell A_wO.out).1
        rw [hw_wO, hw_wF] at qa0
        have cR := box_of R_wO.out
        have zR0 := frozen_of_row wO (w.heap.size + 1 + 1) 0 _ _ R_wO.out
        rw [hw_wO, hw_wF] at cR zR0
        have HNO : Hid (actD fs ⟨3, nm, tx, tt⟩ = none) := actD_raw hact (by simp [rawD, hfn])
        go_wp2
        refine bodyPost_ret (v := .tuple #[.agg #[.slice none 0 0], .bool false]) (by simp [results, Tryz.results154, go_sem, cR]) rfl ⟨.slice none 0 0, by rw [HNO.out]; rfl, .inl ⟨rfl, by rw [HNO.out]; rfl⟩, ?_⟩
        rw [← hw_wF, ← hw_wO]
        exact HB_wO.out.setCell (p := ⟨w.heap.size + 1 + 1, 0, none⟩) (by show w.heap.size ≤ w.heap.size + 1 + 1; omega) _
      · skip
        rw [hat, Nat.zero_add]
        have hd : decide ((j : Int) < 0) = false := by simp
        have hd2 : decide ((0 : Int) ≤ (j : Int)) = true := by simp
        have hd3 : ((0 : Int) ≤ (j : Int)) := by omega
        have hd4 : (j : Int) < (fs.length : Int) := by omega
        have hFm := List.getElem_mem hj
        obtain ⟨F, HFj⟩ : ∃ F, Hid (fs[j] = F) := ⟨fs[j], hide rfl⟩
        rw [HFj.out] at hnm hfd hFm
        have hfd' : fileD fs nm = some F := hfd
        obtain ⟨hF1, hF2⟩ := HS.out F hFm
        obtain ⟨ca0, ca1, ca2, ca3⟩ := act_cell A_w2.out
        obtain ⟨wF, hw_wF⟩ : ∃ wq, wq = w2.alloc (.cells #[.string nm, .string ⟨#[]⟩, .int .i64 0] 74) := ⟨_, rfl⟩
        have bb_wF : Below w2.heap.size w2 wF := by rw [hw_wF]; exact (Below.refl _ _).alloc (Nat.le_refl _) _
        have hz_wF : w2.heap.size + 1 ≤ wF.heap.size := by rw [hw_wF]; simp
        have F_wF : Hid (wF.heap[w2.heap.size]? = some (.cells #[.string nm, .string ⟨#[]⟩, .int .i64 0] 74 (0, 0))) := by rw [hw_wF]; exact heap_alloc_new _ _
        have hs_wF : w2.heap.size ≤ wF.heap.size := (bb_wF).size
        have HB_wF : Hid (Below w.heap.size w wF) := HB_w2.out.trans ((bb_wF).mono HB_w2.out.size)
        have D_wF : Hid (wF.heap[w.heap.size]? = some (.cells #[.slice ao fs.length cap] 27 (0, 0))) := blk_below D_w2.out (bb_wF)
        have A_wF : Hid (wF.heap[w.heap.size + 1]? = some (.cells #[.int .i64 3, .string nm, .string tx, .string tt] 103 (0, 0))) := blk_below A_w2.out (bb_wF)
        have R_wF : Hid (wF.heap[w.heap.size + 1 + 1]? = some (.cells #[.slice none 0 0] 27 (0, 0))) := blk_below R_w2.out (bb_wF)
        obtain ⟨b, off, rfl, hbw, hc0, hc1, hc2⟩ := filesAt_keep HF.out HB_wF.out j hj
        rw [HFj.out] at hc0 hc1 hc2
        have cD := box_of D_wF.out
        rw [hw_wF] at cD hc0 hc1 hc2
        clear HB_wF D_wF A_wF R_wF F_wF bb_wF
        obtain ⟨wG, hw_wG⟩ : ∃ wq, wq = w2.alloc (.cells #[.string F.name, .string F.text, .int .i64 F.kept] 74) := ⟨_, rfl⟩
        have bb_wG : Below w2.heap.size w2 wG := by rw [hw_wG]; exact (Below.refl _ _).alloc (Nat.le_refl _) _
        have hz_wG : w2.heap.size + 1 ≤ wG.heap.size := by rw [hw_wG]; simp
        have F_wG : Hid (wG.heap[w2.heap.size]? = some (.cells #[.string F.name, .string F.text, .int .i64 F.kept] 74 (0, 0))) := by rw [hw_wG]; exact heap_alloc_new _ _
        have hs_wG : w2.heap.size ≤ wG.heap.size := (bb_wG).size
        have HB_wG : Hid (Below w.heap.size w wG) := HB_w2.out.trans ((bb_wG).mono HB_w2.out.size)
        have D_wG : Hid (wG.heap[w.heap.size]? = some (.cells #[.slice (some ⟨b, off, none⟩) fs.length cap] 27 (0, 0))) := blk_below D_w2.out (bb_wG)
        have A_wG : Hid (wG.heap[w.heap.size + 1]? = some (.cells #[.int .i64 3, .string nm, .string tx, .string tt] 103 (0, 0))) := blk_below A_w2.out (bb_wG)
        have R_wG : Hid (wG.heap[w.heap.size + 1 + 1]? = some (.cells #[.slice none 0 0] 27 (0, 0))) := blk_below R_w2.out (bb_wG)
        have hwGs : wG.heap.size = w2.heap.size + 1 := by rw [hw_wG]; simp
        obtain ⟨wO, hw_wO⟩ : ∃ wq, wq = wG.alloc (.cells #[.slice none 0 0] 27) := ⟨_, rfl⟩
        have bb_wO : Below wG.heap.size wG wO := by rw [hw_wO]; exact (Below.refl _ _).alloc (Nat.le_refl _) _
        have hz_wO : wG.heap.size + 1 ≤ wO.heap.size := by rw [hw_wO]; simp
        have O_wO : Hid (wO.heap[w2.heap.size + 1]? = some (.cells #[.slice none 0 0] 27 (0, 0))) := by rw [hw_wO, ← hwGs]; exact heap_alloc_new _ _
        have hs_wO : wG.heap.size ≤ wO.heap.size := (bb_wO).size
        have HB_wO : Hid (Below w.heap.size w wO) := HB_wG.out.trans ((bb_wO).mono HB_wG.out.size)
        have D_wO : Hid (wO.heap[w.heap.size]? = some (.cells #[.slice (some ⟨b, off, none⟩) fs.length cap] 27 (0, 0))) := blk_below D_wG.out (bb_wO)
        have A_wO : Hid (wO.heap[w.heap.size + 1]? = some (.cells #[.int .i64 3, .string nm, .string tx, .string tt] 103 (0, 0))) := blk_below A_wG.out (bb_wO)
        have R_wO : Hid (wO.heap[w.heap.size + 1 + 1]? = some (.cells #[.slice none 0 0] 27 (0, 0))) := blk_below R_wG.out (bb_wO)
        have F_wO : Hid (wO.heap[w2.heap.size]? = some (.cells #[.string F.name, .string F.text, .int .i64 F.kept] 74 (0, 0))) := blk_below F_wG.out (bb_wO)
        go_upto_region 9 with fail
        rw [← hw_wG, ← hw_wO]
        clear hw_wG hw_wO bb_wG bb_wO HB_wG D_wG A_wG R_wG F_wG
        clear cD hc0 hc1 hc2 ca0 ca1 ca2 ca3 hw_wF
        clear HB_w2 D_w2 A_w2 R_w2
        obtain ⟨ca0, ca1, ca2, ca3⟩ := act_cell A_wO.out
        obtain ⟨cf0, cf1, cf2⟩ := file_cell F_wO.out
        cases hkp : decide (F.kept < (F.text.size : Int))
        · skip
          cases htn : (tt.toList == nm.toList)
          · skip
            cases hto : nameOkD tt
            · skip
              go_wp2_with fail
              refine (l03Name_val _ _ _ (small_max hA3) hto).mono ?_
              rintro e w' ⟨rfl, hw'⟩
              rw [hw']
              clear hw' w'
              have cR := box_of R_wO.out
              have zR0 := frozen_of_row wO (w.heap.size + 1 + 1) 0 _ _ R_wO.out
              have HNO : Hid (actD fs ⟨3, nm, tx, tt⟩ = none) := actD_raw hact (by simp [rawD, hfd', hto])
              go_wp2
              refine bodyPost_ret (v := .tuple #[.agg #[.slice none 0 0], .bool false]) (by simp [results, Tryz.results154, go_sem, cR]) rfl ⟨.slice none 0 0, by rw [HNO.out]; rfl, .inl ⟨rfl, by rw [HNO.out]; rfl⟩, ?_⟩
              exact HB_wO.out.setCell (p := ⟨w.heap.size + 1 + 1, 0, none⟩) (by show w.heap.size ≤ w.heap.size + 1 + 1; omega) _
            · skip
              go_wp2_with fail
              refine (l03Name_val _ _ _ (small_max hA3) hto).mono ?_
              rintro e w' ⟨rfl, hw'⟩
              rw [hw']
              clear hw' w'
              have zF0 := frozen_of_row wO (w2.heap.size) 0 _ _ F_wO.out
              obtain ⟨wT, hw_wT⟩ : ∃ wq, wq = wO.setCell ⟨w2.heap.size, 0, none⟩ (.string tt) := ⟨_, rfl⟩
              have hs_wT : wO.heap.size ≤ wT.heap.size := by rw [hw_wT]; simp [World.setCell]
              have HB_wT : Hid (Below w.heap.size w wT) := by rw [hw_wT]; exact HB_wO.out.setCell (p := ⟨w2.heap.size, 0, none⟩) (by show w.heap.size ≤ w2.heap.size; omega) _
              have D_wT : Hid (wT.heap[w.heap.size]? = some (.cells #[.slice (some ⟨b, off, none⟩) fs.length cap] 27 (0, 0))) := by rw [hw_wT, Below.heap_setCell _ _ _ _ (by first | (show (w.heap.size : Nat) ≠ w2.heap.size; omega) | (show (w2.heap.size : Nat) ≠ w.heap.size; omega))]; exact D_wO.out
              have A_wT : Hid (wT.heap[w.heap.size + 1]? = some (.cells #[.int .i64 3, .string nm, .string tx, .string tt] 103 (0, 0))) := by rw [hw_wT, Below.heap_setCell _ _ _ _ (by first | (show (w.heap.size + 1 : Nat) ≠ w2.heap.size; omega) | (show (w2.heap.size : Nat) ≠ w.heap.size + 1; omega))]; exact A_wO.out
              have R_wT : Hid (wT.heap[w.heap.size + 1 + 1]? = some (.cells #[.slice none 0 0] 27 (0, 0))) := by rw [hw_wT, Below.heap_setCell _ _ _ _ (by first | (show (w.heap.size + 1 + 1 : Nat) ≠ w2.heap.size; omega) | (show (w2.heap.size : Nat) ≠ w.heap.size + 1 + 1; omega))]; exact R_wO.out
              have F_wT : Hid (wT.heap[w2.heap.size]? = some (.cells #[.string tt, .string F.text, .int .i64 F.kept] 74 (0, 0))) := by rw [hw_wT]; exact (heap_setCell_same _ _ _ _ _ _ F_wO.out).trans rfl
              have O_wT : Hid (wT.heap[w2.heap.size + 1]? = some (.cells #[.slice none 0 0] 27 (0, 0))) := by rw [hw_wT, Below.heap_setCell _ _ _ _ (by first | (show (w2.heap.size + 1 : Nat) ≠ w2.heap.size; omega) | (show (w2.heap.size : Nat) ≠ w2.heap.size + 1; omega))]; exact O_wO.out
              clear HB_wO D_wO A_wO R_wO F_wO O_wO
              go_upto_region 21 with fail
              rw [← hw_wT]
              clear hw_wT cf0 cf1 cf2 zF0 ca0 ca1 ca2 ca3
              have cD := box_of D_wT.out
              obtain ⟨ca0, ca1, ca2, ca3⟩ := act_cell A_wT.out
              obtain ⟨cf0, cf1, cf2⟩ := file_cell F_wT.out
              have HFT : Hid (FilesAt wT.drew (some ⟨b, off, none⟩) fs) := filesAt_keep HF.out (HB_wT.out.drew)
              have hwl : (withoutD fs nm).length ≤ 1000 := by have h2 := List.length_filter_le (otherF nm) fs; simp only [withoutD]; omega
              go_region_held3 (fun w' => w'.cell? ⟨w.heap.size, 0, none⟩ = some (.slice (some ⟨b, off, none⟩) fs.length cap) ∧ w'.cell? ⟨w.heap.size + 1, 1, none⟩ = some (.string nm) ∧ w'.cell? ⟨w2.heap.size, 0, none⟩ = some (.string tt) ∧ w'.cell? ⟨w2.heap.size, 1, none⟩ = some (.string F.text) ∧ w'.cell? ⟨w2.heap.size, 2, none⟩ = some (.int .i64 F.kept)) (first | (go_keep; done) | (exact ⟨((b6).cell (p := ⟨w.heap.size, 0, none⟩) (by show w.heap.size < wT.heap.size; omega)).trans cD, ((b6).cell (p := ⟨w.heap.size + 1, 1, none⟩) (by show w.heap.size + 1 < wT.heap.size; omega)).trans ca1, ((b6).cell (p := ⟨w2.heap.size, 0, none⟩) (by show w2.heap.size < wT.heap.size; omega)).trans cf0, ((b6).cell (p := ⟨w2.heap.size, 1, none⟩) (by show w2.heap.size < wT.heap.size; omega)).trans cf1, ((b6).cell (p := ⟨w2.heap.size, 2, none⟩) (by show w2.heap.size < wT.heap.size; omega)).trans cf2⟩) | (exact ⟨(((b6.trans (b7.mono b6.size))).cell (p := ⟨w.heap.size, 0, none⟩) (by show w.heap.size < wT.heap.size; omega)).trans cD, (((b6.trans (b7.mono b6.size))).cell (p := ⟨w.heap.size + 1, 1, none⟩) (by show w.heap.size + 1 < wT.heap.size; omega)).trans ca1, (((b6.trans (b7.mono b6.size))).cell (p := ⟨w2.heap.size, 0, none⟩) (by show w2.heap.size < wT.heap.size; omega)).trans cf0, (((b6.trans (b7.mono b6.size))).cell (p := ⟨w2.heap.size, 1, none⟩) (by show w2.heap.size < wT.heap.size; omega)).trans cf1, (((b6.trans (b7.mono b6.size))).cell (p := ⟨w2.heap.size, 2, none⟩) (by show w2.heap.size < wT.heap.size; omega)).trans cf2⟩) | (exact ⟨cell_other ((((b6.trans (b7.mono b6.size))).cell (p := ⟨w.heap.size, 0, none⟩) (by show w.heap.size < wT.heap.size; omega)).trans cD) (by show w.heap.size < w2.heap.size + 1; omega), cell_other ((((b6.trans (b7.mono b6.size))).cell (p := ⟨w.heap.size + 1, 1, none⟩) (by show w.heap.size + 1 < wT.heap.size; omega)).trans ca1) (by show w.heap.size + 1 < w2.heap.size + 1; omega), cell_other ((((b6.trans (b7.mono b6.size))).cell (p := ⟨w2.heap.size, 0, none⟩) (by show w2.heap.size < wT.heap.size; omega)).trans cf0) (by show w2.heap.size < w2.heap.size + 1; omega), cell_other ((((b6.trans (b7.mono b6.size))).cell (p := ⟨w2.heap.size, 1, none⟩) (by show w2.heap.size < wT.heap.size; omega)).trans cf1) (by show w2.heap.size < w2.heap.size + 1; omega), cell_other ((((b6.trans (b7.mono b6.size))).cell (p := ⟨w2.heap.size, 2, none⟩) (by show w2.heap.size < wT.heap.size; omega)).trans cf2) (by show w2.heap.size < w2.heap.size + 1; omega)⟩)) ((first | (go_at_call 188; refine (l03Without_any fs _ _ nm _ (by omega) HFT.out).mono ?_; rintro e w6 ⟨v6, rfl, hrow6, b6⟩; obtain ⟨a6, c6, rfl, _⟩ := rowF_at hrow6) | (go_at_call 187; refine (l03Put_any (withoutD fs nm) _ _ ⟨tt, F.text, F.kept⟩ _ hwl (rowF_files hrow6)).mono ?_; rintro e w7 ⟨v7, rfl, hrow7, b7⟩; obtain ⟨aP, cP, rfl, _⟩ := rowF_at hrow7; have hO7 := blk_below O_wT.out ((Below.refl _ _).drew.trans (b6.trans (b7.mono b6.size))); have cO7 := box_of hO7; have zO7 := frozen_of_row w7 (w2.heap.size + 1) 0 _ _ hO7)))
              have b_w7 : Below wT.heap.size wT w7 := (Below.refl _ _).drew.trans (b6.trans (b7.mono b6.size))
              have hs6 : wT.heap.size ≤ w6.heap.size := b6.size
              have P_w7 := hide hrow7
              clear hrow7 hrow6 b6 b7 hO7 cO7 zO7 cD ca0 ca1 ca2 ca3 cf0 cf1 cf2 HFT
              have hs_w7 : wT.heap.size ≤ w7.heap.size := (b_w7).size
              have HB_w7 : Hid (Below w.heap.size w w7) := HB_wT.out.trans ((b_w7).mono HB_wT.out.size)
              have D_w7 : Hid (w7.heap[w.heap.size]? = some (.cells #[.slice (some ⟨b, off, none⟩) fs.length cap] 27 (0, 0))) := blk_below D_wT.out (b_w7)
              have A_w7 : Hid (w7.heap[w.heap.size + 1]? = some (.cells #[.int .i64 3, .string nm, .string tx, .string tt] 103 (0, 0))) := blk_below A_wT.out (b_w7)
              have R_w7 : Hid (w7.heap[w.heap.size + 1 + 1]? = some (.cells #[.slice none 0 0] 27 (0, 0))) := blk_below R_wT.out (b_w7)
              have F_w7 : Hid (w7.heap[w2.heap.size]? = some (.cells #[.string tt, .string F.text, .int .i64 F.kept] 74 (0, 0))) := blk_below F_wT.out (b_w7)
              have O_w7 : Hid (w7.heap[w2.heap.size + 1]? = some (.cells #[.slice none 0 0] 27 (0, 0))) := blk_below O_wT.out (b_w7)
              clear HB_wT D_wT A_wT R_wT F_wT O_wT b_w7
              obtain ⟨w8, hw_w8⟩ : ∃ wq, wq = w7.setCell ⟨w2.heap.size + 1, 0, none⟩ (.slice aP (putD (withoutD fs nm) ⟨tt, F.text, F.kept⟩).length cP) := ⟨_, rfl⟩
              have hs_w8 : w7.heap.size ≤ w8.heap.size := by rw [hw_w8]; simp [World.setCell]
              have HB_w8 : Hid (Below w.heap.size w w8) := by rw [hw_w8]; exact HB_w7.out.setCell (p := ⟨w2.heap.size + 1, 0, none⟩) (by show w.heap.size ≤ w2.heap.size + 1; omega) _
              have D_w8 : Hid (w8.heap[w.heap.size]? = some (.cells #[.slice (some ⟨b, off, none⟩) fs.length cap] 27 (0, 0))) := by rw [hw_w8, Below.heap_setCell _ _ _ _ (by first | (show (w.heap.size : Nat) ≠ w2.heap.size + 1; omega) | (show (w2.heap.size + 1 : Nat) ≠ w.heap.size; omega))]; exact D_w7.out
              have A_w8 : Hid (w8.heap[w.heap.size + 1]? = some (.cells #[.int .i64 3, .string nm, .string tx, .string tt] 103 (0, 0))) := by rw [hw_w8, Below.heap_setCell _ _ _ _ (by first | (show (w.heap.size + 1 : Nat) ≠ w2.heap.size + 1; omega) | (show (w2.heap.size + 1 : Nat) ≠ w.heap.size + 1; omega))]; exact A_w7.out
              have R_w8 : Hid (w8.heap[w.heap.size + 1 + 1]? = some (.cells #[.slice none 0 0] 27 (0, 0))) := by rw [hw_w8, Below.heap_setCell _ _ _ _ (by first | (show (w.heap.size + 1 + 1 : Nat) ≠ w2.heap.size + 1; omega) | (show (w2.heap.size + 1 : Nat) ≠ w.heap.size + 1 + 1; omega))]; exact R_w7.out
              have F_w8 : Hid (w8.heap[w2.heap.size]? = some (.cells #[.string tt, .string F.text, .int .i64 F.kept] 74 (0, 0))) := by rw [hw_w8, Below.heap_setCell _ _ _ _ (by first | (show (w2.heap.size : Nat) ≠ w2.heap.size + 1; omega) | (show (w2.heap.size + 1 : Nat) ≠ w2.heap.size; omega))]; exact F_w7.out
              have O_w8 : Hid (w8.heap[w2.heap.size + 1]? = some (.cells #[.slice aP (putD (withoutD fs nm) ⟨tt, F.text, F.kept⟩).length cP] 27 (0, 0))) := by rw [hw_w8]; exact (heap_setCell_same _ _ _ _ _ _ O_w7.out).trans rfl
              have P_w8 : Hid (RowF w8 w6.heap.size (.slice aP (putD (withoutD fs nm) ⟨tt, F.text, F.kept⟩).length cP) (putD (withoutD fs nm) ⟨tt, F.text, F.kept⟩)) := by rw [hw_w8]; exact rowF_grown P_w7.out (grownBy_store (World.grownBy.refl _ _) 0 _) (fun g hg e => by have h1 := (rowF_lt P_w7.out g hg).1; cases e; omega)
              clear HB_w7 D_w7 A_w7 R_w7 F_w7 O_w7 P_w7
              go_upto_region 24 with fail
              rw [← hw_w8]
              clear hw_w8
              have hRl : (putD (withoutD fs nm) ⟨tt, F.text, F.kept⟩).length ≤ 1048576 := by have := len_putD_le (withoutD fs nm) ⟨tt, F.text, F.kept⟩; omega
              have HRs : Hid (∀ G ∈ putD (withoutD fs nm) ⟨tt, F.text, F.kept⟩, G.name.size ≤ maxLen ∧ G.text.size ≤ maxLen) := put_sizes (fun G hG => ⟨small_max (HS.out G (List.mem_filter.1 hG).1).1, small_max (HS.out G (List.mem_filter.1 hG).1).2⟩) (by show _ ≤ _; exact small_max hA3) (by show _ ≤ _; exact small_max hF2)
              have cO := box_of O_w8.out
              have hraw : rawD fs ⟨3, nm, tx, tt⟩ = some (putD (withoutD fs nm) ⟨tt, F.text, F.kept⟩) := by rw [rawD]; simp only [hfd', actF, hkp, htn, hto, Option.getD_some]; simp
              go_wp2_with fail
              clear cO
              refine (specDiskOk_any (putD (withoutD fs nm) ⟨tt, F.text, F.kept⟩) _ _ _ hRl (rowF_files P_w8.out) HRs.out).mono ?_
              rintro e w9 ⟨rfl, b_w9⟩
              have hs_w9 : w8.heap.size ≤ w9.heap.size := (b_w9).size
              have HB_w9 : Hid (Below w.heap.size w w9) := HB_w8.out.trans ((b_w9).mono HB_w8.out.size)
              have D_w9 : Hid (w9.heap[w.heap.size]? = some (.cells #[.slice (some ⟨b, off, none⟩) fs.length cap] 27 (0, 0))) := blk_below D_w8.out (b_w9)
              have A_w9 : Hid (w9.heap[w.heap.size + 1]? = some (.cells #[.int .i64 3, .string nm, .string tx, .string tt] 103 (0, 0))) := blk_below A_w8.out (b_w9)
              have R_w9 : Hid (w9.heap[w.heap.size + 1 + 1]? = some (.cells #[.slice none 0 0] 27 (0, 0))) := blk_below R_w8.out (b_w9)
              have F_w9 : Hid (w9.heap[w2.heap.size]? = some (.cells #[.string tt, .string F.text, .int .i64 F.kept] 74 (0, 0))) := blk_below F_w8.out (b_w9)
              have O_w9 : Hid (w9.heap[w2.heap.size + 1]? = some (.cells #[.slice aP (putD (withoutD fs nm) ⟨tt, F.text, F.kept⟩).length cP] 27 (0, 0))) := blk_below O_w8.out (b_w9)
              have P_w9 : Hid (RowF w9 w6.heap.size (.slice aP (putD (withoutD fs nm) ⟨tt, F.text, F.kept⟩).length cP) (putD (withoutD fs nm) ⟨tt, F.text, F.kept⟩)) := rowF_below P_w8.out (b_w9)
              clear HB_w8 D_w8 A_w8 R_w8 F_w8 O_w8 P_w8 b_w9
              cases hdk : diskOkD (putD (withoutD fs nm) ⟨tt, F.text, F.kept⟩)
              · skip
                have cR := box_of R_w9.out
                have zR0 := frozen_of_row w9 (w.heap.size + 1 + 1) 0 _ _ R_w9.out
                have HNO : Hid (actD fs ⟨3, nm, tx, tt⟩ = none) := actD_bad hact hraw hdk
                go_wp2
                refine bodyPost_ret (v := .tuple #[.agg #[.slice none 0 0], .bool false]) (by simp [results, Tryz.results154, go_sem, cR]) rfl ⟨.slice none 0 0, by rw [HNO.out]; rfl, .inl ⟨rfl, by rw [HNO.out]; rfl⟩, ?_⟩
                exact HB_w9.out.setCell (p := ⟨w.heap.size + 1 + 1, 0, none⟩) (by show w.heap.size ≤ w.heap.size + 1 + 1; omega) _
              · skip
                have cO := box_of O_w9.out
                have cR := box_of R_w9.out
                have zR0 := frozen_of_row w9 (w.heap.size + 1 + 1) 0 _ _ R_w9.out
                have HYES : Hid (actD fs ⟨3, nm, tx, tt⟩ = some (putD (withoutD fs nm) ⟨tt, F.text, F.kept⟩)) := actD_yes hact hraw hdk
                go_wp2_with fail
                refine bodyPost_ret (v := .tuple #[.agg #[.slice aP (putD (withoutD fs nm) ⟨tt, F.text, F.kept⟩).length cP], .bool true]) (by simp [results, Tryz.results154, go_sem, cR]) rfl ⟨.slice aP (putD (withoutD fs nm) ⟨tt, F.text, F.kept⟩).length cP, by rw [HYES.out]; rfl, ?_, HB_w9.out.setCell (p := ⟨w.heap.size + 1 + 1, 0, none⟩) (by show w.heap.size ≤ w.heap.size + 1 + 1; omega) _⟩
                rw [HYES.out]
                exact rowF_le (rowF_grown P_w9.out (grownBy_store (World.grownBy.refl _ _) 0 _) (fun g hg e => by have h1 := (rowF_lt P_w9.out g hg).1; cases e; omega)) (by omega)
          · skip
            have cR := box_of R_wO.out
            have zR0 := frozen_of_row wO (w.heap.size + 1 + 1) 0 _ _ R_wO.out
            have HNO : Hid (actD fs ⟨3, nm, tx, tt⟩ = none) := actD_raw hact (by rw [rawD]; simp only [hfd', actF, htn, Option.getD_some]; simp)
            go_wp2
            refine bodyPost_ret (v := .tuple #[.agg #[.slice none 0 0], .bool false]) (by simp [results, Tryz.results154, go_sem, cR]) rfl ⟨.slice none 0 0, by rw [HNO.out]; rfl, .inl ⟨rfl, by rw [HNO.out]; rfl⟩, ?_⟩
            exact HB_wO.out.setCell (p := ⟨w.heap.size + 1 + 1, 0, none⟩) (by show w.heap.size ≤ w.heap.size + 1 + 1; omega) _
        · skip
          have cR := box_of R_wO.out
          have zR0 := frozen_of_row wO (w.heap.size + 1 + 1) 0 _ _ R_wO.out
          have HNO : Hid (actD fs ⟨3, nm, tx, tt⟩ = none) := actD_raw hact (by rw [rawD]; simp only [hfd', actF, hkp, Option.getD_some]; simp)
          go_wp2
          refine bodyPost_ret (v := .tuple #[.agg #[.slice none 0 0], .bool false]) (by simp [results, Tryz.results154, go_sem, cR]) rfl ⟨.slice none 0 0, by rw [HNO.out]; rfl, .inl ⟨rfl, by rw [HNO.out]; rfl⟩, ?_⟩
          exact HB_wO.out.setCell (p := ⟨w.heap.size + 1 + 1, 0, none⟩) (by show w.heap.size ≤ w.heap.size + 1 + 1; omega) _
  cases et : tt.toList.isEmpty
  · skip
    have cR := box_of R_w1.out
    have zR0 := frozen_of_row w1 (w.heap.size + 1 + 1) 0 _ _ R_w1.out
    have HNO : Hid (actD fs ⟨kd, nm, tx, tt⟩ = none) := actD_no (by simp [actOk, hok, h1, et, k3])
    go_wp2
    refine bodyPost_ret (v := .tuple #[.agg #[.slice none 0 0], .bool false]) (by simp [results, Tryz.results154, go_sem, cR]) rfl ⟨.slice none 0 0, by rw [HNO.out]; rfl, .inl ⟨rfl, by rw [HNO.out]; rfl⟩, ?_⟩
    exact HB_w1.out.setCell (p := ⟨w.heap.size + 1 + 1, 0, none⟩) (by show w.heap.size ≤ w.heap.size + 1 + 1; omega) _
  cases ex : tx.toList.isEmpty
  · skip
    have cR := box_of R_w1.out
    have zR0 := frozen_of_row w1 (w.heap.size + 1 + 1) 0 _ _ R_w1.out
    have HNO : Hid (actD fs ⟨kd, nm, tx, tt⟩ = none) := actD_no (by simp [actOk, hok, h1, et, ex, k1])
    go_wp2
    refine bodyPost_ret (v := .tuple #[.agg #[.slice none 0 0], .bool false]) (by simp [results, Tryz.results154, go_sem, cR]) rfl ⟨.slice none 0 0, by rw [HNO.out]; rfl, .inl ⟨rfl, by rw [HNO.out]; rfl⟩, ?_⟩
    exact HB_w1.out.setCell (p := ⟨w.heap.size + 1 + 1, 0, none⟩) (by show w.heap.size ≤ w.heap.size + 1 + 1; omega) _
  have hact : actOk fs ⟨kd, nm, tx, tt⟩ = true := by simp [actOk, hok, h1, et, ex]
  by_cases k2 : kd = 2
  · skip
    subst k2
    have cD := box_of D_w1.out
    go_wp2_with fail
    clear cD ca0 ca1 ca2 ca3
    refine (l03At_any fs _ _ nm _ hl (filesAt_keep HF.out HB_w1.out)).mono ?_
    rintro e w2 ⟨rfl, b_w2⟩
    have hs_w2 : w1.heap.size ≤ w2.heap.size := (b_w2).size
    have HB_w2 : Hid (Below w.heap.size w w2) := HB_w1.out.trans ((b_w2).mono HB_w1.out.size)
    have D_w2 : Hid (w2.heap[w.heap.size]? = some (.cells #[.slice ao fs.length cap] 27 (0, 0))) := blk_below D_w1.out (b_w2)
    have A_w2 : Hid (w2.heap[w.heap.size + 1]? = some (.cells #[.int .i64 2, .string nm, .string tx, .string tt] 103 (0, 0))) := blk_below A_w1.out (b_w2)
    have R_w2 : Hid (w2.heap[w.heap.size + 1 + 1]? = some (.cells #[.slice none 0 0] 27 (0, 0))) := blk_below R_w1.out (b_w2)
    clear HB_w1 D_w1 A_w1 R_w1 b_w2
    rcases at_cases nm fs 0 with ⟨hat, hno⟩ | ⟨j, hj, hat, hnm, hfd⟩
    · skip
      have hfn : fileD fs nm = none := List.find?_eq_none.2 (fun F hF => by rw [hno F hF]; decide)
      rw [hat]
      have hd : decide ((-1 : Int) < 0) = true := by decide
      have hd2 : decide ((0 : Int) ≤ -1) = false := by decide
      obtain ⟨ca0, ca1, ca2, ca3⟩ := act_cell A_w2.out
      obtain ⟨wF, hw_wF⟩ : ∃ wq, wq = w2.alloc (.cells #[.string nm, .string ⟨#[]⟩, .int .i64 0] 74) := ⟨_, rfl⟩
      have bb_wF : Below w2.heap.size w2 wF := by rw [hw_wF]; exact (Below.refl _ _).alloc (Nat.le_refl _) _
      have hz_wF : w2.heap.size + 1 ≤ wF.heap.size := by rw [hw_wF]; simp
      have F_wF : Hid (wF.heap[w2.heap.size]? = some (.cells #[.string nm, .string ⟨#[]⟩, .int .i64 0] 74 (0, 0))) := by rw [hw_wF]; exact heap_alloc_new _ _
      have hs_wF : w2.heap.size ≤ wF.heap.size := (bb_wF).size
      have HB_wF : Hid (Below w.heap.size w wF) := HB_w2.out.trans ((bb_wF).mono HB_w2.out.size)
      have D_wF : Hid (wF.heap[w.heap.size]? = some (.cells #[.slice ao fs.length cap] 27 (0, 0))) := blk_below D_w2.out (bb_wF)
      have A_wF : Hid (wF.heap[w.heap.size + 1]? = some (.cells #[.int .i64 2, .string nm, .string tx, .string tt] 103 (0, 0))) := blk_below A_w2.out (bb_wF)
      have R_wF : Hid (wF.heap[w.heap.size + 1 + 1]? = some (.cells #[.slice none 0 0] 27 (0, 0))) := blk_below R_w2.out (bb_wF)
      obtain ⟨wO, hw_wO⟩ : ∃ wq, wq = wF.alloc (.cells #[.slice none 0 0] 27) := ⟨_, rfl⟩
      have bb_wO : Below wF.heap.size wF wO := by rw [hw_wO]; exact (Below.refl _ _).alloc (Nat.le_refl _) _
      have hz_wO : wF.heap.size + 1 ≤ wO.heap.size := by rw [hw_wO]; simp
      have O_wO : Hid (wO.heap[wF.heap.size]? = some (.cells #[.slice none 0 0] 27 (0, 0))) := by rw [hw_wO]; exact heap_alloc_new _ _
      have hs_wO : wF.heap.size ≤ wO.heap.size := (bb_wO).size
      have HB_wO : Hid (Below w.heap.size w wO) := HB_wF.out.trans ((bb_wO).mono HB_wF.out.size)
      have D_wO : Hid (wO.heap[w.heap.size]? = some (.cells #[.slice ao fs.length cap] 27 (0, 0))) := blk_below D_wF.out (bb_wO)
      have A_wO : Hid (wO.heap[w.heap.size + 1]? = some (.cells #[.int .i64 2, .string nm, .string tx, .string tt] 103 (0, 0))) := blk_below A_wF.out (bb_wO)
      have R_wO : Hid (wO.heap[w.heap.size + 1 + 1]? = some (.cells #[.slice none 0 0] 27 (0, 0))) := blk_below R_wF.out (bb_wO)
      have F_wO : Hid (wO.heap[w2.heap.size]? = some (.cells #[.string nm, .string ⟨#[]⟩, .int .i64 0] 74 (0, 0))) := blk_below F_wF.out (bb_wO)
      have qa0 := (act_cell A_wO.out).1
      rw [hw_wO, hw_wF] at qa0
      have cR := box_of R_wO.out
      have zR0 := frozen_of_row wO (w.heap.size + 1 + 1) 0 _ _ R_wO.out
      rw [hw_wO, hw_wF] at cR zR0
      have HNO : Hid (actD fs ⟨2, nm, tx, tt⟩ = none) := actD_raw hact (by simp [rawD, hfn])
      go_wp2
      refine bodyPost_ret (v := .tuple #[.agg #[.slice none 0 0], .bool false]) (by simp [results, Tryz.results154, go_sem, cR]) rfl ⟨.slice none 0 0, by rw [HNO.out]; rfl, .inl ⟨rfl, by rw [HNO.out]; rfl⟩, ?_⟩
      rw [← hw_wF, ← hw_wO]
      exact HB_wO.out.setCell (p := ⟨w.heap.size + 1 + 1, 0, none⟩) (by show w.heap.size ≤ w.heap.size + 1 + 1; omega) _
    · skip
      rw [hat, Nat.zero_add]
      have hd : decide ((j : Int) < 0) = false := by simp
      have hd2 : decide ((0 : Int) ≤ (j : Int)) = true := by simp
      have hd3 : ((0 : Int) ≤ (j : Int)) := by omega
      have hd4 : (j : Int) < (fs.length : Int) := by omega
      have hFm := List.getElem_mem hj
      obtain ⟨F, HFj⟩ : ∃ F, Hid (fs[j] = F) := ⟨fs[j], hide rfl⟩
      rw [HFj.out] at hnm hfd hFm
      have hfd' : fileD fs nm = some F := hfd
      obtain ⟨hF1, hF2⟩ := HS.out F hFm
      obtain ⟨ca0, ca1, ca2, ca3⟩ := act_cell A_w2.out
      obtain ⟨wF, hw_wF⟩ : ∃ wq, wq = w2.alloc (.cells #[.string nm, .string ⟨#[]⟩, .int .i64 0] 74) := ⟨_, rfl⟩
      have bb_wF : Below w2.heap.size w2 wF := by rw [hw_wF]; exact (Below.refl _ _).alloc (Nat.le_refl _) _
      have hz_wF : w2.heap.size + 1 ≤ wF.heap.size := by rw [hw_wF]; simp
      have F_wF : Hid (wF.heap[w2.heap.size]? = some (.cells #[.string nm, .string ⟨#[]⟩, .int .i64 0] 74 (0, 0))) := by rw [hw_wF]; exact heap_alloc_new _ _
      have hs_wF : w2.heap.size ≤ wF.heap.size := (bb_wF).size
      have HB_wF : Hid (Below w.heap.size w wF) := HB_w2.out.trans ((bb_wF).mono HB_w2.out.size)
      have D_wF : Hid (wF.heap[w.heap.size]? = some (.cells #[.slice ao fs.length cap] 27 (0, 0))) := blk_below D_w2.out (bb_wF)
      have A_wF : Hid (wF.heap[w.heap.size + 1]? = some (.cells #[.int .i64 2, .string nm, .string tx, .string tt] 103 (0, 0))) := blk_below A_w2.out (bb_wF)
      have R_wF : Hid (wF.heap[w.heap.size + 1 + 1]? = some (.cells #[.slice none 0 0] 27 (0, 0))) := blk_below R_w2.out (bb_wF)
      obtain ⟨b, off, rfl, hbw, hc0, hc1, hc2⟩ := filesAt_keep HF.out HB_wF.out j hj
      rw [HFj.out] at hc0 hc1 hc2
      have cD := box_of D_wF.out
      rw [hw_wF] at cD hc0 hc1 hc2
      clear HB_wF D_wF A_wF R_wF F_wF bb_wF
      obtain ⟨wG, hw_wG⟩ : ∃ wq, wq = w2.alloc (.cells #[.string F.name, .string F.text, .int .i64 F.kept] 74) := ⟨_, rfl⟩
      have bb_wG : Below w2.heap.size w2 wG := by rw [hw_wG]; exact (Below.refl _ _).alloc (Nat.le_refl _) _
      have hz_wG : w2.heap.size + 1 ≤ wG.heap.size := by rw [hw_wG]; simp
      have F_wG : Hid (wG.heap[w2.heap.size]? = some (.cells #[.string F.name, .string F.text, .int .i64 F.kept] 74 (0, 0))) := by rw [hw_wG]; exact heap_alloc_new _ _
      have hs_wG : w2.heap.size ≤ wG.heap.size := (bb_wG).size
      have HB_wG : Hid (Below w.heap.size w wG) := HB_w2.out.trans ((bb_wG).mono HB_w2.out.size)
      have D_wG : Hid (wG.heap[w.heap.size]? = some (.cells #[.slice (some ⟨b, off, none⟩) fs.length cap] 27 (0, 0))) := blk_below D_w2.out (bb_wG)
      have A_wG : Hid (wG.heap[w.heap.size + 1]? = some (.cells #[.int .i64 2, .string nm, .string tx, .string tt] 103 (0, 0))) := blk_below A_w2.out (bb_wG)
      have R_wG : Hid (wG.heap[w.heap.size + 1 + 1]? = some (.cells #[.slice none 0 0] 27 (0, 0))) := blk_below R_w2.out (bb_wG)
      have hwGs : wG.heap.size = w2.heap.size + 1 := by rw [hw_wG]; simp
      obtain ⟨wO, hw_wO⟩ : ∃ wq, wq = wG.alloc (.cells #[.slice none 0 0] 27) := ⟨_, rfl⟩
      have bb_wO : Below wG.heap.size wG wO := by rw [hw_wO]; exact (Below.refl _ _).alloc (Nat.le_refl _) _
      have hz_wO : wG.heap.size + 1 ≤ wO.heap.size := by rw [hw_wO]; simp
      have O_wO : Hid (wO.heap[w2.heap.size + 1]? = some (.cells #[.slice none 0 0] 27 (0, 0))) := by rw [hw_wO, ← hwGs]; exact heap_alloc_new _ _
      have hs_wO : wG.heap.size ≤ wO.heap.size := (bb_wO).size
      have HB_wO : Hid (Below w.heap.size w wO) := HB_wG.out.trans ((bb_wO).mono HB_wG.out.size)
      have D_wO : Hid (wO.heap[w.heap.size]? = some (.cells #[.slice (some ⟨b, off, none⟩) fs.length cap] 27 (0, 0))) := blk_below D_wG.out (bb_wO)
      have A_wO : Hid (wO.heap[w.heap.size + 1]? = some (.cells #[.int .i64 2, .string nm, .string tx, .string tt] 103 (0, 0))) := blk_below A_wG.out (bb_wO)
      have R_wO : Hid (wO.heap[w.heap.size + 1 + 1]? = some (.cells #[.slice none 0 0] 27 (0, 0))) := blk_below R_wG.out (bb_wO)
      have F_wO : Hid (wO.heap[w2.heap.size]? = some (.cells #[.string F.name, .string F.text, .int .i64 F.kept] 74 (0, 0))) := blk_below F_wG.out (bb_wO)
      go_upto_region 9 with fail
      rw [← hw_wG, ← hw_wO]
      clear hw_wG hw_wO bb_wG bb_wO HB_wG D_wG A_wG R_wG F_wG
      clear cD hc0 hc1 hc2 ca0 ca1 ca2 ca3 hw_wF
      clear HB_w2 D_w2 A_w2 R_w2
      obtain ⟨ca0, ca1, ca2, ca3⟩ := act_cell A_wO.out
      obtain ⟨cf0, cf1, cf2⟩ := file_cell F_wO.out
      have zF2 := frozen_of_row wO (w2.heap.size) 2 _ _ F_wO.out
      obtain ⟨wT, hw_wT⟩ : ∃ wq, wq = wO.setCell ⟨w2.heap.size, 2, none⟩ (.int .i64 (F.text.size : Int)) := ⟨_, rfl⟩
      have hs_wT : wO.heap.size ≤ wT.heap.size := by rw [hw_wT]; simp [World.setCell]
      have HB_wT : Hid (Below w.heap.size w wT) := by rw [hw_wT]; exact HB_wO.out.setCell (p := ⟨w2.heap.size, 2, none⟩) (by show w.heap.size ≤ w2.heap.size; omega) _
      have D_wT : Hid (wT.heap[w.heap.size]? = some (.cells #[.slice (some ⟨b, off, none⟩) fs.length cap] 27 (0, 0))) := by rw [hw_wT, Below.heap_setCell _ _ _ _ (by first | (show (w.heap.size : Nat) ≠ w2.heap.size; omega) | (show (w2.heap.size : Nat) ≠ w.heap.size; omega))]; exact D_wO.out
      have A_wT : Hid (wT.heap[w.heap.size + 1]? = some (.cells #[.int .i64 2, .string nm, .string tx, .string tt] 103 (0, 0))) := by rw [hw_wT, Below.heap_setCell _ _ _ _ (by first | (show (w.heap.size + 1 : Nat) ≠ w2.heap.size; omega) | (show (w2.heap.size : Nat) ≠ w.heap.size + 1; omega))]; exact A_wO.out
      have R_wT : Hid (wT.heap[w.heap.size + 1 + 1]? = some (.cells #[.slice none 0 0] 27 (0, 0))) := by rw [hw_wT, Below.heap_setCell _ _ _ _ (by first | (show (w.heap.size + 1 + 1 : Nat) ≠ w2.heap.size; omega) | (show (w2.heap.size : Nat) ≠ w.heap.size + 1 + 1; omega))]; exact R_wO.out
      have F_wT : Hid (wT.heap[w2.heap.size]? = some (.cells #[.string F.name, .string F.text, .int .i64 (F.text.size : Int)] 74 (0, 0))) := by rw [hw_wT]; exact (heap_setCell_same _ _ _ _ _ _ F_wO.out).trans rfl
      have O_wT : Hid (wT.heap[w2.heap.size + 1]? = some (.cells #[.slice none 0 0] 27 (0, 0))) := by rw [hw_wT, Below.heap_setCell _ _ _ _ (by first | (show (w2.heap.size + 1 : Nat) ≠ w2.heap.size; omega) | (show (w2.heap.size : Nat) ≠ w2.heap.size + 1; omega))]; exact O_wO.out
      clear HB_wO D_wO A_wO R_wO F_wO O_wO
      go_upto_region 16 with fail
      rw [← hw_wT]
      clear hw_wT cf0 cf1 cf2 zF2 ca0 ca1 ca2 ca3
      have cD := box_of D_wT.out
      obtain ⟨cf0, cf1, cf2⟩ := file_cell F_wT.out
      go_wp2_with fail
      clear cD cf0 cf1 cf2
      refine (l03Put_any fs _ _ ⟨F.name, F.text, (F.text.size : Int)⟩ _ (by omega) (filesAt_keep HF.out HB_wT.out)).mono ?_
      rintro e w7 ⟨v7, rfl, hrow7, b_w7⟩
      obtain ⟨aP, cP, rfl, _⟩ := rowF_at hrow7
      have P_w7 := hide hrow7
      clear hrow7
      have hs_w7 : wT.heap.size ≤ w7.heap.size := (b_w7).size
      have HB_w7 : Hid (Below w.heap.size w w7) := HB_wT.out.trans ((b_w7).mono HB_wT.out.size)
      have D_w7 : Hid (w7.heap[w.heap.size]? = some (.cells #[.slice (some ⟨b, off, none⟩) fs.length cap] 27 (0, 0))) := blk_below D_wT.out (b_w7)
      have A_w7 : Hid (w7.heap[w.heap.size + 1]? = some (.cells #[.int .i64 2, .string nm, .string tx, .string tt] 103 (0, 0))) := blk_below A_wT.out (b_w7)
      have R_w7 : Hid (w7.heap[w.heap.size + 1 + 1]? = some (.cells #[.slice none 0 0] 27 (0, 0))) := blk_below R_wT.out (b_w7)
      have F_w7 : Hid (w7.heap[w2.heap.size]? = some (.cells #[.string F.name, .string F.text, .int .i64 (F.text.size : Int)] 74 (0, 0))) := blk_below F_wT.out (b_w7)
      have O_w7 : Hid (w7.heap[w2.heap.size + 1]? = some (.cells #[.slice none 0 0] 27 (0, 0))) := blk_below O_wT.out (b_w7)
      clear HB_wT D_wT A_wT R_wT F_wT O_wT b_w7
      have cO := box_of O_w7.out
      have zO0 := frozen_of_row w7 (w2.heap.size + 1) 0 _ _ O_w7.out
      obtain ⟨w8, hw_w8⟩ : ∃ wq, wq = w7.setCell ⟨w2.heap.size + 1, 0, none⟩ (.slice aP (putD fs ⟨F.name, F.text, (F.text.size : Int)⟩).length cP) := ⟨_, rfl⟩
      have hs_w8 : w7.heap.size ≤ w8.heap.size := by rw [hw_w8]; simp [World.setCell]
      have HB_w8 : Hid (Below w.heap.size w w8) := by rw [hw_w8]; exact HB_w7.out.setCell (p := ⟨w2.heap.size + 1, 0, none⟩) (by show w.heap.size ≤ w2.heap.size + 1; omega) _
      have D_w8 : Hid (w8.heap[w.heap.size]? = some (.cells #[.slice (some ⟨b, off, none⟩) fs.length cap] 27 (0, 0))) := by rw [hw_w8, Below.heap_setCell _ _ _ _ (by first | (show (w.heap.size : Nat) ≠ w2.heap.size + 1; omega) | (show (w2.heap.size + 1 : Nat) ≠ w.heap.size; omega))]; exact D_w7.out
      have A_w8 : Hid (w8.heap[w.heap.size + 1]? = some (.cells #[.int .i64 2, .string nm, .string tx, .string tt] 103 (0, 0))) := by rw [hw_w8, Below.heap_setCell _ _ _ _ (by first | (show (w.heap.size + 1 : Nat) ≠ w2.heap.size + 1; omega) | (show (w2.heap.size + 1 : Nat) ≠ w.heap.size + 1; omega))]; exact A_w7.out
      have R_w8 : Hid (w8.heap[w.heap.size + 1 + 1]? = some (.cells #[.slice none 0 0] 27 (0, 0))) := by rw [hw_w8, Below.heap_setCell _ _ _ _ (by first | (show (w.heap.size + 1 + 1 : Nat) ≠ w2.heap.size + 1; omega) | (show (w2.heap.size + 1 : Nat) ≠ w.heap.size + 1 + 1; omega))]; exact R_w7.out
      have F_w8 : Hid (w8.heap[w2.heap.size]? = some (.cells #[.string F.name, .string F.text, .int .i64 (F.text.size : Int)] 74 (0, 0))) := by rw [hw_w8, Below.heap_setCell _ _ _ _ (by first | (show (w2.heap.size : Nat) ≠ w2.heap.size + 1; omega) | (show (w2.heap.size + 1 : Nat) ≠ w2.heap.size; omega))]; exact F_w7.out
      have O_w8 : Hid (w8.heap[w2.heap.size + 1]? = some (.cells #[.slice aP (putD fs ⟨F.name, F.text, (F.text.size : Int)⟩).length cP] 27 (0, 0))) := by rw [hw_w8]; exact (heap_setCell_same _ _ _ _ _ _ O_w7.out).trans rfl
      have P_w8 : Hid (RowF w8 wT.heap.size (.slice aP (putD fs ⟨F.name, F.text, (F.text.size : Int)⟩).length cP) (putD fs ⟨F.name, F.text, (F.text.size : Int)⟩)) := by rw [hw_w8]; exact rowF_grown P_w7.out (grownBy_store (World.grownBy.refl _ _) 0 _) (fun g hg e => by have h1 := (rowF_lt P_w7.out g hg).1; cases e; omega)
      clear HB_w7 D_w7 A_w7 R_w7 F_w7 O_w7 P_w7
      go_upto_region 24 with fail
      rw [← hw_w8]
      clear hw_w8 cO zO0
      have hRl : (putD fs ⟨F.name, F.text, (F.text.size : Int)⟩).length ≤ 1048576 := by have := len_putD_le fs ⟨F.name, F.text, (F.text.size : Int)⟩; omega
      have HRs : Hid (∀ G ∈ putD fs ⟨F.name, F.text, (F.text.size : Int)⟩, G.name.size ≤ maxLen ∧ G.text.size ≤ maxLen) := put_sizes (fun G hG => ⟨small_max (HS.out G hG).1, small_max (HS.out G hG).2⟩) (by show _ ≤ _; exact small_max hF1) (by show _ ≤ _; exact small_max hF2)
      have cO := box_of O_w8.out
      have hraw : rawD fs ⟨2, nm, tx, tt⟩ = some (putD fs ⟨F.name, F.text, (F.text.size : Int)⟩) := by simp [rawD, actF, hfd']
      go_wp2_with fail
      clear cO
      refine (specDiskOk_any (putD fs ⟨F.name, F.text, (F.text.size : Int)⟩) _ _ _ hRl (rowF_files P_w8.out) HRs.out).mono ?_
      rintro e w9 ⟨rfl, b_w9⟩
      have hs_w9 : w8.heap.size ≤ w9.heap.size := (b_w9).size
      have HB_w9 : Hid (Below w.heap.size w w9) := HB_w8.out.trans ((b_w9).mono HB_w8.out.size)
      have D_w9 : Hid (w9.heap[w.heap.size]? = some (.cells #[.slice (some ⟨b, off, none⟩) fs.length cap] 27 (0, 0))) := blk_below D_w8.out (b_w9)
      have A_w9 : Hid (w9.heap[w.heap.size + 1]? = some (.cells #[.int .i64 2, .string nm, .string tx, .string tt] 103 (0, 0))) := blk_below A_w8.out (b_w9)
      have R_w9 : Hid (w9.heap[w.heap.size + 1 + 1]? = some (.cells #[.slice none 0 0] 27 (0, 0))) := blk_below R_w8.out (b_w9)
      have F_w9 : Hid (w9.heap[w2.heap.size]? = some (.cells #[.string F.name, .string F.text, .int .i64 (F.text.size : Int)] 74 (0, 0))) := blk_below F_w8.out (b_w9)
      have O_w9 : Hid (w9.heap[w2.heap.size + 1]? = some (.cells #[.slice aP (putD fs ⟨F.name, F.text, (F.text.size : Int)⟩).length cP] 27 (0, 0))) := blk_below O_w8.out (b_w9)
      have P_w9 : Hid (RowF w9 wT.heap.size (.slice aP (putD fs ⟨F.name, F.text, (F.text.size : Int)⟩).length cP) (putD fs ⟨F.name, F.text, (F.text.size : Int)⟩)) := rowF_below P_w8.out (b_w9)
      clear HB_w8 D_w8 A_w8 R_w8 F_w8 O_w8 P_w8 b_w9
      cases hdk : diskOkD (putD fs ⟨F.name, F.text, (F.text.size : Int)⟩)
      · skip
        have cR := box_of R_w9.out
        have zR0 := frozen_of_row w9 (w.heap.size + 1 + 1) 0 _ _ R_w9.out
        have HNO : Hid (actD fs ⟨2, nm, tx, tt⟩ = none) := actD_bad hact hraw hdk
        go_wp2
        refine bodyPost_ret (v := .tuple #[.agg #[.slice none 0 0], .bool false]) (by simp [results, Tryz.results154, go_sem, cR]) rfl ⟨.slice none 0 0, by rw [HNO.out]; rfl, .inl ⟨rfl, by rw [HNO.out]; rfl⟩, ?_⟩
        exact HB_w9.out.setCell (p := ⟨w.heap.size + 1 + 1, 0, none⟩) (by show w.heap.size ≤ w.heap.size + 1 + 1; omega) _
      · skip
        have cO := box_of O_w9.out
        have cR := box_of R_w9.out
        have zR0 := frozen_of_row w9 (w.heap.size + 1 + 1) 0 _ _ R_w9.out
        have HYES : Hid (actD fs ⟨2, nm, tx, tt⟩ = some (putD fs ⟨F.name, F.text, (F.text.size : Int)⟩)) := actD_yes hact hraw hdk
        go_wp2_with fail
        refine bodyPost_ret (v := .tuple #[.agg #[.slice aP (putD fs ⟨F.name, F.text, (F.text.size : Int)⟩).length cP], .bool true]) (by simp [results, Tryz.results154, go_sem, cR]) rfl ⟨.slice aP (putD fs ⟨F.name, F.text, (F.text.size : Int)⟩).length cP, by rw [HYES.out]; rfl, ?_, HB_w9.out.setCell (p := ⟨w.heap.size + 1 + 1, 0, none⟩) (by show w.heap.size ≤ w.heap.size + 1 + 1; omega) _⟩
        rw [HYES.out]
        exact rowF_le (rowF_grown P_w9.out (grownBy_store (World.grownBy.refl _ _) 0 _) (fun g hg e => by have h1 := (rowF_lt P_w9.out g hg).1; cases e; omega)) (by omega)
  by_cases k4 : kd = 4
  · skip
    subst k4
    have cD := box_of D_w1.out
    go_wp2_with fail
    clear cD ca0 ca1 ca2 ca3
    refine (l03At_any fs _ _ nm _ hl (filesAt_keep HF.out HB_w1.out)).mono ?_
    rintro e w2 ⟨rfl, b_w2⟩
    have hs_w2 : w1.heap.size ≤ w2.heap.size := (b_w2).size
    have HB_w2 : Hid (Below w.heap.size w w2) := HB_w1.out.trans ((b_w2).mono HB_w1.out.size)
    have D_w2 : Hid (w2.heap[w.heap.size]? = some (.cells #[.slice ao fs.length cap] 27 (0, 0))) := blk_below D_w1.out (b_w2)
    have A_w2 : Hid (w2.heap[w.heap.size + 1]? = some (.cells #[.int .i64 4, .string nm, .string tx, .string tt] 103 (0, 0))) := blk_below A_w1.out (b_w2)
    have R_w2 : Hid (w2.heap[w.heap.size + 1 + 1]? = some (.cells #[.slice none 0 0] 27 (0, 0))) := blk_below R_w1.out (b_w2)
    clear HB_w1 D_w1 A_w1 R_w1 b_w2
    rcases at_cases nm fs 0 with ⟨hat, hno⟩ | ⟨j, hj, hat, hnm, hfd⟩
    · skip
      have hfn : fileD fs nm = none := List.find?_eq_none.2 (fun F hF => by rw [hno F hF]; decide)
      rw [hat]
      have hd : decide ((-1 : Int) < 0) = true := by decide
      have hd2 : decide ((0 : Int) ≤ -1) = false := by decide
      obtain ⟨ca0, ca1, ca2, ca3⟩ := act_cell A_w2.out
      obtain ⟨wF, hw_wF⟩ : ∃ wq, wq = w2.alloc (.cells #[.string nm, .string ⟨#[]⟩, .int .i64 0] 74) := ⟨_, rfl⟩
      have bb_wF : Below w2.heap.size w2 wF := by rw [hw_wF]; exact (Below.refl _ _).alloc (Nat.le_refl _) _
      have hz_wF : w2.heap.size + 1 ≤ wF.heap.size := by rw [hw_wF]; simp
      have F_wF : Hid (wF.heap[w2.heap.size]? = some (.cells #[.string nm, .string ⟨#[]⟩, .int .i64 0] 74 (0, 0))) := by rw [hw_wF]; exact heap_alloc_new _ _
      have hs_wF : w2.heap.size ≤ wF.heap.size := (bb_wF).size
      have HB_wF : Hid (Below w.heap.size w wF) := HB_w2.out.trans ((bb_wF).mono HB_w2.out.size)
      have D_wF : Hid (wF.heap[w.heap.size]? = some (.cells #[.slice ao fs.length cap] 27 (0, 0))) := blk_below D_w2.out (bb_wF)
      have A_wF : Hid (wF.heap[w.heap.size + 1]? = some (.cells #[.int .i64 4, .string nm, .string tx, .string tt] 103 (0, 0))) := blk_below A_w2.out (bb_wF)
      have R_wF : Hid (wF.heap[w.heap.size + 1 + 1]? = some (.cells #[.slice none 0 0] 27 (0, 0))) := blk_below R_w2.out (bb_wF)
      obtain ⟨wO, hw_wO⟩ : ∃ wq, wq = wF.alloc (.cells #[.slice none 0 0] 27) := ⟨_, rfl⟩
      have bb_wO : Below wF.heap.size wF wO := by rw [hw_wO]; exact (Below.refl _ _).alloc (Nat.le_refl _) _
      have hz_wO : wF.heap.size + 1 ≤ wO.heap.size := by rw [hw_wO]; simp
      have O_wO : Hid (wO.heap[wF.heap.size]? = some (.cells #[.slice none 0 0] 27 (0, 0))) := by rw [hw_wO]; exact heap_alloc_new _ _
      have hs_wO : wF.heap.size ≤ wO.heap.size := (bb_wO).size
      have HB_wO : Hid (Below w.heap.size w wO) := HB_wF.out.trans ((bb_wO).mono HB_wF.out.size)
      have D_wO : Hid (wO.heap[w.heap.size]? = some (.cells #[.slice ao fs.length cap] 27 (0, 0))) := blk_below D_wF.out (bb_wO)
      have A_wO : Hid (wO.heap[w.heap.size + 1]? = some (.cells #[.int .i64 4, .string nm, .string tx, .string tt] 103 (0, 0))) := blk_below A_wF.out (bb_wO)
      have R_wO : Hid (wO.heap[w.heap.size + 1 + 1]? = some (.cells #[.slice none 0 0] 27 (0, 0))) := blk_below R_wF.out (bb_wO)
      have F_wO : Hid (wO.heap[w2.heap.size]? = some (.cells #[.string nm, .string ⟨#[]⟩, .int .i64 0] 74 (0, 0))) := blk_below F_wF.out (bb_wO)
      have qa0 := (act_cell A_wO.out).1
      rw [hw_wO, hw_wF] at qa0
      have cR := box_of R_wO.out
      have zR0 := frozen_of_row wO (w.heap.size + 1 + 1) 0 _ _ R_wO.out
      rw [hw_wO, hw_wF] at cR zR0
      have HNO : Hid (actD fs ⟨4, nm, tx, tt⟩ = none) := actD_raw hact (by simp [rawD, hfn])
      go_wp2
      refine bodyPost_ret (v := .tuple #[.agg #[.slice none 0 0], .bool false]) (by simp [results, Tryz.results154, go_sem, cR]) rfl ⟨.slice none 0 0, by rw [HNO.out]; rfl, .inl ⟨rfl, by rw [HNO.out]; rfl⟩, ?_⟩
      rw [← hw_wF, ← hw_wO]
      exact HB_wO.out.setCell (p := ⟨w.heap.size + 1 + 1, 0, none⟩) (by show w.heap.size ≤ w.heap.size + 1 + 1; omega) _
    · skip
      rw [hat, Nat.zero_add]
      have hd : decide ((j : Int) < 0) = false := by simp
      have hd2 : decide ((0 : Int) ≤ (j : Int)) = true := by simp
      have hd3 : ((0 : Int) ≤ (j : Int)) := by omega
      have hd4 : (j : Int) < (fs.length : Int) := by omega
      have hFm := List.getElem_mem hj
      obtain ⟨F, HFj⟩ : ∃ F, Hid (fs[j] = F) := ⟨fs[j], hide rfl⟩
      rw [HFj.out] at hnm hfd hFm
      have hfd' : fileD fs nm = some F := hfd
      obtain ⟨hF1, hF2⟩ := HS.out F hFm
      obtain ⟨ca0, ca1, ca2, ca3⟩ := act_cell A_w2.out
      obtain ⟨wF, hw_wF⟩ : ∃ wq, wq = w2.alloc (.cells #[.string nm, .string ⟨#[]⟩, .int .i64 0] 74) := ⟨_, rfl⟩
      have bb_wF : Below w2.heap.size w2 wF := by rw [hw_wF]; exact (Below.refl _ _).alloc (Nat.le_refl _) _
      have hz_wF : w2.heap.size + 1 ≤ wF.heap.size := by rw [hw_wF]; simp
      have F_wF : Hid (wF.heap[w2.heap.size]? = some (.cells #[.string nm, .string ⟨#[]⟩, .int .i64 0] 74 (0, 0))) := by rw [hw_wF]; exact heap_alloc_new _ _
      have hs_wF : w2.heap.size ≤ wF.heap.size := (bb_wF).size
      have HB_wF : Hid (Below w.heap.size w wF) := HB_w2.out.trans ((bb_wF).mono HB_w2.out.size)
      have D_wF : Hid (wF.heap[w.heap.size]? = some (.cells #[.slice ao fs.length cap] 27 (0, 0))) := blk_below D_w2.out (bb_wF)
      have A_wF : Hid (wF.heap[w.heap.size + 1]? = some (.cells #[.int .i64 4, .string nm, .string tx, .string tt] 103 (0, 0))) := blk_below A_w2.out (bb_wF)
      have R_wF : Hid (wF.heap[w.heap.size + 1 + 1]? = some (.cells #[.slice none 0 0] 27 (0, 0))) := blk_below R_w2.out (bb_wF)
      obtain ⟨b, off, rfl, hbw, hc0, hc1, hc2⟩ := filesAt_keep HF.out HB_wF.out j hj
      rw [HFj.out] at hc0 hc1 hc2
      have cD := box_of D_wF.out
      rw [hw_wF] at cD hc0 hc1 hc2
      clear HB_wF D_wF A_wF R_wF F_wF bb_wF
      obtain ⟨wG, hw_wG⟩ : ∃ wq, wq = w2.alloc (.cells #[.string F.name, .string F.text, .int .i64 F.kept] 74) := ⟨_, rfl⟩
      have bb_wG : Below w2.heap.size w2 wG := by rw [hw_wG]; exact (Below.refl _ _).alloc (Nat.le_refl _) _
      have hz_wG : w2.heap.size + 1 ≤ wG.heap.size := by rw [hw_wG]; simp
      have F_wG : Hid (wG.heap[w2.heap.size]? = some (.cells #[.string F.name, .string F.text, .int .i64 F.kept] 74 (0, 0))) := by rw [hw_wG]; exact heap_alloc_new _ _
      have hs_wG : w2.heap.size ≤ wG.heap.size := (bb_wG).size
      have HB_wG : Hid (Below w.heap.size w wG) := HB_w2.out.trans ((bb_wG).mono HB_w2.out.size)
      have D_wG : Hid (wG.heap[w.heap.size]? = some (.cells #[.slice (some ⟨b, off, none⟩) fs.length cap] 27 (0, 0))) := blk_below D_w2.out (bb_wG)
      have A_wG : Hid (wG.heap[w.heap.size + 1]? = some (.cells #[.int .i64 4, .string nm, .string tx, .string tt] 103 (0, 0))) := blk_below A_w2.out (bb_wG)
      have R_wG : Hid (wG.heap[w.heap.size + 1 + 1]? = some (.cells #[.slice none 0 0] 27 (0, 0))) := blk_below R_w2.out (bb_wG)
      have hwGs : wG.heap.size = w2.heap.size + 1 := by rw [hw_wG]; simp
      obtain ⟨wO, hw_wO⟩ : ∃ wq, wq = wG.alloc (.cells #[.slice none 0 0] 27) := ⟨_, rfl⟩
      have bb_wO : Below wG.heap.size wG wO := by rw [hw_wO]; exact (Below.refl _ _).alloc (Nat.le_refl _) _
      have hz_wO : wG.heap.size + 1 ≤ wO.heap.size := by rw [hw_wO]; simp
      have O_wO : Hid (wO.heap[w2.heap.size + 1]? = some (.cells #[.slice none 0 0] 27 (0, 0))) := by rw [hw_wO, ← hwGs]; exact heap_alloc_new _ _
      have hs_wO : wG.heap.size ≤ wO.heap.size := (bb_wO).size
      have HB_wO : Hid (Below w.heap.size w wO) := HB_wG.out.trans ((bb_wO).mono HB_wG.out.size)
      have D_wO : Hid (wO.heap[w.heap.size]? = some (.cells #[.slice (some ⟨b, off, none⟩) fs.length cap] 27 (0, 0))) := blk_below D_wG.out (bb_wO)
      have A_wO : Hid (wO.heap[w.heap.size + 1]? = some (.cells #[.int .i64 4, .string nm, .string tx, .string tt] 103 (0, 0))) := blk_below A_wG.out (bb_wO)
      have R_wO : Hid (wO.heap[w.heap.size + 1 + 1]? = some (.cells #[.slice none 0 0] 27 (0, 0))) := blk_below R_wG.out (bb_wO)
      have F_wO : Hid (wO.heap[w2.heap.size]? = some (.cells #[.string F.name, .string F.text, .int .i64 F.kept] 74 (0, 0))) := blk_below F_wG.out (bb_wO)
      go_upto_region 9 with fail
      rw [← hw_wG, ← hw_wO]
      clear hw_wG hw_wO bb_wG bb_wO HB_wG D_wG A_wG R_wG F_wG
      clear cD hc0 hc1 hc2 ca0 ca1 ca2 ca3 hw_wF
      clear HB_w2 D_w2 A_w2 R_w2
      obtain ⟨ca0, ca1, ca2, ca3⟩ := act_cell A_wO.out
      have cD := box_of D_wO.out
      go_wp2_with fail
      clear cD ca0 ca1 ca2 ca3
      refine (l03Without_any fs _ _ nm _ (by omega) (filesAt_keep HF.out HB_wO.out)).mono ?_
      rintro e w7 ⟨v7, rfl, hrow7, b_w7⟩
      obtain ⟨aP, cP, rfl, _⟩ := rowF_at hrow7
      have P_w7 := hide hrow7
      clear hrow7
      have hs_w7 : wO.heap.size ≤ w7.heap.size := (b_w7).size
      have HB_w7 : Hid (Below w.heap.size w w7) := HB_wO.out.trans ((b_w7).mono HB_wO.out.size)
      have D_w7 : Hid (w7.heap[w.heap.size]? = some (.cells #[.slice (some ⟨b, off, none⟩) fs.length cap] 27 (0, 0))) := blk_below D_wO.out (b_w7)
      have A_w7 : Hid (w7.heap[w.heap.size + 1]? = some (.cells #[.int .i64 4, .string nm, .string tx, .string tt] 103 (0, 0))) := blk_below A_wO.out (b_w7)
      have R_w7 : Hid (w7.heap[w.heap.size + 1 + 1]? = some (.cells #[.slice none 0 0] 27 (0, 0))) := blk_below R_wO.out (b_w7)
      have F_w7 : Hid (w7.heap[w2.heap.size]? = some (.cells #[.string F.name, .string F.text, .int .i64 F.kept] 74 (0, 0))) := blk_below F_wO.out (b_w7)
      have O_w7 : Hid (w7.heap[w2.heap.size + 1]? = some (.cells #[.slice none 0 0] 27 (0, 0))) := blk_below O_wO.out (b_w7)
      clear HB_wO D_wO A_wO R_wO F_wO O_wO b_w7
      have cO := box_of O_w7.out
      have zO0 := frozen_of_row w7 (w2.heap.size + 1) 0 _ _ O_w7.out
      obtain ⟨w8, hw_w8⟩ : ∃ wq, wq = w7.setCell ⟨w2.heap.size + 1, 0, none⟩ (.slice aP (withoutD fs nm).length cP) := ⟨_, rfl⟩
      have hs_w8 : w7.heap.size ≤ w8.heap.size := by rw [hw_w8]; simp [World.setCell]
      have HB_w8 : Hid (Below w.heap.size w w8) := by rw [hw_w8]; exact HB_w7.out.setCell (p := ⟨w2.heap.size + 1, 0, none⟩) (by show w.heap.size ≤ w2.heap.size + 1; omega) _
      have D_w8 : Hid (w8.heap[w.heap.size]? = some (.cells #[.slice (some ⟨b, off, none⟩) fs.length cap] 27 (0, 0))) := by rw [hw_w8, Below.heap_setCell _ _ _ _ (by first | (show (w.heap.size : Nat) ≠ w2.heap.size + 1; omega) | (show (w2.heap.size + 1 : Nat) ≠ w.heap.size; omega))]; exact D_w7.out
      have A_w8 : Hid (w8.heap[w.heap.size + 1]? = some (.cells #[.int .i64 4, .string nm, .string tx, .string tt] 103 (0, 0))) := by rw [hw_w8, Below.heap_setCell _ _ _ _ (by first | (show (w.heap.size + 1 : Nat) ≠ w2.heap.size + 1; omega) | (show (w2.heap.size + 1 : Nat) ≠ w.heap.size + 1; omega))]; exact A_w7.out
      have R_w8 : Hid (w8.heap[w.heap.size + 1 + 1]? = some (.cells #[.slice none 0 0] 27 (0, 0))) := by rw [hw_w8, Below.heap_setCell _ _ _ _ (by first | (show (w.heap.size + 1 + 1 : Nat) ≠ w2.heap.size + 1; omega) | (show (w2.heap.size + 1 : Nat) ≠ w.heap.size + 1 + 1; omega))]; exact R_w7.out
      have F_w8 : Hid (w8.heap[w2.heap.size]? = some (.cells #[.string F.name, .string F.text, .int .i64 F.kept] 74 (0, 0))) := by rw [hw_w8, Below.heap_setCell _ _ _ _ (by first | (show (w2.heap.size : Nat) ≠ w2.heap.size + 1; omega) | (show (w2.heap.size + 1 : Nat) ≠ w2.heap.size; omega))]; exact F_w7.out
      have O_w8 : Hid (w8.heap[w2.heap.size + 1]? = some (.cells #[.slice aP (withoutD fs nm).length cP] 27 (0, 0))) := by rw [hw_w8]; exact (heap_setCell_same _ _ _ _ _ _ O_w7.out).trans rfl
      have P_w8 : Hid (RowF w8 wO.heap.size (.slice aP (withoutD fs nm).length cP) (withoutD fs nm)) := by rw [hw_w8]; exact rowF_grown P_w7.out (grownBy_store (World.grownBy.refl _ _) 0 _) (fun g hg e => by have h1 := (rowF_lt P_w7.out g hg).1; cases e; omega)
      clear HB_w7 D_w7 A_w7 R_w7 F_w7 O_w7 P_w7
      go_upto_region 24 with fail
      rw [← hw_w8]
      clear hw_w8 cO zO0
      have hRl : (withoutD fs nm).length ≤ 1048576 := by have h2 := List.length_filter_le (otherF nm) fs; simp only [withoutD]; omega
      have HRs : Hid (∀ G ∈ withoutD fs nm, G.name.size ≤ maxLen ∧ G.text.size ≤ maxLen) := fun G hG => ⟨small_max (HS.out G ((List.mem_filter.1 hG).1)).1, small_max (HS.out G ((List.mem_filter.1 hG).1)).2⟩
      have cO := box_of O_w8.out
      have hraw : rawD fs ⟨4, nm, tx, tt⟩ = some (withoutD fs nm) := by simp [rawD, hfd']
      go_wp2_with fail
      clear cO
      refine (specDiskOk_any (withoutD fs nm) _ _ _ hRl (rowF_files P_w8.out) HRs.out).mono ?_
      rintro e w9 ⟨rfl, b_w9⟩
      have hs_w9 : w8.heap.size ≤ w9.heap.size := (b_w9).size
      have HB_w9 : Hid (Below w.heap.size w w9) := HB_w8.out.trans ((b_w9).mono HB_w8.out.size)
      have D_w9 : Hid (w9.heap[w.heap.size]? = some (.cells #[.slice (some ⟨b, off, none⟩) fs.length cap] 27 (0, 0))) := blk_below D_w8.out (b_w9)
      have A_w9 : Hid (w9.heap[w.heap.size + 1]? = some (.cells #[.int .i64 4, .string nm, .string tx, .string tt] 103 (0, 0))) := blk_below A_w8.out (b_w9)
      have R_w9 : Hid (w9.heap[w.heap.size + 1 + 1]? = some (.cells #[.slice none 0 0] 27 (0, 0))) := blk_below R_w8.out (b_w9)
      have F_w9 : Hid (w9.heap[w2.heap.size]? = some (.cells #[.string F.name, .string F.text, .int .i64 F.kept] 74 (0, 0))) := blk_below F_w8.out (b_w9)
      have O_w9 : Hid (w9.heap[w2.heap.size + 1]? = some (.cells #[.slice aP (withoutD fs nm).length cP] 27 (0, 0))) := blk_below O_w8.out (b_w9)
      have P_w9 : Hid (RowF w9 wO.heap.size (.slice aP (withoutD fs nm).length cP) (withoutD fs nm)) := rowF_below P_w8.out (b_w9)
      clear HB_w8 D_w8 A_w8 R_w8 F_w8 O_w8 P_w8 b_w9
      cases hdk : diskOkD (withoutD fs nm)
      · skip
        have cR := box_of R_w9.out
        have zR0 := frozen_of_row w9 (w.heap.size + 1 + 1) 0 _ _ R_w9.out
        have HNO : Hid (actD fs ⟨4, nm, tx, tt⟩ = none) := actD_bad hact hraw hdk
        go_wp2
        refine bodyPost_ret (v := .tuple #[.agg #[.slice none 0 0], .bool false]) (by simp [results, Tryz.results154, go_sem, cR]) rfl ⟨.slice none 0 0, by rw [HNO.out]; rfl, .inl ⟨rfl, by rw [HNO.out]; rfl⟩, ?_⟩
        exact HB_w9.out.setCell (p := ⟨w.heap.size + 1 + 1, 0, none⟩) (by show w.heap.size ≤ w.heap.size + 1 + 1; omega) _
      · skip
        have cO := box_of O_w9.out
        have cR := box_of R_w9.out
        have zR0 := frozen_of_row w9 (w.heap.size + 1 + 1) 0 _ _ R_w9.out
        have HYES : Hid (actD fs ⟨4, nm, tx, tt⟩ = some (withoutD fs nm)) := actD_yes hact hraw hdk
        go_wp2_with fail
        refine bodyPost_ret (v := .tuple #[.agg #[.slice aP (withoutD fs nm).length cP], .bool true]) (by simp [results, Tryz.results154, go_sem, cR]) rfl ⟨.slice aP (withoutD fs nm).length cP, by rw [HYES.out]; rfl, ?_, HB_w9.out.setCell (p := ⟨w.heap.size + 1 + 1, 0, none⟩) (by show w.heap.size ≤ w.heap.size + 1 + 1; omega) _⟩
        rw [HYES.out]
        exact rowF_le (rowF_grown P_w9.out (grownBy_store (World.grownBy.refl _ _) 0 _) (fun g hg e => by have h1 := (rowF_lt P_w9.out g hg).1; cases e; omega)) (by omega)
  have cD := box_of D_w1.out
  go_wp2_with fail
  clear cD ca0 ca1 ca2 ca3
  refine (l03At_any fs _ _ nm _ hl (filesAt_keep HF.out HB_w1.out)).mono ?_
  rintro e w2 ⟨rfl, b_w2⟩
  have hs_w2 : w1.heap.size ≤ w2.heap.size := (b_w2).size
  have HB_w2 : Hid (Below w.heap.size w w2) := HB_w1.out.trans ((b_w2).mono HB_w1.out.size)
  have D_w2 : Hid (w2.heap[w.heap.size]? = some (.cells #[.slice ao fs.length cap] 27 (0, 0))) := blk_below D_w1.out (b_w2)
  have A_w2 : Hid (w2.heap[w.heap.size + 1]? = some (.cells #[.int .i64 kd, .string nm, .string tx, .string tt] 103 (0, 0))) := blk_below A_w1.out (b_w2)
  have R_w2 : Hid (w2.heap[w.heap.size + 1 + 1]? = some (.cells #[.slice none 0 0] 27 (0, 0))) := blk_below R_w1.out (b_w2)
  clear HB_w1 D_w1 A_w1 R_w1 b_w2
  rcases at_cases nm fs 0 with ⟨hat, hno⟩ | ⟨j, hj, hat, hnm, hfd⟩
  · skip
    have hfn : fileD fs nm = none := List.find?_eq_none.2 (fun F hF => by rw [hno F hF]; decide)
    rw [hat]
    have hd : decide ((-1 : Int) < 0) = true := by decide
    have hd2 : decide ((0 : Int) ≤ -1) = false := by decide
    obtain ⟨ca0, ca1, ca2, ca3⟩ := act_cell A_w2.out
    obtain ⟨wF, hw_wF⟩ : ∃ wq, wq = w2.alloc (.cells #[.string nm, .string ⟨#[]⟩, .int .i64 0] 74) := ⟨_, rfl⟩
    have bb_wF : Below w2.heap.size w2 wF := by rw [hw_wF]; exact (Below.refl _ _).alloc (Nat.le_refl _) _
    have hz_wF : w2.heap.size + 1 ≤ wF.heap.size := by rw [hw_wF]; simp
    have F_wF : Hid (wF.heap[w2.heap.size]? = some (.cells #[.string nm, .string ⟨#[]⟩, .int .i64 0] 74 (0, 0))) := by rw [hw_wF]; exact heap_alloc_new _ _
    have hs_wF : w2.heap.size ≤ wF.heap.size := (bb_wF).size
    have HB_wF : Hid (Below w.heap.size w wF) := HB_w2.out.trans ((bb_wF).mono HB_w2.out.size)
    have D_wF : Hid (wF.heap[w.heap.size]? = some (.cells #[.slice ao fs.length cap] 27 (0, 0))) := blk_below D_w2.out (bb_wF)
    have A_wF : Hid (wF.heap[w.heap.size + 1]? = some (.cells #[.int .i64 kd, .string nm, .string tx, .string tt] 103 (0, 0))) := blk_below A_w2.out (bb_wF)
    have R_wF : Hid (wF.heap[w.heap.size + 1 + 1]? = some (.cells #[.slice none 0 0] 27 (0, 0))) := blk_below R_w2.out (bb_wF)
    obtain ⟨wO, hw_wO⟩ : ∃ wq, wq = wF.alloc (.cells #[.slice none 0 0] 27) := ⟨_, rfl⟩
    have bb_wO : Below wF.heap.size wF wO := by rw [hw_wO]; exact (Below.refl _ _).alloc (Nat.le_refl _) _
    have hz_wO : wF.heap.size + 1 ≤ wO.heap.size := by rw [hw_wO]; simp
    have O_wO : Hid (wO.heap[wF.heap.size]? = some (.cells #[.slice none 0 0] 27 (0, 0))) := by rw [hw_wO]; exact heap_alloc_new _ _
    have hs_wO : wF.heap.size ≤ wO.heap.size := (bb_wO).size
    have HB_wO : Hid (Below w.heap.size w wO) := HB_wF.out.trans ((bb_wO).mono HB_wF.out.size)
    have D_wO : Hid (wO.heap[w.heap.size]? = some (.cells #[.slice ao fs.length cap] 27 (0, 0))) := blk_below D_wF.out (bb_wO)
    have A_wO : Hid (wO.heap[w.heap.size + 1]? = some (.cells #[.int .i64 kd, .string nm, .string tx, .string tt] 103 (0, 0))) := blk_below A_wF.out (bb_wO)
    have R_wO : Hid (wO.heap[w.heap.size + 1 + 1]? = some (.cells #[.slice none 0 0] 27 (0, 0))) := blk_below R_wF.out (bb_wO)
    have F_wO : Hid (wO.heap[w2.heap.size]? = some (.cells #[.string nm, .string ⟨#[]⟩, .int .i64 0] 74 (0, 0))) := blk_below F_wF.out (bb_wO)
    have qa0 := (act_cell A_wO.out).1
    rw [hw_wO, hw_wF] at qa0
    have cR := box_of R_wO.out
    have zR0 := frozen_of_row wO (w.heap.size + 1 + 1) 0 _ _ R_wO.out
    rw [hw_wO, hw_wF] at cR zR0
    have HNO : Hid (actD fs ⟨kd, nm, tx, tt⟩ = none) := actD_raw hact (by simp [rawD, hfn, k1])
    go_wp2
    refine bodyPost_ret (v := .tuple #[.agg #[.slice none 0 0], .bool false]) (by simp [results, Tryz.results154, go_sem, cR]) rfl ⟨.slice none 0 0, by rw [HNO.out]; rfl, .inl ⟨rfl, by rw [HNO.out]; rfl⟩, ?_⟩
    rw [← hw_wF, ← hw_wO]
    exact HB_wO.out.setCell (p := ⟨w.heap.size + 1 + 1, 0, none⟩) (by show w.heap.size ≤ w.heap.size + 1 + 1; omega) _
  · skip
    rw [hat, Nat.zero_add]
    have hd : decide ((j : Int) < 0) = false := by simp
    have hd2 : decide ((0 : Int) ≤ (j : Int)) = true := by simp
    have hd3 : ((0 : Int) ≤ (j : Int)) := by omega
    have hd4 : (j : Int) < (fs.length : Int) := by omega
    have hFm := List.getElem_mem hj
    obtain ⟨F, HFj⟩ : ∃ F, Hid (fs[j] = F) := ⟨fs[j], hide rfl⟩
    rw [HFj.out] at hnm hfd hFm
    have hfd' : fileD fs nm = some F := hfd
    obtain ⟨hF1, hF2⟩ := HS.out F hFm
    obtain ⟨ca0, ca1, ca2, ca3⟩ := act_cell A_w2.out
    obtain ⟨wF, hw_wF⟩ : ∃ wq, wq = w2.alloc (.cells #[.string nm, .string ⟨#[]⟩, .int .i64 0] 74) := ⟨_, rfl⟩
    have bb_wF : Below w2.heap.size w2 wF := by rw [hw_wF]; exact (Below.refl _ _).alloc (Nat.le_refl _) _
    have hz_wF : w2.heap.size + 1 ≤ wF.heap.size := by rw [hw_wF]; simp
    have F_wF : Hid (wF.heap[w2.heap.size]? = some (.cells #[.string nm, .string ⟨#[]⟩, .int .i64 0] 74 (0, 0))) := by rw [hw_wF]; exact heap_alloc_new _ _
    have hs_wF : w2.heap.size ≤ wF.heap.size := (bb_wF).size
    have HB_wF : Hid (Below w.heap.size w wF) := HB_w2.out.trans ((bb_wF).mono HB_w2.out.size)
    have D_wF : Hid (wF.heap[w.heap.size]? = some (.cells #[.slice ao fs.length cap] 27 (0, 0))) := blk_below D_w2.out (bb_wF)
    have A_wF : Hid (wF.heap[w.heap.size + 1]? = some (.cells #[.int .i64 kd, .string nm, .string tx, .string tt] 103 (0, 0))) := blk_below A_w2.out (bb_wF)
    have R_wF : Hid (wF.heap[w.heap.size + 1 + 1]? = some (.cells #[.slice none 0 0] 27 (0, 0))) := blk_below R_w2.out (bb_wF)
    obtain ⟨b, off, rfl, hbw, hc0, hc1, hc2⟩ := filesAt_keep HF.out HB_wF.out j hj
    rw [HFj.out] at hc0 hc1 hc2
    have cD := box_of D_wF.out
    rw [hw_wF] at cD hc0 hc1 hc2
    clear HB_wF D_wF A_wF R_wF F_wF bb_wF
    obtain ⟨wG, hw_wG⟩ : ∃ wq, wq = w2.alloc (.cells #[.string F.name, .string F.text, .int .i64 F.kept] 74) := ⟨_, rfl⟩
    have bb_wG : Below w2.heap.size w2 wG := by rw [hw_wG]; exact (Below.refl _ _).alloc (Nat.le_refl _) _
    have hz_wG : w2.heap.size + 1 ≤ wG.heap.size := by rw [hw_wG]; simp
    have F_wG : Hid (wG.heap[w2.heap.size]? = some (.cells #[.string F.name, .string F.text, .int .i64 F.kept] 74 (0, 0))) := by rw [hw_wG]; exact heap_alloc_new _ _
    have hs_wG : w2.heap.size ≤ wG.heap.size := (bb_wG).size
    have HB_wG : Hid (Below w.heap.size w wG) := HB_w2.out.trans ((bb_wG).mono HB_w2.out.size)
    have D_wG : Hid (wG.heap[w.heap.size]? = some (.cells #[.slice (some ⟨b, off, none⟩) fs.length cap] 27 (0, 0))) := blk_below D_w2.out (bb_wG)
    have A_wG : Hid (wG.heap[w.heap.size + 1]? = some (.cells #[.int .i64 kd, .string nm, .string tx, .string tt] 103 (0, 0))) := blk_below A_w2.out (bb_wG)
    have R_wG : Hid (wG.heap[w.heap.size + 1 + 1]? = some (.cells #[.slice none 0 0] 27 (0, 0))) := blk_below R_w2.out (bb_wG)
    have hwGs : wG.heap.size = w2.heap.size + 1 := by rw [hw_wG]; simp
    obtain ⟨wO, hw_wO⟩ : ∃ wq, wq = wG.alloc (.cells #[.slice none 0 0] 27) := ⟨_, rfl⟩
    have bb_wO : Below wG.heap.size wG wO := by rw [hw_wO]; exact (Below.refl _ _).alloc (Nat.le_refl _) _
    have hz_wO : wG.heap.size + 1 ≤ wO.heap.size := by rw [hw_wO]; simp
    have O_wO : Hid (wO.heap[w2.heap.size + 1]? = some (.cells #[.slice none 0 0] 27 (0, 0))) := by rw [hw_wO, ← hwGs]; exact heap_alloc_new _ _
    have hs_wO : wG.heap.size ≤ wO.heap.size := (bb_wO).size
    have HB_wO : Hid (Below w.heap.size w wO) := HB_wG.out.trans ((bb_wO).mono HB_wG.out.size)
    have D_wO : Hid (wO.heap[w.heap.size]? = some (.cells #[.slice (some ⟨b, off, none⟩) fs.length cap] 27 (0, 0))) := blk_below D_wG.out (bb_wO)
    have A_wO : Hid (wO.heap[w.heap.size + 1]? = some (.cells #[.int .i64 kd, .string nm, .string tx, .string tt] 103 (0, 0))) := blk_below A_wG.out (bb_wO)
    have R_wO : Hid (wO.heap[w.heap.size + 1 + 1]? = some (.cells #[.slice none 0 0] 27 (0, 0))) := blk_below R_wG.out (bb_wO)
    have F_wO : Hid (wO.heap[w2.heap.size]? = some (.cells #[.string F.name, .string F.text, .int .i64 F.kept] 74 (0, 0))) := blk_below F_wG.out (bb_wO)
    go_upto_region 9 with fail
    rw [← hw_wG, ← hw_wO]
    clear hw_wG hw_wO bb_wG bb_wO HB_wG D_wG A_wG R_wG F_wG
    clear cD hc0 hc1 hc2 ca0 ca1 ca2 ca3 hw_wF
    clear HB_w2 D_w2 A_w2 R_w2
    obtain ⟨ca0, ca1, ca2, ca3⟩ := act_cell A_wO.out
    have cR := box_of R_wO.out
    have zR0 := frozen_of_row wO (w.heap.size + 1 + 1) 0 _ _ R_wO.out
    have HNO : Hid (actD fs ⟨kd, nm, tx, tt⟩ = none) := actD_raw hact (by simp [rawD, k1, hfd', k2, k3, k4])
    go_wp2
    refine bodyPost_ret (v := .tuple #[.agg #[.slice none 0 0], .bool false]) (by simp [results, Tryz.results154, go_sem, cR]) rfl ⟨.slice none 0 0, by rw [HNO.out]; rfl, .inl ⟨rfl, by rw [HNO.out]; rfl⟩, ?_⟩
    exact HB_wO.out.setCell (p := ⟨w.heap.size + 1 + 1, 0, none⟩) (by show w.heap.size ≤ w.heap.size + 1 + 1; omega) _
end Go.Proofs.YtmmchemgegmhhaaGreatDoor
