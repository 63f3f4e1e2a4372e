import Derived.Deep.RegionLaw
import Derived.Deep.LoopGhost
import Derived.Deep.Cut
import Derived.Deep.CutRange
import Derived.Test.YtlcfblodflgleaaGreatDoorBe1
import Derived.Test.YtlcfblodflgleaaGreatDoorBe2
set_option maxRecDepth 100000
set_option maxHeartbeats 8000000
namespace Go.Proofs.YtlcfblodflgleaaGreatDoor
open Go.RowKit
def IntsAt (w : World) (ao : Option Addr) (ls : List Int) : Prop := ∀ j (h : j < ls.length), ∃ b off : Nat, ao = some ⟨b, off, none⟩ ∧ b < w.heap.size ∧ w.cell? ⟨b, off + j, none⟩ = some (.int .i64 ls[j]) ∧ -9223372036854775808 ≤ ls[j] ∧ ls[j] ≤ 9223372036854775807
theorem intsAt_keep {w w' : World} {ao : Option Addr} {ls : List Int} (h : IntsAt w ao ls) (hb : Below w.heap.size w w') : IntsAt w' ao ls := by
  intro j hj
  obtain ⟨b, off, h1, h2, h3, h4⟩ := h j hj
  exact ⟨b, off, h1, Nat.lt_of_lt_of_le h2 hb.size, (hb.cell (p := ⟨b, off + j, none⟩) h2).trans h3, h4⟩
theorem grownBy_step {wb wr w3 : World} {o : Nat} (hg : wb.grownBy wr (some o)) (hb : Below (o + 1) wr w3) (hs : wb.heap.size = o + 1) : wb.grownBy w3 (some o) :=
  ⟨hb.os.trans hg.os, hb.tape.trans hg.tape, hb.output.trans hg.output, Nat.le_trans hg.size hb.size, fun i hi hr => (hb.block i (by omega)).trans (hg.block i hi hr)⟩
theorem cut_to (s : ByteArray) (n : Int) (h0 : 0 ≤ n) (h1 : n ≤ s.size) : ∀ W : World, (Instr.slice 9 (.string s) none (some (.int .i64 n)) none).run Tryz.prog W = .ok (.string (s.extract 0 n.toNat)) W := by
  intro W
  rw [run_slice_string_to_if W 9 s .i64 n Tryz.underlying9, if_pos ⟨h0, h1⟩]
theorem blk_below {w w' : World} {b : Nat} {O : Obj} (h : w.heap[b]? = some O) (hb : Below w.heap.size w w') : w'.heap[b]? = some O := (hb.block b (Array.getElem?_eq_some_iff.1 h).1).trans h
theorem blk_grown {w w' : World} {b : Nat} {O : Obj} {r : Option Nat} (h : w.heap[b]? = some O) (hg : w.grownBy w' r) (hne : some b ≠ r) : w'.heap[b]? = some O := (hg.block b (Array.getElem?_eq_some_iff.1 h).1 hne).trans h
theorem box_of {w : World} {b : Nat} {v : Value} {t : TypeId} (h : w.heap[b]? = some (.cells #[v] t (0, 0))) : w.cell? ⟨b, 0, none⟩ = some v := (cell_of_row w b 0 _ _ (0, 0) h).trans rfl
theorem rowF_files {w : World} {B n c : Nat} {a : Option Addr} {fs : List FileD} (h : RowF w B (.slice a n c) fs) : FilesAt w a fs := by
  obtain ⟨ao, cap, e, hf⟩ := rowF_at h
  cases e
  exact hf
def GotF (W wx : World) (β : Nat) (v : Value) (R : List FileD) : Prop :=
  wx.heap[β]? = some (.cells #[v] 31 (0, 0)) ∧ RowF wx W.heap.size v R ∧ (∀ j, v.ownBlock = some j → W.heap.size ≤ j ∧ j < wx.heap.size ∧ j ≠ β) ∧ Below W.heap.size W wx ∧ W.heap.size ≤ β ∧ β < wx.heap.size
theorem got_new {W wf : World} {B : Nat} {v : Value} {R : List FileD} (hrow : RowF wf B v R) (hB : W.heap.size ≤ B) (hb : Below W.heap.size W wf) : GotF W (wf.alloc (.cells #[v] 31)) wf.heap.size v R :=
  ⟨heap_alloc_new _ _, rowF_le (rowF_below hrow ((Below.refl _ _).alloc (Nat.le_refl _) _)) hB, fun j hj => by have h := rowF_lt hrow j hj; exact ⟨by omega, by simp; omega, by omega⟩, hb.alloc hb.size _, hb.size, by simp⟩
theorem got_old {W wf : World} {B β : Nat} {v : Value} {R : List FileD} (hrow : RowF wf B v R) (hB : β < B) (hW : W.heap.size ≤ β) (hb : Below W.heap.size W wf) (hq : wf.heap[β]? = some (.cells #[.slice none 0 0] 31 (0, 0))) : GotF W (wf.setCell ⟨β, 0, none⟩ v) β v R := by
  have hlt := (Array.getElem?_eq_some_iff.1 hq).1
  have hb' := hb.setCell (p := ⟨β, 0, none⟩) hW v
  have hsz : (wf.setCell ⟨β, 0, none⟩ v).heap.size = wf.heap.size := by simp [World.setCell]
  refine ⟨(heap_setCell_same _ _ _ _ _ _ hq).trans rfl, rowF_le (rowF_grown hrow (grownBy_store (World.grownBy.refl _ _) 0 _) (fun g hg e => by have h1 := (rowF_lt hrow g hg).1; cases e; omega)) (by omega), fun j hj => ?_, hb', hW, by rw [hsz]; exact hlt⟩
  have h := rowF_lt hrow j hj
  exact ⟨by omega, by rw [hsz]; omega, by omega⟩
theorem l03Put_own (fs : List FileD) (ao : Option Addr) (cap : Nat) (F : FileD) (w : World) (hl : fs.length ≤ 1000) (hfs : FilesAt w ao fs) :
    Calls Tryz.prog 62 #[.agg #[.slice ao fs.length cap], .agg #[.string F.name, .string F.text, .int .i64 F.kept]] w fun e w' => ∃ v, e = .returned (.agg #[v]) ∧ w'.ownsRow w.heap.size 109 3 v (putD fs F).length (cellsF (putD fs F)) ∧ Below w.heap.size w w' := by
  have HF := hide hfs
  clear hfs
  obtain ⟨wa, hwa⟩ : ∃ wa, wa = ((w.alloc (.cells #[.slice ao fs.length cap] 31)).alloc (.cells #[.string F.name, .string F.text, .int .i64 F.kept] 109)).alloc (.cells #[.slice none 0 0] 31) := ⟨_, rfl⟩
  have hwas : wa.heap.size = w.heap.size + 1 + 1 + 1 := by rw [hwa]; simp
  have HBa : Hid (Below w.heap.size w wa) := by rw [hwa]; exact (((Below.refl _ w).alloc (Nat.le_refl _) _).alloc (by simp) _).alloc (by simp; omega) _
  have HXa : Hid (wa.heap[w.heap.size]? = some (.cells #[.slice ao fs.length cap] 31 (0, 0))) := by rw [hwa]; exact blk_below (blk_below (heap_alloc_new w _) ((Below.refl _ _).alloc (Nat.le_refl _) _)) ((Below.refl _ _).alloc (Nat.le_refl _) _)
  have HFa : Hid (wa.heap[w.heap.size + 1]? = some (.cells #[.string F.name, .string F.text, .int .i64 F.kept] 109 (0, 0))) := by
    rw [hwa]
    refine blk_below ?_ ((Below.refl _ _).alloc (Nat.le_refl _) _)
    rw [show w.heap.size + 1 = (w.alloc (.cells #[.slice ao fs.length cap] 31)).heap.size from by simp]
    exact heap_alloc_new _ _
  have HRa : Hid (wa.heap[w.heap.size + 1 + 1]? = some (.cells #[.slice none 0 0] 31 (0, 0))) := by
    rw [hwa, show w.heap.size + 1 + 1 = ((w.alloc (.cells #[.slice ao fs.length cap] 31)).alloc (.cells #[.string F.name, .string F.text, .int .i64 F.kept] 109)).heap.size from by simp]
    exact heap_alloc_new _ _
  obtain ⟨o, ho⟩ : ∃ o, o = wa.heap.size := ⟨_, rfl⟩
  obtain ⟨wb, hwb⟩ : ∃ wb, wb = wa.alloc (.cells #[.slice none 0 0] 31) := ⟨_, rfl⟩
  have bab : Below wa.heap.size wa wb := by rw [hwb]; exact (Below.refl _ _).alloc (Nat.le_refl _) _
  have hbs : wb.heap.size = o + 1 := by rw [hwb, ho]; simp
  have HBb : Hid (Below w.heap.size w wb) := HBa.out.trans (bab.mono (by omega))
  have HXb : Hid (wb.cell? ⟨w.heap.size, 0, none⟩ = some (.slice ao fs.length cap)) := box_of (blk_below HXa.out bab)
  have HFb : Hid (wb.heap[w.heap.size + 1]? = some (.cells #[.string F.name, .string F.text, .int .i64 F.kept] 109 (0, 0))) := blk_below HFa.out bab
  have HRb : Hid (wb.heap[w.heap.size + 1 + 1]? = some (.cells #[.slice none 0 0] 31 (0, 0))) := blk_below HRa.out bab
  have HOb : Hid (wb.heap[o]? = some (.cells #[.slice none 0 0] 31 (0, 0))) := by rw [hwb, ho]; exact heap_alloc_new _ _
  have hso : w.heap.size + 1 + 1 < o := by omega
  have hov : o = w.heap.size + 1 + 1 + 1 := by omega
  rw [hwa] at hwb
  clear bab hwa hwas ho HXa HFa HRa HBa
  go_enter Tryz.func62, Tryz.ntmps62
  go_wp2_with fail
  rw [← hwb, ← hov]
  clear hwb hov
  go_loopg [6] fs.length (fun gg ii wr => ∃ (k : Nat) (v : Value), k + gg = fs.length ∧ ii = .int .i64 k ∧ k ≤ fs.length ∧ Hid (wb.grownBy wr (some o)) ∧ Hid (wr.heap[o]? = some (.cells #[v] 31 (0, 0))) ∧ Hid (wr.ownsRow (o + 1) 109 3 v ((fs.take k).filter (lessF F.name)).length (cellsF ((fs.take k).filter (lessF F.name)))))
  case atStart => exact ⟨0, .slice none 0 0, by omega, rfl, Nat.zero_le _, World.grownBy.refl _ _, HOb, ⟨rfl, .inl ⟨rfl, rfl⟩⟩⟩
  case round =>
    obtain ⟨k, v, hkg, rfl, hk, HG, HV, HO⟩ := hrel
    have HB : Hid (Below w.heap.size w wr) := HBb.out.grown HG.out (by omega) (fun j hj => by cases hj; omega)
    have hws : o < wr.heap.size := by have := HG.out.size; omega
    have hbox : wr.cell? ⟨w.heap.size, 0, none⟩ = some (.slice ao fs.length cap) := (HG.out.cell_far ⟨w.heap.size, 0, none⟩ (by show w.heap.size < _; omega) (by simp; omega)).trans HXb.out
    have hout : wr.cell? ⟨o, 0, none⟩ = some v := (cell_of_row wr o 0 _ _ (0, 0) HV.out).trans rfl
    have hfo := frozen_of_row wr o 0 _ _ HV.out
    have HLk : Hid (((fs.take k).filter (lessF F.name)).length ≤ 1048576) := by show _ ≤ _; have := filter_le (fs := fs) (lessF F.name) k; omega
    obtain ⟨LL, HLL⟩ : ∃ LL, Hid (((fs.take k).filter (lessF F.name)) = LL) := ⟨_, hide rfl⟩
    rw [HLL.out] at HO HLk
    by_cases hlt : k < fs.length
    · have hlt' : decide ((k : Int) < (fs.length : Int)) = true := by simp; omega
      obtain ⟨b, off, rfl, hbw, hc0, hc1, hc2⟩ := filesAt_keep HF.out HB.out k hlt
      obtain ⟨G, HGk⟩ : ∃ G, Hid (fs[k] = G) := ⟨fs[k], hide rfl⟩
      rw [HGk.out] at hc0 hc1 hc2
      have hi0 : (0 : Int) ≤ (k : Int) := by omega
      have hi1 : (k : Int) < (fs.length : Int) := by omega
      have HN := hide (filter_next (lessF F.name) hlt)
      rw [HGk.out] at HN
      have HFB : Hid (wr.heap[w.heap.size + 1]? = some (.cells #[.string F.name, .string F.text, .int .i64 F.kept] 109 (0, 0))) := (HG.out.block (w.heap.size + 1) (by omega) (by simp; omega)).trans HFb.out
      have hfn : wr.cell? ⟨w.heap.size + 1, 0, none⟩ = some (.string F.name) := (cell_of_row wr (w.heap.size + 1) 0 _ _ (0, 0) HFB.out).trans rfl
      go_wp2_with fail
      go_quiet (fail)
      obtain ⟨wq, hwq⟩ : ∃ wq, wq = wr.drewN nq := ⟨_, rfl⟩
      rw [← hwq]
      have HBq : Hid (Below wr.heap.size wr wq) := by rw [hwq]; exact drewN_below wr nq
      have hqs : wq.heap.size = wr.heap.size := by rw [hwq]; rfl
      have hq0 : wq.cell? ⟨b, off + k * 3, none⟩ = some (.string G.name) := by rw [hwq]; exact hc0
      have hq1 : wq.cell? ⟨b, off + k * 3 + 1, none⟩ = some (.string G.text) := by rw [hwq]; exact hc1
      have hq2 : wq.cell? ⟨b, off + k * 3 + 2, none⟩ = some (.int .i64 G.kept) := by rw [hwq]; exact hc2
      have hqb : wq.cell? ⟨w.heap.size, 0, none⟩ = some (.slice (some ⟨b, off, none⟩) fs.length cap) := by rw [hwq]; exact hbox
      have hqo : wq.cell? ⟨o, 0, none⟩ = some v := by rw [hwq]; exact hout
      have HVq : Hid (wq.heap[o]? = some (.cells #[v] 31 (0, 0))) := by rw [hwq]; exact HV.out
      have HOq : Hid (wq.ownsRow (o + 1) 109 3 v LL.length (cellsF LL)) := by rw [hwq]; exact HO.out
      have HGq : Hid (wb.grownBy wq (some o)) := grownBy_step HG.out (HBq.out.mono (by omega)) hbs
      clear hwq hc0 hc1 hc2 hbox hout hfo
      cases hp' : Op.bytesLess G.name.toList F.name.toList
      · have hp : lessF F.name G = false := hp'
        have HT : Hid (((fs.take (k + 1)).filter (lessF F.name)) = LL) := by show _ = _; rw [HN.out, hp, ← HLL.out]; simp
        go_wp2
        go_roundg (gk - 1)
        case measure => omega
        case rel => exact ⟨k + 1, v, by omega, by go_num, by omega, HGq, HVq, by show _; rw [HT.out]; exact HOq.out⟩
      · have hp : lessF F.name G = true := hp'
        have HT : Hid (((fs.take (k + 1)).filter (lessF F.name)) = LL ++ [G]) := by show _ = _; rw [HN.out, hp, ← HLL.out]; simp
        have hof : o < wq.heap.size := by omega
        have hall : (wq.alloc (.cells #[.string G.name, .string G.text, .int .i64 G.kept] 109)).cell? ⟨o, 0, none⟩ = some v := (((Below.refl _ wq).alloc (Nat.le_refl _) _).cell (p := ⟨o, 0, none⟩) hof).trans hqo
        have HQS := hide hqs
        clear hqs
        go_upto_region 6 with fail
        go_region_law (refine step_app_file _ (o + 1) (by rfl) _ _ (by rfl) _ LL G (by rfl) (HOq.out.alloc _) wq.heap.size (by simp [Act.eval]) (heap_alloc_new wq _) (by have := HLk.out; omega) (by have := HQS.out; simp; omega) ?_; intro g3 cap3 w3 hown3 hb3 hg3 hgl3; have hn0 : w3.heap[o]? = some (.cells #[v] 31 (0, 0)) := (hb3.block o (by omega)).trans ((((Below.refl _ wq).alloc (Nat.le_refl _) _).block o hof).trans HVq.out); have hn1 : w3.cell? ⟨o, 0, none⟩ = some v := (cell_of_row w3 o 0 _ _ (0, 0) hn0).trans rfl; have hn2 : w3.frozen? ⟨o, 0, none⟩ = false := frozen_of_row w3 o 0 _ _ hn0; have HN0 := hide hn0; clear hn0)
        all_goals
          go_wp2_with fail
          go_roundg (gk - 1)
          case measure => omega
          case rel =>
            have hqs := HQS.out
            have hbw : Below (o + 1) wr w3 := ((HBq.out.mono (by omega)).trans (((Below.refl _ wq).alloc (by omega) _).drew)).trans hb3
            refine ⟨k + 1, _, by omega, by go_num, by omega, grownBy_store (grownBy_step HG.out hbw hbs) 0 _, (heap_setCell_same _ o _ _ _ _ HN0.out).trans rfl, ?_⟩
            show _
            rw [HT.out]
            have hle : (LL ++ [G]).length = LL.length + 1 := by simp only [List.length_append, List.length_singleton]
            have hfin := hown3.kept (grownBy_store (World.grownBy.refl w3 (some o)) 0 (.slice (some ⟨g3, 0, none⟩) (LL.length + 1) cap3)) (.inr (by simp [Value.ownBlock]; omega))
            rw [hle] at hfin ⊢
            exact hfin
    · have hlt' : decide ((k : Int) < (fs.length : Int)) = false := by simp; omega
      have hke : k = fs.length := by omega
      have HE : Hid (((fs.take k).filter (lessF F.name)) = fs.filter (lessF F.name)) := by show _ = _; rw [hke, List.take_length]
      clear hke
      rw [← HLL.out, HE.out] at HO HLk
      have HFB : Hid (wr.heap[w.heap.size + 1]? = some (.cells #[.string F.name, .string F.text, .int .i64 F.kept] 109 (0, 0))) := (HG.out.block (w.heap.size + 1) (by omega) (by simp; omega)).trans HFb.out
      have hfn : wr.cell? ⟨w.heap.size + 1, 0, none⟩ = some (.string F.name) := (cell_of_row wr (w.heap.size + 1) 0 _ _ (0, 0) HFB.out).trans rfl
      have hft : wr.cell? ⟨w.heap.size + 1, 1, none⟩ = some (.string F.text) := (cell_of_row wr (w.heap.size + 1) 1 _ _ (0, 0) HFB.out).trans rfl
      have hfk : wr.cell? ⟨w.heap.size + 1, 2, none⟩ = some (.int .i64 F.kept) := (cell_of_row wr (w.heap.size + 1) 2 _ _ (0, 0) HFB.out).trans rfl
      go_wp2_with (at_builtin; refine app_file _ (o + 1) (by rfl) _ _ (by rfl) _ (fs.filter (lessF F.name)) F (by rfl) (HO.out.alloc _) wr.heap.size (by simp [Act.eval]) (heap_alloc_new wr _) (by have := List.length_filter_le (lessF F.name) fs; omega) (by simp; omega) ?_; intro g3 cap3 w3 hown3 hb3 hg3 hgl3; have hn0 : w3.heap[o]? = some (.cells #[v] 31 (0, 0)) := (hb3.block o (by omega)).trans ((((Below.refl _ wr).alloc (Nat.le_refl _) _).block o hws).trans HV.out); have hn1 : w3.cell? ⟨o, 0, none⟩ = some v := (cell_of_row w3 o 0 _ _ (0, 0) hn0).trans rfl; have hn2 : w3.frozen? ⟨o, 0, none⟩ = false := frozen_of_row w3 o 0 _ _ hn0; have HN0 := hide hn0; clear hn0)
      obtain ⟨w5, hw5⟩ : ∃ w5, w5 = w3.setCell ⟨o, 0, none⟩ (.slice (some ⟨g3, 0, none⟩) ((fs.filter (lessF F.name)).length + 1) cap3) := ⟨_, rfl⟩
      have HG5 : Hid (wb.grownBy w5 (some o)) := by rw [hw5]; exact grownBy_store (grownBy_step HG.out ((((Below.refl _ wr).alloc (by omega) _)).trans hb3) hbs) 0 _
      have HV5 : Hid (w5.heap[o]? = some (.cells #[.slice (some ⟨g3, 0, none⟩) ((fs.filter (lessF F.name)).length + 1) cap3] 31 (0, 0))) := by rw [hw5]; exact (heap_setCell_same _ o _ _ _ _ HN0.out).trans rfl
      have HO5 : Hid (w5.ownsRow (o + 1) 109 3 (.slice (some ⟨g3, 0, none⟩) ((fs.filter (lessF F.name)).length + 1) cap3) (fs.filter (lessF F.name) ++ [F] ++ (fs.take 0).filter (moreF F.name)).length (cellsF (fs.filter (lessF F.name) ++ [F] ++ (fs.take 0).filter (moreF F.name)))) := by
        have e : (fs.filter (lessF F.name) ++ [F] ++ (fs.take 0).filter (moreF F.name)) = fs.filter (lessF F.name) ++ [F] := by simp
        rw [hw5, e]
        exact hown3.kept (grownBy_store (World.grownBy.refl w3 (some o)) 0 _) (.inr (by simp [Value.ownBlock]; omega))
      rw [← hw5]
      clear hw5 hown3 hb3 hn1 hn2 HN0 HO HG HV HB hbox hout hfo hfn hft hfk HFB HLk HE
      go_loopg [7] fs.length (fun gg ii wr => ∃ (k : Nat) (v : Value), k + gg = fs.length ∧ ii = .int .i64 k ∧ k ≤ fs.length ∧ Hid (wb.grownBy wr (some o)) ∧ Hid (wr.heap[o]? = some (.cells #[v] 31 (0, 0))) ∧ Hid (wr.ownsRow (o + 1) 109 3 v (fs.filter (lessF F.name) ++ [F] ++ (fs.take k).filter (moreF F.name)).length (cellsF (fs.filter (lessF F.name) ++ [F] ++ (fs.take k).filter (moreF F.name)))))
      case atStart => exact ⟨0, _, by omega, rfl, Nat.zero_le _, HG5, HV5, HO5⟩
      case round =>
        clear HG5 HV5 HO5
        obtain ⟨k, v, hkg, rfl, hk, HG, HV, HO⟩ := hrel
        have HB : Hid (Below w.heap.size w wr) := HBb.out.grown HG.out (by omega) (fun j hj => by cases hj; omega)
        have hws : o < wr.heap.size := by have := HG.out.size; omega
        have hbox : wr.cell? ⟨w.heap.size, 0, none⟩ = some (.slice ao fs.length cap) := (HG.out.cell_far ⟨w.heap.size, 0, none⟩ (by show w.heap.size < _; omega) (by simp; omega)).trans HXb.out
        have hout : wr.cell? ⟨o, 0, none⟩ = some v := (cell_of_row wr o 0 _ _ (0, 0) HV.out).trans rfl
        have hfo := frozen_of_row wr o 0 _ _ HV.out
        have HLk : Hid ((fs.filter (lessF F.name) ++ [F] ++ (fs.take k).filter (moreF F.name)).length ≤ 1048576) := by show _ ≤ _; have h1 := filter_le (fs := fs) (moreF F.name) k; have h2 := List.length_filter_le (lessF F.name) fs; simp only [List.length_append, List.length_singleton]; omega
        obtain ⟨LL, HLL⟩ : ∃ LL, Hid ((fs.filter (lessF F.name) ++ [F] ++ (fs.take k).filter (moreF F.name)) = LL) := ⟨_, hide rfl⟩
        rw [HLL.out] at HO HLk
        by_cases hlt : k < fs.length
        · have hlt' : decide ((k : Int) < (fs.length : Int)) = true := by simp; omega
          obtain ⟨b, off, rfl, hbw, hc0, hc1, hc2⟩ := filesAt_keep HF.out HB.out k hlt
          obtain ⟨G, HGk⟩ : ∃ G, Hid (fs[k] = G) := ⟨fs[k], hide rfl⟩
          rw [HGk.out] at hc0 hc1 hc2
          have hi0 : (0 : Int) ≤ (k : Int) := by omega
          have hi1 : (k : Int) < (fs.length : Int) := by omega
          have HN := hide (filter_next (moreF F.name) hlt)
          rw [HGk.out] at HN
          have HFB : Hid (wr.heap[w.heap.size + 1]? = some (.cells #[.string F.name, .string F.text, .int .i64 F.kept] 109 (0, 0))) := (HG.out.block (w.heap.size + 1) (by omega) (by simp; omega)).trans HFb.out
          have hfn : wr.cell? ⟨w.heap.size + 1, 0, none⟩ = some (.string F.name) := (cell_of_row wr (w.heap.size + 1) 0 _ _ (0, 0) HFB.out).trans rfl
          go_wp2_with fail
          go_quiet (fail)
          obtain ⟨wq, hwq⟩ : ∃ wq, wq = wr.drewN nq := ⟨_, rfl⟩
          rw [← hwq]
          have HBq : Hid (Below wr.heap.size wr wq) := by rw [hwq]; exact drewN_below wr nq
          have hqs : wq.heap.size = wr.heap.size := by rw [hwq]; rfl
          have hq0 : wq.cell? ⟨b, off + k * 3, none⟩ = some (.string G.name) := by rw [hwq]; exact hc0
          have hq1 : wq.cell? ⟨b, off + k * 3 + 1, none⟩ = some (.string G.text) := by rw [hwq]; exact hc1
          have hq2 : wq.cell? ⟨b, off + k * 3 + 2, none⟩ = some (.int .i64 G.kept) := by rw [hwq]; exact hc2
          have hqb : wq.cell? ⟨w.heap.size, 0, none⟩ = some (.slice (some ⟨b, off, none⟩) fs.length cap) := by rw [hwq]; exact hbox
          have hqo : wq.cell? ⟨o, 0, none⟩ = some v := by rw [hwq]; exact hout
          have HVq : Hid (wq.heap[o]? = some (.cells #[v] 31 (0, 0))) := by rw [hwq]; exact HV.out
          have HOq : Hid (wq.ownsRow (o + 1) 109 3 v LL.length (cellsF LL)) := by rw [hwq]; exact HO.out
          have HGq : Hid (wb.grownBy wq (some o)) := grownBy_step HG.out (HBq.out.mono (by omega)) hbs
          clear hwq hc0 hc1 hc2 hbox hout hfo
          obtain ⟨tb, htb⟩ : ∃ tb, tb = (!Op.bytesLess G.name.toList F.name.toList && !(G.name.toList == F.name.toList)) := ⟨_, rfl⟩
          rw [← htb]
          cases tb
          · have hp : moreF F.name G = false := by rw [moreF, Bool.not_or]; exact htb.symm
            clear htb
            have HT : Hid ((fs.filter (lessF F.name) ++ [F] ++ (fs.take (k + 1)).filter (moreF F.name)) = LL) := by show _ = _; rw [HN.out, hp, ← HLL.out]; simp
            go_wp2
            go_roundg (gk - 1)
            case measure => omega
            case rel => exact ⟨k + 1, v, by omega, by go_num, by omega, HGq, HVq, by show _; rw [HT.out]; exact HOq.out⟩
          · have hp : moreF F.name G = true := by rw [moreF, Bool.not_or]; exact htb.symm
            clear htb
            have HT : Hid ((fs.filter (lessF F.name) ++ [F] ++ (fs.take (k + 1)).filter (moreF F.name)) = LL ++ [G]) := by show _ = _; rw [HN.out, hp, ← HLL.out]; simp
            have hof : o < wq.heap.size := by omega
            have hall : (wq.alloc (.cells #[.string G.name, .string G.text, .int .i64 G.kept] 109)).cell? ⟨o, 0, none⟩ = some v := (((Below.refl _ wq).alloc (Nat.le_refl _) _).cell (p := ⟨o, 0, none⟩) hof).trans hqo
            have HQS := hide hqs
            clear hqs
            go_upto_region 12 with fail
            go_region_law (refine step_app_file _ (o + 1) (by rfl) _ _ (by rfl) _ LL G (by rfl) (HOq.out.alloc _) wq.heap.size (by simp [Act.eval]) (heap_alloc_new wq _) (by have := HLk.out; omega) (by have := HQS.out; simp; omega) ?_; intro g3 cap3 w3 hown3 hb3 hg3 hgl3; have hn0 : w3.heap[o]? = some (.cells #[v] 31 (0, 0)) := (hb3.block o (by omega)).trans ((((Below.refl _ wq).alloc (Nat.le_refl _) _).block o hof).trans HVq.out); have hn1 : w3.cell? ⟨o, 0, none⟩ = some v := (cell_of_row w3 o 0 _ _ (0, 0) hn0).trans rfl; have hn2 : w3.frozen? ⟨o, 0, none⟩ = false := frozen_of_row w3 o 0 _ _ hn0; have HN0 := hide hn0; clear hn0)
            all_goals
              go_wp2_with fail
              go_roundg (gk - 1)
              case measure => omega
              case rel =>
                have hqs := HQS.out
                have hbw : Below (o + 1) wr w3 := ((HBq.out.mono (by omega)).trans (((Below.refl _ wq).alloc (by omega) _).drew)).trans hb3
                refine ⟨k + 1, _, by omega, by go_num, by omega, grownBy_store (grownBy_step HG.out hbw hbs) 0 _, (heap_setCell_same _ o _ _ _ _ HN0.out).trans rfl, ?_⟩
                show _
                rw [HT.out]
                have hle : (LL ++ [G]).length = LL.length + 1 := by simp only [List.length_append, List.length_singleton]
                have hfin := hown3.kept (grownBy_store (World.grownBy.refl w3 (some o)) 0 (.slice (some ⟨g3, 0, none⟩) (LL.length + 1) cap3)) (.inr (by simp [Value.ownBlock]; omega))
                rw [hle] at hfin ⊢
                exact hfin
        · have hlt' : decide ((k : Int) < (fs.length : Int)) = false := by simp; omega
          have hke : k = fs.length := by omega
          have hR : wr.heap[w.heap.size + 1 + 1]? = some (.cells #[.slice none 0 0] 31 (0, 0)) := (HG.out.block (w.heap.size + 1 + 1) (by omega) (by simp; omega)).trans HRb.out
          have hr0 : wr.cell? ⟨w.heap.size + 1 + 1, 0, none⟩ = some (.slice none 0 0) := (cell_of_row wr (w.heap.size + 1 + 1) 0 _ _ (0, 0) hR).trans rfl
          have hr1 := frozen_of_row wr (w.heap.size + 1 + 1) 0 _ _ hR
          have HE : Hid ((fs.filter (lessF F.name) ++ [F] ++ (fs.take k).filter (moreF F.name)) = putD fs F) := by show _ = _; rw [hke, List.take_length]; rfl
          clear hR hke
          rw [← HLL.out, HE.out] at HO HLk
          obtain ⟨av, cv, rfl⟩ := slice_form HO.out
          go_wp2_with fail
          refine bodyPost_ret (v := .agg #[.slice av (putD fs F).length cv]) (by simp [results, Tryz.results62, go_sem, hr0]) rfl ⟨_, rfl, ?_, HB.out.setCell (p := ⟨w.heap.size + 1 + 1, 0, none⟩) (by simp; omega) _⟩
          exact ownsRow_mono (HO.out.kept (grownBy_store (World.grownBy.refl _ (some (w.heap.size + 1 + 1))) 0 _) (by cases e : (Value.slice av (putD fs F).length cv).ownBlock with | none => exact .inl rfl | some b => exact .inr (by have := (HO.out.lt b e).1; simp; omega))) (by omega)
theorem l03Put_any (fs : List FileD) (ao : Option Addr) (cap : Nat) (F : FileD) (w : World) (hl : fs.length ≤ 1000) (hfs : FilesAt w ao fs) :
    Calls Tryz.prog 62 #[.agg #[.slice ao fs.length cap], .agg #[.string F.name, .string F.text, .int .i64 F.kept]] w fun e w' => ∃ v, e = .returned (.agg #[v]) ∧ RowF w' w.heap.size v (putD fs F) ∧ Below w.heap.size w w' :=
  (l03Put_own fs ao cap F w hl hfs).mono fun _ _ ⟨v, he, ho, hb⟩ => ⟨v, he, rowF_own ho, hb⟩
end Go.Proofs.YtlcfblodflgleaaGreatDoor
