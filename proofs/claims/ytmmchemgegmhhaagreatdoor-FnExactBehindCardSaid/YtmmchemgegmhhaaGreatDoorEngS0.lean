/- The specification's l08Seq: the number of the last batch of all. -/
import Derived.Test.YtmmchemgegmhhaaGreatDoorSegS3
import Derived.Test.YtmmchemgegmhhaaGreatDoorEngP
namespace Go.Proofs.YtmmchemgegmhhaaGreatDoor
open Go.RowKit

set_option maxRecDepth 100000 in
set_option maxHeartbeats 1600000 in
theorem l08Seq_any (fs : List FileD) (ao : Option Addr) (cap : Nat) (a1 : Option Addr) (c1 NL B : Nat) (w : World) (hl : fs.length ≤ 1048576) (hfs : FilesAt w ao fs) (hsz : ∀ F ∈ fs, F.name.size ≤ 1048576 ∧ F.text.size ≤ 1048576)
    (hNL : (segsL fs).length = NL) (hrow : w.ownsRow B 3 1 (.slice a1 NL c1) NL (((segsL fs).map SegD.num).map iv)) :
    Calls Tryz.prog 121 #[.agg #[.slice ao fs.length cap], .slice a1 NL c1] w fun e w' => e = .returned (.int .i64 (seqD (segsL fs))) ∧ Below w.heap.size w w' := by
  have HF := hide hfs
  have HS := hide hsz
  have G1 := hide hrow
  obtain ⟨wb, hwb⟩ : ∃ wb, wb = w.alloc (.cells #[.slice ao fs.length cap] 27) := ⟨_, rfl⟩
  have HB0 : Hid (Below w.heap.size w wb) := by rw [hwb]; exact (Below.refl _ w).alloc (Nat.le_refl _) _
  have hbs : w.heap.size < wb.heap.size := by rw [hwb]; simp
  have HBC : Hid (wb.cell? ⟨w.heap.size, 0, none⟩ = some (.slice ao fs.length cap)) := by rw [hwb]; exact (cell_of_row _ _ 0 _ _ (0, 0) (heap_alloc_new w _)).trans rfl
  obtain ⟨l, HLL⟩ : ∃ l, Hid (segsL fs = l) := ⟨_, rfl⟩
  have HLM : Hid (∀ s ∈ l, s.bs.length ≤ 20001 ∧ ∃ F, segBatches (s.num : Int) F.text = s.bs ∧ fileD fs (segNm s.num) = some F) := fun s hs => by
    rw [← HLL.out] at hs
    obtain ⟨-, -, F, -, hF, hD⟩ := segsTo_mem (segsL_mem hs)
    refine ⟨?_, F, ?_, hD⟩
    · rw [hF]
      exact (segBatches_bounds _ _).1
    · conv => rhs; rw [hF]
      rfl
  have HNL := hide hNL
  have hN1 : NL ≤ 100 := by rw [← hNL]; exact segsL_len fs
  rw [HLL.out] at HNL G1
  rw [HLL.out]
  clear hfs hsz hrow hNL HLL
  go_enter Tryz.func121, Tryz.ntmps121
  go_wp2_with fail
  rw [← hwb]
  clear hwb
  go_loopg [5, 6] NL (fun gg vl ii wr => ∃ (k : Nat), k + gg = NL ∧ vl = .int .i64 (seqD (l.take k)) ∧ ii = .int .i64 k ∧ k ≤ NL ∧ Hid (Below wb.heap.size wb wr))
  case atStart => exact ⟨0, by omega, rfl, rfl, Nat.zero_le _, Below.refl _ _⟩
  case round =>
    obtain ⟨k, hkg, rfl, rfl, hk, HB⟩ := hrel
    have hws : wb.heap.size ≤ wr.heap.size := HB.out.size
    have HBw : Hid (Below w.heap.size w wr) := HB0.out.trans (HB.out.mono HB0.out.size)
    cases gk with
    | zero =>
      have hlt' : decide ((k : Int) < (NL : Int)) = false := by simp; omega
      have hltn : decide (k < NL) = false := by simp; omega
      rw [List.take_of_length_le (by rw [HNL.out]; omega)]
      go_wp2
      go_ret
      exact ⟨rfl, HBw.out⟩
    | succ g0 =>
      have hlt : k < l.length := by rw [HNL.out]; omega
      have hlt' : decide ((k : Int) < (NL : Int)) = true := by simp; omega
      have hltn : decide (k < NL) = true := by simp; omega
      have hi0 : (0 : Int) ≤ (k : Int) := by omega
      have hi1 : (k : Int) < (NL : Int) := by omega
      obtain ⟨hbl, F, hFb, hFd⟩ := HLM.out l[k] (List.getElem_mem hlt)
      obtain ⟨g, hg, hgw, hc1⟩ := num_cell (ownsRow_below G1.out HBw.out) k (by omega) l[k].num (by rw [List.getElem?_map, List.getElem?_eq_getElem hlt]; rfl)
      subst hg
      have hsq := hide (seqD_take_succ hlt)
      have HLB := hide (fun W hW => l06Batches_any fs ao cap l[k].num F W hl hW HS.out hFd)
      rw [hFb] at HLB
      clear hFb hFd
      generalize l[k] = D at hsq hc1 HLB hbl
      generalize seqD (l.take k) = q0 at hsq
      clear hlt
      have hlt0 : w.heap.size < wr.heap.size := by omega
      have hc0 : wr.cell? ⟨w.heap.size, 0, none⟩ = some (.slice ao fs.length cap) := (HB.out.cell (p := ⟨w.heap.size, 0, none⟩) (by show w.heap.size < _; omega)).trans HBC.out
      have HFW := hide (filesAt_keep HF.out HBw.out)
      go_wp2_with fail
      go_region_held3 (fun w' => w'.cell? ⟨w.heap.size, 0, none⟩ = some (.slice ao fs.length cap) ∧ w'.cell? ⟨g, k, none⟩ = some (.int .i64 (D.num : Int))) (first | go_keep | (exact ⟨hc0, hc1⟩) | (exact ⟨(b2.cell (p := ⟨w.heap.size, 0, none⟩) hlt0).trans hc0, (b2.cell (p := ⟨g, k, none⟩) hgw).trans hc1⟩)) ((go_at_call 155; refine (HLB.out _ (by first | exact HFW.out | exact filesAt_keep HFW.out (Below.refl _ _).drew)).mono ?_; rintro e w2 ⟨⟨v2, rfl, r2⟩, b2⟩; obtain ⟨a2, c2, rfl, -⟩ := rowBatch_at r2))
      have B2 : Hid (Below wr.heap.size wr w2) := (Below.refl _ _).drew.trans b2
      have HRB := hide (rowBatch_rows r2).2
      clear r2 b2 hc0 hc1
      by_cases hz : D.bs.length = 0
      · have hz' : decide ((0 : Int) < (D.bs.length : Int)) = false := by rw [decide_eq_false_iff_not]; omega
        have hzn : decide (0 < D.bs.length) = false := by rw [decide_eq_false_iff_not]; omega
        have hE : Hid (lastB q0 D.bs = q0) := by show _ = _; rw [List.eq_nil_of_length_eq_zero hz]; rfl
        clear hz
        go_wp2
        go_roundg g0
        case measure => omega
        case rel => exact ⟨k + 1, by omega, by rw [hsq.out, hE.out], by go_num, by omega, HB.out.trans (B2.out.mono hws)⟩
      · have hz' : decide ((0 : Int) < (D.bs.length : Int)) = true := by rw [decide_eq_true_eq]; omega
        have hzn : decide (0 < D.bs.length) = true := by rw [decide_eq_true_eq]; omega
        obtain ⟨b, off, hab, hbw, hd0, -⟩ := HRB.out (D.bs.length - 1) (by omega)
        have hE := hide (lastB_last q0 D.bs (by omega))
        generalize D.bs[D.bs.length - 1]'(by omega) = E at hd0 hE
        subst hab
        have hj0 : (0 : Int) ≤ (D.bs.length : Int) - 1 := by omega
        have hj1 : (D.bs.length : Int) - 1 < (D.bs.length : Int) := by omega
        have hjn : ((D.bs.length : Int) - 1).toNat = D.bs.length - 1 := by omega
        have hjw : IntKind.i64.wrap ((D.bs.length : Int) - 1) = (D.bs.length : Int) - 1 := by rw [IntKind.wrap_i64]; omega
        go_wp2
        go_roundg g0
        case measure => omega
        case rel => exact ⟨k + 1, by omega, by rw [hsq.out, hE.out], by go_num, by omega, HB.out.trans (B2.out.mono hws)⟩
end Go.Proofs.YtmmchemgegmhhaaGreatDoor
