/- The specification's SeqsRise. -/
import Derived.Test.YtmmchemgegmhhaaGreatDoorSegS2
import Derived.Test.YtmmchemgegmhhaaGreatDoorSegG
namespace Go.Proofs.YtmmchemgegmhhaaGreatDoor
open Go.RowKit

theorem num_cell {w : World} {B cap n : Nat} {a : Option Addr} {L : List Nat} (h : w.ownsRow B 3 1 (.slice a n cap) n (L.map iv)) (j : Nat) (hj : j < n) (x : Nat) (hx : L[j]? = some x) : ∃ g, a = some ⟨g, 0, none⟩ ∧ g < w.heap.size ∧ w.cell? ⟨g, j, none⟩ = some (.int .i64 (x : Int)) := by
  rcases h.2 with ⟨_, hn⟩ | ⟨g, cap', cur, hv, hB, hC, hle, _, hs, ht⟩
  · omega
  · cases hv
    refine ⟨g, rfl, (Array.getElem?_eq_some_iff.1 hC).1, ?_⟩
    rw [h.cellAt j (by omega), List.getElem?_map, hx]; rfl

set_option maxRecDepth 100000 in
set_option maxHeartbeats 3200000 in
theorem specSeqsRise_any (fs : List FileD) (ao : Option Addr) (cap : Nat) (w : World) (hl : fs.length ≤ 1048576) (hfs : FilesAt w ao fs) (hsz : ∀ F ∈ fs, F.name.size ≤ 1048576 ∧ F.text.size ≤ 1048576) :
    Calls Tryz.prog 117 #[.agg #[.slice ao fs.length cap]] w fun e w' => e = .returned (.bool (seqsRise fs)) ∧ Below w.heap.size w w' := by
  have HF := hide hfs
  have HS := hide hsz
  obtain ⟨wb, hwb⟩ : ∃ wb, wb = w.alloc (.cells #[.slice ao fs.length cap] 27) := ⟨_, rfl⟩
  have HB0 : Hid (Below w.heap.size w wb) := by rw [hwb]; exact (Below.refl _ w).alloc (Nat.le_refl _) _
  have hbs : w.heap.size < wb.heap.size := by rw [hwb]; simp
  have HBC : Hid (wb.cell? ⟨w.heap.size, 0, none⟩ = some (.slice ao fs.length cap)) := by rw [hwb]; exact (cell_of_row _ _ 0 _ _ (0, 0) (heap_alloc_new w _)).trans rfl
  have HSG := hide (fun W hW => specSegments_any fs ao cap W hl hW hsz)
  obtain ⟨ok, HOK⟩ : ∃ ok, Hid (segsOk fs = ok) := ⟨_, rfl⟩
  obtain ⟨l, HLL⟩ : ∃ l, Hid (segsL fs = l) := ⟨_, rfl⟩
  obtain ⟨R, HR0⟩ : ∃ R, Hid (riseI (-1) (seqsOf l) = R) := ⟨_, rfl⟩
  have HE : Hid (seqsRise fs = (ok && R)) := by show _ = _; unfold seqsRise; rw [HOK.out, HLL.out, HR0.out]
  have HLM : Hid (∀ s ∈ l, s.bs.length ≤ 20001 ∧ ∃ F, segBatches (s.num : Int) F.text = s.bs ∧ fileD fs (segNm s.num) = some F) := fun s hs => by
    rw [← HLL.out] at hs
    obtain ⟨-, -, F, -, hF, hD⟩ := segsTo_mem (segsL_mem hs)
    refine ⟨?_, F, ?_, hD⟩
    · rw [hF]
      exact (segBatches_bounds _ _).1
    · conv => rhs; rw [hF]
      rfl
  obtain ⟨NL, HNL⟩ : ∃ NL, Hid (l.length = NL) := ⟨_, rfl⟩
  have hNL : NL ≤ 100 := by rw [← HNL.out, ← HLL.out]; exact segsL_len fs
  rw [HOK.out, HLL.out, List.length_map, HNL.out] at HSG
  clear hfs hsz
  go_enter Tryz.func117, Tryz.ntmps117
  go_wp2_with fail
  rw [← hwb]
  clear hwb
  refine (HSG.out _ (filesAt_keep HF.out HB0.out)).mono ?_
  rintro e w1 ⟨⟨v1, rfl, g1⟩, b1⟩
  obtain ⟨a1, c1, rfl⟩ := slice_form g1
  have G1 := hide g1
  have B1 := hide b1
  have hb1 : wb.heap.size ≤ w1.heap.size := b1.size
  have HBC1 : Hid (w1.cell? ⟨w.heap.size, 0, none⟩ = some (.slice ao fs.length cap)) := (b1.cell (p := ⟨w.heap.size, 0, none⟩) hbs).trans HBC.out
  have HBw1 : Hid (Below w.heap.size w w1) := HB0.out.trans (b1.mono HB0.out.size)
  clear g1 b1
  go_wp2_with fail
  go_loopg [5, 6] NL (fun gg vl ii wr => ∃ (k : Nat) (q : Int), k + gg = NL ∧ vl = .int .i64 q ∧ ii = .int .i64 k ∧ k ≤ NL ∧ Hid (riseI q (seqsOf (l.drop k)) = R) ∧ Hid (Below w1.heap.size w1 wr))
  case atStart => exact ⟨0, -1, by omega, rfl, rfl, Nat.zero_le _, HR0, Below.refl _ _⟩
  case round =>
    obtain ⟨k, q, hkg, rfl, rfl, hk, HQ, HB⟩ := hrel
    have hws : w1.heap.size ≤ wr.heap.size := HB.out.size
    have HBw : Hid (Below w.heap.size w wr) := HBw1.out.trans (HB.out.mono HBw1.out.size)
    cases gk with
    | zero =>
      have hlt' : decide ((k : Int) < (NL : Int)) = false := by simp; omega
      have hltn : decide (k < NL) = false := by simp; omega
      have hR : Hid (R = true) := by show _ = _; rw [← HQ.out, List.drop_eq_nil_of_le (by rw [HNL.out]; omega)]; rfl
      go_wp2
      go_ret
      rw [HE.out, hR.out, Bool.and_true]
      exact ⟨rfl, HBw.out⟩
    | succ g0 =>
      have hlt : k < l.length := by rw [HNL.out]; omega
      have hlt' : decide ((k : Int) < (NL : Int)) = true := by simp; omega
      have hltn : decide (k < NL) = true := by simp; omega
      have hi0 : (0 : Int) ≤ (k : Int) := by omega
      have hi1 : (k : Int) < (NL : Int) := by omega
      obtain ⟨hbl, F, hFb, hFd⟩ := HLM.out l[k] (List.getElem_mem hlt)
      obtain ⟨g, hg, hgw, hc1⟩ := num_cell (ownsRow_below G1.out HB.out) k (by omega) l[k].num (by rw [List.getElem?_map, List.getElem?_eq_getElem hlt]; rfl)
      subst hg
      have hdk := hide (List.drop_eq_getElem_cons hlt)
      have HLB := hide (fun W hW => l06Batches_any fs ao cap l[k].num F W hl hW HS.out hFd)
      rw [hFb] at HLB
      clear hFb hFd
      generalize l[k] = D at hdk hc1 HLB hbl
      clear hlt
      rw [hdk.out, seqsOf_cons] at HQ
      have hlt0 : w.heap.size < wr.heap.size := by omega
      have hc0 : wr.cell? ⟨w.heap.size, 0, none⟩ = some (.slice ao fs.length cap) := (HB.out.cell (p := ⟨w.heap.size, 0, none⟩) (by show w.heap.size < _; omega)).trans HBC1.out
      have HFW := hide (filesAt_keep HF.out HBw.out)
      obtain ⟨wO, rfl⟩ : ∃ wO, wO = wr := ⟨_, rfl⟩
      go_wp2_with fail
      go_region_held3 (fun w' => w'.cell? ⟨w.heap.size, 0, none⟩ = some (.slice ao fs.length cap) ∧ w'.cell? ⟨g, k, none⟩ = some (.int .i64 (D.num : Int))) (first | go_keep | (exact ⟨hc0, hc1⟩) | (exact ⟨(b2.cell (p := ⟨w.heap.size, 0, none⟩) hlt0).trans hc0, (b2.cell (p := ⟨g, k, none⟩) hgw).trans hc1⟩)) ((go_at_call 155; refine (HLB.out _ (by first | exact HFW.out | exact filesAt_keep HFW.out (Below.refl _ _).drew)).mono ?_; rintro e w2 ⟨⟨v2, rfl, r2⟩, b2⟩; obtain ⟨a2, c2, rfl, -⟩ := rowBatch_at r2))
      have B2 : Hid (Below wO.heap.size wO w2) := (Below.refl _ _).drew.trans b2
      have HRB := hide (rowBatch_rows r2).2
      clear r2 b2 hc0 hc1
      go_wp2_with fail
      go_loopg [5, 8] D.bs.length (fun g2 vl ii wy => ∃ (j : Nat) (p : Int), j + g2 = D.bs.length ∧ vl = .int .i64 p ∧ ii = .int .i64 j ∧ j ≤ D.bs.length ∧ Hid (riseI p ((D.bs.drop j).map BatchD.seq ++ seqsOf (l.drop (k + 1))) = R) ∧ wy = w2)
      case atStart => exact ⟨0, q, by omega, rfl, rfl, Nat.zero_le _, HQ, rfl⟩
      case round =>
        obtain ⟨j, p, hjg, rfl, rfl, hj, HP, rfl⟩ := hrel
        cases gk with
        | zero =>
          have hjt' : decide ((j : Int) < (D.bs.length : Int)) = false := by simp; omega
          have HP2 : Hid (riseI p (seqsOf (l.drop (k + 1))) = R) := by
            show _ = _
            have hdn : D.bs.drop j = [] := List.drop_eq_nil_of_le (by omega)
            rw [← HP.out, hdn]
            rfl
          go_wp2
          go_roundg g0
          case measure => omega
          case rel => exact ⟨k + 1, p, by omega, rfl, by go_num, by omega, HP2, HB.out.trans (B2.out.mono hws)⟩
        | succ g2 =>
          have hjt : j < D.bs.length := by omega
          have hjt' : decide ((j : Int) < (D.bs.length : Int)) = true := by simp; omega
          have hj0 : (0 : Int) ≤ (j : Int) := by omega
          have hj1 : (j : Int) < (D.bs.length : Int) := by omega
          obtain ⟨b, off, hab, hbw, hd0, -⟩ := HRB.out j hjt
          have hdj := hide (List.drop_eq_getElem_cons hjt)
          generalize D.bs[j] = E at hd0 hdj
          subst hab
          rw [hdj.out, List.map_cons, List.cons_append] at HP
          by_cases hle : E.seq ≤ p
          · have hle' : decide (E.seq ≤ p) = true := by simp; omega
            have hR : Hid (R = false) := by show _ = _; rw [← HP.out]; exact riseI_no hle
            go_wp2
            go_ret
            rw [HE.out, hR.out, Bool.and_false]
            exact ⟨rfl, HBw.out.trans (B2.out.mono HBw.out.size)⟩
          · have hle' : decide (E.seq ≤ p) = false := by simp; omega
            rw [riseI_yes (by omega)] at HP
            go_wp2
            go_roundg g2
            case measure => omega
            case rel => exact ⟨j + 1, E.seq, by omega, rfl, by go_num, by omega, HP, rfl⟩
end Go.Proofs.YtmmchemgegmhhaaGreatDoor
