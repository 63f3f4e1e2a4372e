import Derived.Deep.LoopGhost
import Derived.Test.YtlcfblodflgleaaGreatDoorBe19
import Derived.Test.YtlcfblodflgleaaGreatDoorBe27
import Derived.Test.YtlcfblodflgleaaGreatDoorBe7
import Derived.Test.YtlcfblodflgleaaGreatDoorBe9
import Derived.Test.YtlcfblodflgleaaGreatDoorBe11
import Derived.Test.YtlcfblodflgleaaGreatDoorBe13
import Derived.Test.YtlcfblodflgleaaGreatDoorBe15
set_option maxRecDepth 100000
set_option maxHeartbeats 3200000
namespace Go.Proofs.YtlcfblodflgleaaGreatDoor
open Go.RowKit
theorem num_cell {w : World} {B cap n : Nat} {a : Option Addr} {L : List Nat} (h : w.ownsRow B 3 1 (.slice a n cap) n (L.map iv)) (j : Nat) (hj : j < n) (x : Nat) (hx : L[j]? = some x) : ∃ g, a = some ⟨g, 0, none⟩ ∧ g < w.heap.size ∧ w.cell? ⟨g, j, none⟩ = some (.int .i64 (x : Int)) := by
  rcases h.2 with ⟨_, hn⟩ | ⟨g, cap', cur, hv, hB, hC, hle, _, hs, ht⟩
  · omega
  · cases hv
    refine ⟨g, rfl, (Array.getElem?_eq_some_iff.1 hC).1, ?_⟩
    rw [h.cellAt j (by omega), List.getElem?_map, hx]; rfl
theorem specSeqsRise_any (fs : List FileD) (ao : Option Addr) (cap : Nat) (w : World) (hl : fs.length ≤ 1048576) (hfs : FilesAt w ao fs) (hsz : ∀ F ∈ fs, F.name.size ≤ 1048576 ∧ F.text.size ≤ 1048576) :
    Calls Tryz.prog 65 #[.agg #[.slice ao fs.length cap]] w fun e w' => e = .returned (.bool (seqsRise fs)) ∧ Below w.heap.size w w' := by
  have HF := hide hfs
  have HS := hide hsz
  obtain ⟨wb, hwb⟩ : ∃ wb, wb = w.alloc (.cells #[.slice ao fs.length cap] 31) := ⟨_, rfl⟩
  have HB0 : Hid (Below w.heap.size w wb) := by rw [hwb]; exact (Below.refl _ w).alloc (Nat.le_refl _) _
  have hbs : w.heap.size < wb.heap.size := by rw [hwb]; simp
  have HBC : Hid (wb.cell? ⟨w.heap.size, 0, none⟩ = some (.slice ao fs.length cap)) := by rw [hwb]; exact (cell_of_row _ _ 0 _ _ (0, 0) (heap_alloc_new w _)).trans rfl
  have HSG := hide (fun W hW => specSegments_any fs ao cap W hl hW hsz)
  obtain ⟨ok, HOK⟩ : ∃ ok, Hid (segsOk fs = ok) := ⟨_, rfl⟩
  obtain ⟨l, HLL⟩ : ∃ l, Hid (segsL fs = l) := ⟨_, rfl⟩
  obtain ⟨R, HR0⟩ : ∃ R, Hid (riseI (-1) (seqsOf l) = R) := ⟨_, rfl⟩
  have HE : Hid (seqsRise fs = (ok && R)) := by show _ = _; unfold seqsRise; rw [HOK.out, HLL.out, HR0.out]
  have HLM : Hid (∀ s ∈ l, s.bs.length ≤ 20001 ∧ ∃ F, segBatches (s.num : Int) F.text = s.bs ∧ fileD fs (segNm s.num) = some F) := fun s hs => by
    rw [← HLL.out] at hs
    obtain ⟨-, -, F, -, hF, hD⟩ := segsTo_mem (segsL_mem hs)
    refine ⟨?_, F, ?_, hD⟩
    · rw [hF]
      exact (segBatches_bounds _ _).1
    · conv => rhs; rw [hF]
      rfl
  obtain ⟨NL, HNL⟩ : ∃ NL, Hid (l.length = NL) := ⟨_, rfl⟩
  have hNL : NL ≤ 100 := by rw [← HNL.out, ← HLL.out]; exact segsL_len fs
  rw [HOK.out, HLL.out, List.length_map, HNL.out] at HSG
  clear hfs hsz
  go_enter Tryz.func65, Tryz.ntmps65
  go_wp2_with fail
  rw [← hwb]
  clear hwb
  refine (HSG.out _ (filesAt_keep HF.out HB0.out)).mono ?_
  rintro e w1 ⟨⟨v1, rfl, g1⟩, b1⟩
  obtain ⟨a1, c1, rfl⟩ := slice_form g1
  have G1 := hide g1
  have B1 := hide b1
  have hb1 : wb.heap.size ≤ w1.heap.size := b1.size
  have HBC1 : Hid (w1.cell? ⟨w.heap.size, 0, none⟩ = some (.slice ao fs.length cap)) := (b1.cell (p := ⟨w.heap.size, 0, none⟩) hbs).trans HBC.out
  have HBw1 : Hid (Below w.heap.size w w1) := HB0.out.trans (b1.mono HB0.out.size)
  clear g1 b1
  go_wp2_with fail
  go_loopg [5, 6] NL (fun gg vl ii wr => ∃ (k : Nat) (q : Int), k + gg = NL ∧ vl = .int .i64 q ∧ ii = .int .i64 k ∧ k ≤ NL ∧ Hid (riseI q (seqsOf (l.drop k)) = R) ∧ Hid (Below w1.heap.size w1 wr))
  case atStart => exact ⟨0, -1, by omega, rfl, rfl, Nat.zero_le _, HR0, Below.refl _ _⟩
  case round =>
    obtain ⟨k, q, hkg, rfl, rfl, hk, HQ, HB⟩ := hrel
    have hws : w1.heap.size ≤ wr.heap.size := HB.out.size
    have HBw : Hid (Below w.heap.size w wr) := HBw1.out.trans (HB.out.mono HBw1.out.size)
    cases gk with
    | zero =>
      have hlt' : decide ((k : Int) < (NL : Int)) = false := by simp; omega
      have hltn : decide (k < NL) = false := by simp; omega
      have hR : Hid (R = true) := by show _ = _; rw [← HQ.out, List.drop_eq_nil_of_le (by rw [HNL.out]; omega)]; rfl
      go_wp2
      go_ret
      rw [HE.out, hR.out, Bool.and_true]
      exact ⟨rfl, HBw.out⟩
    | succ g0 =>
      have hlt : k < l.length := by rw [HNL.out]; omega
      have hlt' : decide ((k : Int) < (NL : Int)) = true := by simp; omega
      have hltn : decide (k < NL) = true := by simp; omega
      have hi0 : (0 : Int) ≤ (k : Int) := by omega
      have hi1 : (k : Int) < (NL : Int) := by omega
      obtain ⟨hbl, F, hFb, hFd⟩ := HLM.out l[k] (List.getElem_mem hlt)
      obtain ⟨g, hg, hgw, hc1⟩ := num_cell (ownsRow_below G1.out HB.out) k (by omega) l[k].num (by rw [List.getElem?_map, List.getElem?_eq_getElem hlt]; rfl)
      subst hg
      have hdk := hide (List.drop_eq_getElem_cons hlt)
      have HLB := hide (fun W hW => l06Batches_any fs ao cap l[k].num F W hl hW HS.out hFd)
      rw [hFb] at HLB
      clear hFb hFd
      generalize l[k] = D at hdk hc1 HLB hbl
      clear hlt
      rw [hdk.out, seqsOf_cons] at HQ
      have hlt0 : w.heap.size < wr.heap.size := by omega
      have hc0 : wr.cell? ⟨w.heap.size, 0, none⟩ = some (.slice ao fs.length cap) := (HB.out.cell (p := ⟨w.heap.size, 0, none⟩) (by show w.heap.size < _; omega)).trans HBC1.out
      have HFW := hide (filesAt_keep HF.out HBw.out)
      obtain ⟨wO, rfl⟩ : ∃ wO, wO = wr := ⟨_, rfl⟩
      go_wp2_with fail
      go_region_held3 (fun w' => w'.cell? ⟨w.heap.size, 0, none⟩ = some (.slice ao fs.length cap) ∧ w'.cell? ⟨g, k, none⟩ = some (.int .i64 (D.num : Int))) (first | go_keep | (exact ⟨hc0, hc1⟩) | (exact ⟨(b2.cell (p := ⟨w.heap.size, 0, none⟩) hlt0).trans hc0, (b2.cell (p := ⟨g, k, none⟩) hgw).trans hc1⟩)) ((go_at_call 100; refine (HLB.out _ (by first | exact HFW.out | exact filesAt_keep HFW.out (Below.refl _ _).drew)).mono ?_; rintro e w2 ⟨⟨v2, rfl, r2⟩, b2⟩; obtain ⟨a2, c2, rfl, -⟩ := rowBatch_at r2))
      have B2 : Hid (Below wO.heap.size wO w2) := (Below.refl _ _).drew.trans b2
      have HRB := hide (rowBatch_rows r2).2
      clear r2 b2 hc0 hc1
      go_wp2_with fail
      go_loopg [5, 8] D.bs.length (fun g2 vl ii wy => ∃ (j : Nat) (p : Int), j + g2 = D.bs.length ∧ vl = .int .i64 p ∧ ii = .int .i64 j ∧ j ≤ D.bs.length ∧ Hid (riseI p ((D.bs.drop j).map BatchD.seq ++ seqsOf (l.drop (k + 1))) = R) ∧ wy = w2)
      case atStart => exact ⟨0, q, by omega, rfl, rfl, Nat.zero_le _, HQ, rfl⟩
      case round =>
        obtain ⟨j, p, hjg, rfl, rfl, hj, HP, rfl⟩ := hrel
        cases gk with
        | zero =>
          have hjt' : decide ((j : Int) < (D.bs.length : Int)) = false := by simp; omega
          have HP2 : Hid (riseI p (seqsOf (l.drop (k + 1))) = R) := by
            show _ = _
            have hdn : D.bs.drop j = [] := List.drop_eq_nil_of_le (by omega)
            rw [← HP.out, hdn]
            rfl
          go_wp2
          go_roundg g0
          case measure => omega
          case rel => exact ⟨k + 1, p, by omega, rfl, by go_num, by omega, HP2, HB.out.trans (B2.out.mono hws)⟩
        | succ g2 =>
          have hjt : j < D.bs.length := by omega
          have hjt' : decide ((j : Int) < (D.bs.length : Int)) = true := by simp; omega
          have hj0 : (0 : Int) ≤ (j : Int) := by omega
          have hj1 : (j : Int) < (D.bs.length : Int) := by omega
          obtain ⟨b, off, hab, hbw, hd0, -⟩ := HRB.out j hjt
          have hdj := hide (List.drop_eq_getElem_cons hjt)
          generalize D.bs[j] = E at hd0 hdj
          subst hab
          rw [hdj.out, List.map_cons, List.cons_append] at HP
          by_cases hle : E.seq ≤ p
          · have hle' : decide (E.seq ≤ p) = true := by simp; omega
            have hR : Hid (R = false) := by show _ = _; rw [← HP.out]; exact riseI_no hle
            go_wp2
            go_ret
            rw [HE.out, hR.out, Bool.and_false]
            exact ⟨rfl, HBw.out.trans (B2.out.mono HBw.out.size)⟩
          · have hle' : decide (E.seq ≤ p) = false := by simp; omega
            rw [riseI_yes (by omega)] at HP
            go_wp2
            go_roundg g2
            case measure => omega
            case rel => exact ⟨j + 1, E.seq, by omega, rfl, by go_num, by omega, HP, rfl⟩
def spLt (k : ByteArray) (A : SpotD) : Bool := Op.bytesLess A.key.toList k.toList
def spGt (k : ByteArray) (A : SpotD) : Bool := !Op.bytesLess A.key.toList k.toList && !(A.key.toList == k.toList)
def setD (fs : List SpotD) (s : SpotD) (gone : Bool) : List SpotD := fs.filter (spLt s.key) ++ (if gone then [] else [s]) ++ fs.filter (spGt s.key)
theorem filter_take (f : SpotD → Bool) {fs : List SpotD} {k : Nat} (h : k < fs.length) : (fs.take (k + 1)).filter f = (fs.take k).filter f ++ (if f fs[k] then [fs[k]] else []) := by
  rw [List.take_succ_eq_append_getElem h, List.filter_append]
  congr 1
  cases hf : f fs[k] <;> simp [hf]
theorem filter_take_le (f : SpotD → Bool) (fs : List SpotD) (k : Nat) : ((fs.take k).filter f).length ≤ fs.length :=
  Nat.le_trans (List.length_filter_le _ _) (by rw [List.length_take]; omega)
theorem lt_gt_le (k : ByteArray) : ∀ fs : List SpotD, (fs.filter (spLt k)).length + (fs.filter (spGt k)).length ≤ fs.length
  | [] => Nat.le_refl _
  | A :: r => by
    have ih := lt_gt_le k r
    simp only [List.filter_cons, List.length_cons]
    cases h1 : spLt k A with
    | true =>
      have h2 : spGt k A = false := by unfold spLt at h1; unfold spGt; rw [h1]; rfl
      rw [h2]; simp; omega
    | false =>
      cases h2 : spGt k A <;> simp <;> omega
theorem setD_le (fs : List SpotD) (s : SpotD) (gone : Bool) : (setD fs s gone).length ≤ fs.length + 1 := by
  have := lt_gt_le s.key fs
  unfold setD
  cases gone <;> simp <;> omega
theorem filter_part (f : SpotD → Bool) (fs : List SpotD) (k : Nat) : ((fs.take k).filter f).length ≤ (fs.filter f).length :=
  List.Sublist.length_le ((List.take_sublist k fs).filter f)
theorem l07Set_any (fs : List SpotD) (ao : Option Addr) (cap : Nat) (s : SpotD) (gone : Bool) (w : World) (hl : fs.length ≤ 1000000) (hfs : SpotsAt w ao fs) :
    Calls Tryz.prog 102 #[.slice ao fs.length cap, .agg #[.string s.key, .int .i64 s.seg, .int .i64 s.pos, .int .i64 s.seq], .bool gone] w fun e w' => (∃ v, e = .returned v ∧ w'.ownsRow w.heap.size 120 4 v (setD fs s gone).length (cellsSpot (setD fs s gone))) ∧ Below w.heap.size w w' := by
  obtain ⟨key, seg, pos, seq⟩ := s
  have HF := hide hfs
  clear hfs
  obtain ⟨wb, hwb⟩ : ∃ wb, wb = (w.alloc (.cells #[.string key, .int .i64 seg, .int .i64 pos, .int .i64 seq] 120)).alloc (.cells #[] 120) := ⟨_, rfl⟩
  have HB0 : Hid (Below w.heap.size w wb) := by rw [hwb]; exact ((Below.refl _ w).alloc (Nat.le_refl _) _).alloc (by simp) _
  have hbs : w.heap.size + 2 ≤ wb.heap.size := by rw [hwb]; simp
  have HX0 : Hid (wb.heap[w.heap.size]? = some (.cells #[.string key, .int .i64 seg, .int .i64 pos, .int .i64 seq] 120 (0, 0))) := by
    show _ = _
    rw [hwb]
    exact (((Below.refl _ (w.alloc (.cells #[.string key, .int .i64 seg, .int .i64 pos, .int .i64 seq] 120))).alloc (Nat.le_refl _) (.cells #[] 120)).block _ (by simp)).trans (heap_alloc_new w _)
  have HO0 : Hid (wb.ownsRow (w.heap.size + 1) 120 4 (.slice (some ⟨w.heap.size + 1, 0, none⟩) 0 0) 0 []) := by
    rw [hwb]
    have := World.ownsRow_lit (e := 120) (size := 4) (w.alloc (.cells #[.string key, .int .i64 seg, .int .i64 pos, .int .i64 seq] 120)) #[] 0 (Nat.le_refl _) (by unfold maxLen; omega) (by simp)
    show World.ownsRow _ _ _ _ _ _ _
    simpa using this
  go_enter Tryz.func102, Tryz.ntmps102
  go_wp2_with fail
  rw [← hwb]
  clear hwb
  go_loopg [7, 8] fs.length (fun gg v ii wr => ∃ (k : Nat), k + gg = fs.length ∧ ii = .int .i64 k ∧ k ≤ fs.length ∧ Hid (wr.ownsRow (w.heap.size + 1) 120 4 v ((fs.take k).filter (spLt key)).length (cellsSpot ((fs.take k).filter (spLt key)))) ∧ Hid (Below (w.heap.size + 1) wb wr))
  case atStart => exact ⟨0, by omega, rfl, Nat.zero_le _, HO0, Below.refl _ _⟩
  case round =>
    obtain ⟨k, hkg, rfl, hk, HO, HB⟩ := hrel
    have hws : wb.heap.size ≤ wr.heap.size := HB.out.size
    have HBw : Hid (Below w.heap.size w wr) := HB0.out.trans (HB.out.mono (by omega))
    have HXr : Hid (wr.heap[w.heap.size]? = some (.cells #[.string key, .int .i64 seg, .int .i64 pos, .int .i64 seq] 120 (0, 0))) := (HB.out.block _ (by omega)).trans HX0.out
    have hck : wr.cell? ⟨w.heap.size, 0, none⟩ = some (.string key) := (cell_of_row wr _ 0 _ _ (0, 0) HXr.out).trans rfl
    cases gk with
    | succ g0 =>
      have hlt : k < fs.length := by omega
      have hlt' : decide ((k : Int) < (fs.length : Int)) = true := by simp; omega
      obtain ⟨b, off, rfl, hbl, hd0, hd1, hd2, hd3⟩ := spotsAt_keep HF.out HBw.out k hlt
      have HN := hide (filter_take (spLt key) hlt)
      obtain ⟨A, HA⟩ : ∃ A, Hid (fs[k] = A) := ⟨_, hide rfl⟩
      rw [HA.out] at hd0 hd1 hd2 hd3 HN
      have hLl := filter_take_le (spLt key) fs k
      obtain ⟨L, HL⟩ : ∃ L, Hid ((fs.take k).filter (spLt key) = L) := ⟨_, hide rfl⟩
      rw [HL.out] at HO HN hLl
      have hki0 : (0 : Int) ≤ (k : Int) := by omega
      have hki1 : (k : Int) < (fs.length : Int) := by omega
      go_wp2_with fail
      cases hless : Op.bytesLess A.key.toList key.toList with
      | false =>
        have HN1 : Hid ((fs.take (k + 1)).filter (spLt key) = L) := by
          show _ = _
          rw [HN.out]; unfold spLt; rw [hless]; simp
        go_quiet (fail)
        go_wp2_with fail
        go_roundg g0
        case rel => exact ⟨k + 1, by omega, by go_num, by omega, by show World.ownsRow _ _ _ _ _ _ _; rw [HN1.out]; exact ownsRow_drewN HO.out _, below_drewN HB.out _⟩
        case measure => omega
      | true =>
        have HN1 : Hid ((fs.take (k + 1)).filter (spLt key) = L ++ [A]) := by
          show _ = _
          rw [HN.out]; unfold spLt; rw [hless]; simp
        go_quiet (fail)
        go_wp2_with (at_builtin; refine app_spot _ (w.heap.size + 1) (by rfl) _ _ (by rfl) _ L A (by rfl) ((ownsRow_drewN HO.out nq).alloc _) wr.heap.size (by rfl) (heap_alloc_new (wr.drewN nq) _) (by omega) (by simp; omega) ?_; intro g11 cap11 w11 ho11 hb11 hg11 hgl11; have HO11 := hide ho11; have HB11 := hide hb11; clear ho11 hb11 hg11 hgl11)
        go_roundg g0
        case rel => exact ⟨k + 1, by omega, by go_num, by omega, by show World.ownsRow _ _ _ _ _ _ _; rw [HN1.out]; exact HO11.out, ((below_drewN HB.out nq).alloc (by show _ ≤ wr.heap.size; omega) _).trans HB11.out⟩
        case measure => omega
    | zero =>
      have hlt' : decide ((k : Int) < (fs.length : Int)) = false := by simp; omega
      have hltn : decide (k < fs.length) = false := by simp; omega
      have hke : fs.take k = fs := List.take_of_length_le (by omega)
      rw [hke] at HO
      clear hke
      obtain ⟨L0, HL0⟩ : ∃ L, Hid (fs.filter (spLt key) = L) := ⟨_, hide rfl⟩
      rw [HL0.out] at HO
      have hL0 : L0.length ≤ fs.length := by rw [← HL0.out]; exact List.length_filter_le _ _
      have hck0 := hck
      have hck1 : wr.cell? ⟨w.heap.size, 1, none⟩ = some (.int .i64 seg) := (cell_of_row wr _ 1 _ _ (0, 0) HXr.out).trans rfl
      have hck2 : wr.cell? ⟨w.heap.size, 2, none⟩ = some (.int .i64 pos) := (cell_of_row wr _ 2 _ _ (0, 0) HXr.out).trans rfl
      have hck3 : wr.cell? ⟨w.heap.size, 3, none⟩ = some (.int .i64 seq) := (cell_of_row wr _ 3 _ _ (0, 0) HXr.out).trans rfl
      cases gone with
      | true =>
        obtain ⟨M, HM⟩ : ∃ M, Hid (L0 = M) := ⟨_, hide rfl⟩
        have HMS : Hid (setD fs ⟨key, seg, pos, seq⟩ true = M ++ fs.filter (spGt key)) := by show _ = _; unfold setD; rw [← HM.out, ← HL0.out]; simp
        go_wp2_with fail
        have HOM := HO
        rw [HM.out] at HOM
        have HBM := HB
        have hM : M.length + (fs.filter (spGt key)).length ≤ fs.length + 1 := by have := lt_gt_le key fs; rw [← HM.out, ← HL0.out]; omega
        clear HO HB HXr hck hck0 hck1 hck2 hck3 HBw hws HL0 HM hL0
        go_loopg [7, 9] fs.length (fun gg v ii wr => ∃ (k : Nat), k + gg = fs.length ∧ ii = .int .i64 k ∧ k ≤ fs.length ∧ Hid (wr.ownsRow (w.heap.size + 1) 120 4 v (M ++ (fs.take k).filter (spGt key)).length (cellsSpot (M ++ (fs.take k).filter (spGt key)))) ∧ Hid (Below (w.heap.size + 1) wb wr))
        case atStart => exact ⟨0, by omega, rfl, Nat.zero_le _, by show World.ownsRow _ _ _ _ _ _ _; rw [List.take_zero, List.filter_nil, List.append_nil]; exact HOM.out, HBM⟩
        case round =>
          clear HOM HBM
          obtain ⟨j, hjg, rfl, hj, HO2, HB2⟩ := hrel
          have hws2 : wb.heap.size ≤ wr.heap.size := HB2.out.size
          have HBw2 : Hid (Below w.heap.size w wr) := HB0.out.trans (HB2.out.mono (by omega))
          have hck2 : wr.cell? ⟨w.heap.size, 0, none⟩ = some (.string key) := (cell_of_row wr _ 0 _ _ (0, 0) ((HB2.out.block _ (by omega)).trans HX0.out)).trans rfl
          cases gk with
          | succ g1 =>
            have hlt : j < fs.length := by omega
            have hlt2 : decide ((j : Int) < (fs.length : Int)) = true := by simp; omega
            obtain ⟨b, off, rfl, hbl, hd0, hd1, hd2, hd3⟩ := spotsAt_keep HF.out HBw2.out j hlt
            have HN := hide (filter_take (spGt key) hlt)
            obtain ⟨A, HA⟩ : ∃ A, Hid (fs[j] = A) := ⟨_, hide rfl⟩
            rw [HA.out] at hd0 hd1 hd2 hd3 HN
            have hLl := filter_part (spGt key) fs j
            obtain ⟨L, HL⟩ : ∃ L, Hid (M ++ (fs.take j).filter (spGt key) = L) := ⟨_, hide rfl⟩
            have hLL : L.length ≤ 1000001 := by rw [← HL.out, List.length_append]; omega
            rw [HL.out] at HO2
            have hki0 : (0 : Int) ≤ (j : Int) := by omega
            have hki1 : (j : Int) < (fs.length : Int) := by omega
            clear hLl
            go_wp2_with fail
            cases hless : Op.bytesLess A.key.toList key.toList with
            | true =>
              have HN1 : Hid (M ++ (fs.take (j + 1)).filter (spGt key) = L) := by
                show _ = _
                rw [HN.out, ← HL.out]; unfold spGt; rw [hless]; simp
              go_quiet (fail)
              go_wp2_with fail
              go_roundg g1
              case rel => exact ⟨j + 1, by omega, by go_num, by omega, by show World.ownsRow _ _ _ _ _ _ _; rw [HN1.out]; exact ownsRow_drewN HO2.out _, below_drewN HB2.out _⟩
              case measure => omega
            | false =>
              cases hsame : (A.key.toList == key.toList) with
              | true =>
                have HN1 : Hid (M ++ (fs.take (j + 1)).filter (spGt key) = L) := by
                  show _ = _
                  rw [HN.out, ← HL.out]; unfold spGt; rw [hless, hsame]; simp
                go_quiet (fail)
                go_wp2_with fail
                go_roundg g1
                case rel => exact ⟨j + 1, by omega, by go_num, by omega, by show World.ownsRow _ _ _ _ _ _ _; rw [HN1.out]; exact ownsRow_drewN HO2.out _, below_drewN HB2.out _⟩
                case measure => omega
              | false =>
                have HN1 : Hid (M ++ (fs.take (j + 1)).filter (spGt key) = L ++ [A]) := by
                  show _ = _
                  rw [HN.out, ← HL.out]; unfold spGt; rw [hless, hsame]; simp
                go_quiet (fail)
                go_wp2_with (at_builtin; refine app_spot _ (w.heap.size + 1) (by rfl) _ _ (by rfl) _ L A (by rfl) ((ownsRow_drewN HO2.out nq).alloc _) wr.heap.size (by rfl) (heap_alloc_new (wr.drewN nq) _) (by omega) (by simp; omega) ?_; intro g12 cap12 w12 ho12 hb12 hg12 hgl12; have HO12 := hide ho12; have HB12 := hide hb12; clear ho12 hb12 hg12 hgl12)
                go_roundg g1
                case rel => exact ⟨j + 1, by omega, by go_num, by omega, by show World.ownsRow _ _ _ _ _ _ _; rw [HN1.out]; exact HO12.out, ((below_drewN HB2.out nq).alloc (by show _ ≤ wr.heap.size; omega) _).trans HB12.out⟩
                case measure => omega
          | zero =>
            have hlt2 : decide ((j : Int) < (fs.length : Int)) = false := by simp; omega
            have hke : fs.take j = fs := List.take_of_length_le (by omega)
            rw [hke] at HO2
            clear hke
            go_wp2
            go_ret
            refine ⟨⟨_, rfl, ?_⟩, HBw2.out⟩
            rw [HMS.out]
            exact ownsRow_mono HO2.out (by omega)
      | false =>
        go_wp2_with (at_builtin; refine app_spot _ (w.heap.size + 1) (by rfl) _ _ (by rfl) _ L0 ⟨key, seg, pos, seq⟩ (by rfl) (HO.out.alloc _) wr.heap.size (by rfl) (heap_alloc_new wr _) (by omega) (by simp; omega) ?_; intro g11 cap11 w11 ho11 hb11 hg11 hgl11; have HO11 := hide ho11; have HB11 := hide hb11; clear ho11 hb11 hg11 hgl11)
        obtain ⟨M, HM⟩ : ∃ M, Hid (L0 ++ [(⟨key, seg, pos, seq⟩ : SpotD)] = M) := ⟨_, hide rfl⟩
        have HMS : Hid (setD fs ⟨key, seg, pos, seq⟩ false = M ++ fs.filter (spGt key)) := by show _ = _; unfold setD; rw [← HM.out, ← HL0.out]; simp
        have HOM := HO11
        rw [HM.out] at HOM
        have HBM : Hid (Below (w.heap.size + 1) wb w11) := (HB.out.alloc (by omega) _).trans HB11.out
        have hM : M.length + (fs.filter (spGt key)).length ≤ fs.length + 1 := by have := lt_gt_le key fs; rw [← HM.out, ← HL0.out, List.length_append]; simp; omega
        clear HO HB HXr hck hck0 hck1 hck2 hck3 HBw hws HL0 HM hL0 HO11 HB11
        go_loopg [7, 9] fs.length (fun gg v ii wr => ∃ (k : Nat), k + gg = fs.length ∧ ii = .int .i64 k ∧ k ≤ fs.length ∧ Hid (wr.ownsRow (w.heap.size + 1) 120 4 v (M ++ (fs.take k).filter (spGt key)).length (cellsSpot (M ++ (fs.take k).filter (spGt key)))) ∧ Hid (Below (w.heap.size + 1) wb wr))
        case atStart => exact ⟨0, by omega, rfl, Nat.zero_le _, by show World.ownsRow _ _ _ _ _ _ _; rw [List.take_zero, List.filter_nil, List.append_nil]; exact HOM.out, HBM⟩
        case round =>
          clear HOM HBM
          obtain ⟨j, hjg, rfl, hj, HO2, HB2⟩ := hrel
          have hws2 : wb.heap.size ≤ wr.heap.size := HB2.out.size
          have HBw2 : Hid (Below w.heap.size w wr) := HB0.out.trans (HB2.out.mono (by omega))
          have hck2 : wr.cell? ⟨w.heap.size, 0, none⟩ = some (.string key) := (cell_of_row wr _ 0 _ _ (0, 0) ((HB2.out.block _ (by omega)).trans HX0.out)).trans rfl
          cases gk with
          | succ g1 =>
            have hlt : j < fs.length := by omega
            have hlt2 : decide ((j : Int) < (fs.length : Int)) = true := by simp; omega
            obtain ⟨b, off, rfl, hbl, hd0, hd1, hd2, hd3⟩ := spotsAt_keep HF.out HBw2.out j hlt
            have HN := hide (filter_take (spGt key) hlt)
            obtain ⟨A, HA⟩ : ∃ A, Hid (fs[j] = A) := ⟨_, hide rfl⟩
            rw [HA.out] at hd0 hd1 hd2 hd3 HN
            have hLl := filter_part (spGt key) fs j
            obtain ⟨L, HL⟩ : ∃ L, Hid (M ++ (fs.take j).filter (spGt key) = L) := ⟨_, hide rfl⟩
            have hLL : L.length ≤ 1000001 := by rw [← HL.out, List.length_append]; omega
            rw [HL.out] at HO2
            have hki0 : (0 : Int) ≤ (j : Int) := by omega
            have hki1 : (j : Int) < (fs.length : Int) := by omega
            clear hLl
            go_wp2_with fail
            cases hless : Op.bytesLess A.key.toList key.toList with
            | true =>
              have HN1 : Hid (M ++ (fs.take (j + 1)).filter (spGt key) = L) := by
                show _ = _
                rw [HN.out, ← HL.out]; unfold spGt; rw [hless]; simp
              go_quiet (fail)
              go_wp2_with fail
              go_roundg g1
              case rel => exact ⟨j + 1, by omega, by go_num, by omega, by show World.ownsRow _ _ _ _ _ _ _; rw [HN1.out]; exact ownsRow_drewN HO2.out _, below_drewN HB2.out _⟩
              case measure => omega
            | false =>
              cases hsame : (A.key.toList == key.toList) with
              | true =>
                have HN1 : Hid (M ++ (fs.take (j + 1)).filter (spGt key) = L) := by
                  show _ = _
                  rw [HN.out, ← HL.out]; unfold spGt; rw [hless, hsame]; simp
                go_quiet (fail)
                go_wp2_with fail
                go_roundg g1
                case rel => exact ⟨j + 1, by omega, by go_num, by omega, by show World.ownsRow _ _ _ _ _ _ _; rw [HN1.out]; exact ownsRow_drewN HO2.out _, below_drewN HB2.out _⟩
                case measure => omega
              | false =>
                have HN1 : Hid (M ++ (fs.take (j + 1)).filter (spGt key) = L ++ [A]) := by
                  show _ = _
                  rw [HN.out, ← HL.out]; unfold spGt; rw [hless, hsame]; simp
                go_quiet (fail)
                go_wp2_with (at_builtin; refine app_spot _ (w.heap.size + 1) (by rfl) _ _ (by rfl) _ L A (by rfl) ((ownsRow_drewN HO2.out nq).alloc _) wr.heap.size (by rfl) (heap_alloc_new (wr.drewN nq) _) (by omega) (by simp; omega) ?_; intro g12 cap12 w12 ho12 hb12 hg12 hgl12; have HO12 := hide ho12; have HB12 := hide hb12; clear ho12 hb12 hg12 hgl12)
                go_roundg g1
                case rel => exact ⟨j + 1, by omega, by go_num, by omega, by show World.ownsRow _ _ _ _ _ _ _; rw [HN1.out]; exact HO12.out, ((below_drewN HB2.out nq).alloc (by show _ ≤ wr.heap.size; omega) _).trans HB12.out⟩
                case measure => omega
          | zero =>
            have hlt2 : decide ((j : Int) < (fs.length : Int)) = false := by simp; omega
            have hke : fs.take j = fs := List.take_of_length_le (by omega)
            rw [hke] at HO2
            clear hke
            go_wp2
            go_ret
            refine ⟨⟨_, rfl, ?_⟩, HBw2.out⟩
            rw [HMS.out]
            exact ownsRow_mono HO2.out (by omega)
theorem l07Size_any (q : Int) (fs : List ChangeD) (ao : Option Addr) (cap : Nat) (w : World) (hl : fs.length ≤ 1048576) (hfs : ChangesAt w ao fs) (hsz : ∀ A ∈ fs, A.key.size ≤ 1048576 ∧ A.value.size ≤ 1048576) :
    Calls Tryz.prog 58 #[.agg #[.int .i64 q, .slice ao fs.length cap]] w fun e w' => e = .returned (.int .i64 (sizeD q fs : Nat)) ∧ Below w.heap.size w w' := by
  have HF := hide hfs
  have HS := hide hsz
  have hts := textD_small q fs
  have HSD : Hid (sizeD q fs = if 1 ≤ (textD q fs).size then (frameB (textD q fs)).size else 0) := rfl
  have HB := hide (fun W hW => specBatchText_any q fs ao cap W hl hW HS.out)
  obtain ⟨T, HT⟩ : ∃ T, Hid (textD q fs = T) := ⟨_, hide rfl⟩
  obtain ⟨ok, HOK⟩ : ∃ T, Hid (textOkD q fs = T) := ⟨_, hide rfl⟩
  rw [HT.out] at hts HB HSD
  rw [HOK.out] at HB
  clear hfs hsz
  have b0 : Below w.heap.size w (w.alloc (.cells #[.int .i64 q, .slice ao fs.length cap] 101)) := (Below.refl _ w).alloc (Nat.le_refl _) _
  have B0 := hide b0
  clear b0
  by_cases h1 : 1 ≤ T.size
  · have HE : Hid (sizeD q fs = (frameB T).size) := by show _ = _; rw [HSD.out, if_pos h1]
    go_enter Tryz.func58, Tryz.ntmps58
    go_wp2_with fail
    refine (HB.out _ (changesAt_keep HF.out B0.out)).mono ?_
    rintro e w1 ⟨rfl, b1⟩
    have B1 := hide (B0.out.trans (b1.mono B0.out.size))
    clear b1
    go_wp2_with fail
    refine (specFrame_yes T _ h1 hts).mono ?_
    rintro e w2 ⟨rfl, b2⟩
    have B2 := hide (B1.out.trans (b2.mono B1.out.size))
    clear b2
    go_wp2
    go_ret
    rw [HE.out]
    exact ⟨rfl, B2.out⟩
  · have HE : Hid (sizeD q fs = 0) := by show _ = _; rw [HSD.out, if_neg h1]
    go_enter Tryz.func58, Tryz.ntmps58
    go_wp2_with fail
    refine (HB.out _ (changesAt_keep HF.out B0.out)).mono ?_
    rintro e w1 ⟨rfl, b1⟩
    have B1 := hide (B0.out.trans (b1.mono B0.out.size))
    clear b1
    go_wp2_with fail
    refine (specFrame_no T _ (by omega)).mono ?_
    rintro e w2 ⟨rfl, rfl⟩
    go_wp2
    go_ret
    rw [HE.out]
    exact ⟨rfl, B1.out⟩
end Go.Proofs.YtlcfblodflgleaaGreatDoor
