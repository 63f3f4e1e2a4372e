/- The program's ValueOf: the batch at a spot, and what it puts under the key. -/
import Derived.Test.YtjfagmjajpnacalDoorDirI2
import Derived.Test.YtjfagmjajpnacalDoorKeyL
import Derived.Laws.StructEq
namespace Go.Proofs.YtjfagmjajpnacalDoor
open Go.RowKit

theorem eql_spot (k1 k2 : ByteArray) (a b q1 q2 : Int) (r : Bool) (h : ((k1.toList == k2.toList) && (q1 == q2)) = r) : ∀ W : World, (binOp .eql 44 (.agg #[.string k1, .int .i64 a, .int .i64 b, .int .i64 q1]) (.agg #[.string k2, .int .i64 a, .int .i64 b, .int .i64 q2])).run Tryd.prog W = .ok (.bool r) W := by
  intro W
  have hst : Tryd.prog.stoodInHeld 44 = false := by kernel_rfl
  have hfl : Tryd.prog.underlying 44 = some (.struct (Tryd.prog.fieldsOf 44)) := by kernel_rfl
  rw [run_eql_struct, run_equalIn_struct W 9999 44 _ _ hfl hst]
  clear hfl hst
  subst h
  cases h1 : (k1.toList == k2.toList) <;> cases h2 : (q1 == q2) <;> simp [go_sem, h1, h2]
theorem valD_recI (fs : List FileD) (key : ByteArray) (seg pos seq : Int) : valD fs ⟨key, seg, pos, seq⟩ = if batOk (recI fs seg pos) = true then (if batSeq (recI fs seg pos) = seq then valIn key (batChs (recI fs seg pos)) else none) else none := by
  unfold valD valRight recI
  cases hd : diskOkD fs with
  | false => simp [batOk]
  | true =>
    simp only [if_true, Bool.true_and, Bool.and_eq_true, decide_eq_true_eq]
    by_cases h1 : batOk (recAt fs seg pos) = true
    · rw [if_pos h1]
      by_cases h2 : batSeq (recAt fs seg pos) = seq
      · rw [if_pos h2, if_pos ⟨h1, h2⟩]
      · rw [if_neg h2, if_neg (fun h => h2 h.2)]
    · rw [if_neg h1, if_neg (fun h => h1 h.1)]
theorem valIn_step {key : ByteArray} {A : ChangeD} {r : List ChangeD} {bsq seq : Int} : (if bsq = seq then valIn key (A :: r) else none) = if ((A.key.toList == key.toList) && (bsq == seq)) = true ∧ A.gone = false then some A.value else (if bsq = seq then valIn key r else none) := by
  have hk : (A.key.toList == key.toList) = decide (A.key = key) := by
    cases h : (A.key.toList == key.toList) with
    | false => exact (decide_eq_false (toList_ne.1 h)).symm
    | true =>
      refine (decide_eq_true ?_).symm
      apply Decidable.byContradiction
      intro hn
      rw [toList_ne.2 hn] at h
      cases h
  rw [hk]
  by_cases h2 : bsq = seq
  · subst h2
    simp [valIn]
  · simp [h2]

set_option maxRecDepth 100000 in
set_option maxHeartbeats 1600000 in
theorem implValueOf_any (fs : List FileD) (ao : Option Addr) (cap : Nat) (s : SpotD) (w : World) (hl : fs.length ≤ 1048576) (hfs : FilesAt w ao fs) (hsz : ∀ F ∈ fs, F.name.size ≤ 1048576 ∧ F.text.size ≤ 1048576) (hks : s.key.size ≤ 1048576) (hT : SumTab w) :
    Calls Tryd.prog 21 #[.agg #[.slice ao fs.length cap], .agg #[.string s.key, .int .i64 s.seg, .int .i64 s.pos, .int .i64 s.seq]] w fun e w' => e = .returned (.tuple #[.string (outTx (valD fs s)), .bool (valD fs s).isSome]) ∧ Below w.heap.size w w' := by
  have HBA := hide (fun W hW hTW => batchAt_any fs ao cap s W hl hW hsz hTW)
  have HF := hide hfs
  have HT := hide hT
  clear hfs hsz hT
  obtain ⟨key, seg, pos, seq⟩ := s
  simp only at HBA hks ⊢
  obtain ⟨wb, hwb⟩ : ∃ wb, wb = (w.alloc (.cells #[.slice ao fs.length cap] 31)).alloc (.cells #[.string key, .int .i64 seg, .int .i64 pos, .int .i64 seq] 44) := ⟨_, rfl⟩
  have HB0 : Hid (Below w.heap.size w wb) := by rw [hwb]; exact ((Below.refl _ w).alloc (Nat.le_refl _) _).alloc (by simp) _
  have hbs : wb.heap.size = w.heap.size + 2 := by rw [hwb]; simp
  have HC1 : Hid (wb.heap[w.heap.size + 1]? = some (.cells #[.string key, .int .i64 seg, .int .i64 pos, .int .i64 seq] 44 (0, 0))) := by
    show _ = _
    rw [hwb, show w.heap.size + 1 = (w.alloc (.cells #[.slice ao fs.length cap] 31)).heap.size from by simp]
    exact heap_alloc_new _ _
  obtain ⟨rI, HRI⟩ : ∃ r, Hid (recI fs seg pos = r) := ⟨_, hide rfl⟩
  rw [HRI.out] at HBA
  have hchl := batChs_len rI
  obtain ⟨bok, HBOK⟩ : ∃ b, Hid (batOk rI = b) := ⟨_, hide rfl⟩
  obtain ⟨bsq, HBSQ⟩ : ∃ b, Hid (batSeq rI = b) := ⟨_, hide rfl⟩
  obtain ⟨bch, HBCH⟩ : ∃ b, Hid (batChs rI = b) := ⟨_, hide rfl⟩
  rw [HBOK.out, HBSQ.out, HBCH.out] at HBA
  rw [HBCH.out] at hchl
  have HV : Hid (valD fs ⟨key, seg, pos, seq⟩ = if bok = true then (if bsq = seq then valIn key bch else none) else none) := by show _ = _; rw [valD_recI, HRI.out, HBOK.out, HBSQ.out, HBCH.out]
  clear HRI HBOK HBSQ HBCH
  cases bok with
  | false =>
    go_enter Tryd.func21, Tryd.ntmps21
    go_wp2_with fail
    rw [← hwb]
    clear hwb
    refine (HBA.out _ (filesAt_keep HF.out HB0.out) (sumTab_later HB0.out HT.out)).mono ?_
    rintro e w1 ⟨⟨v1, rfl, r1⟩, b1⟩
    obtain ⟨a1, c1, rfl, -⟩ := rowChange_at r1
    have HE : Hid (valD fs ⟨key, seg, pos, seq⟩ = none) := by show _ = _; rw [HV.out]; rfl
    go_wp2_with fail
    go_ret2
    rw [HE.out]
    exact ⟨rfl, (HB0.out.trans (b1.mono HB0.out.size)).alloc (by have := b1.size; omega) _⟩
  | true =>
    obtain ⟨X, HX⟩ : ∃ X, Hid ((if bsq = seq then valIn key bch else none) = X) := ⟨_, hide rfl⟩
    have HV2 : valD fs ⟨key, seg, pos, seq⟩ = X := by rw [HV.out, ← HX.out]; rfl
    rw [HV2]
    clear HV HV2
    go_enter Tryd.func21, Tryd.ntmps21
    go_wp2_with fail
    rw [← hwb]
    clear hwb
    refine (HBA.out _ (filesAt_keep HF.out HB0.out) (sumTab_later HB0.out HT.out)).mono ?_
    rintro e w1 ⟨⟨v1, rfl, r1⟩, b1⟩
    obtain ⟨a1, c1, rfl, -⟩ := rowChange_at r1
    have B1 := hide b1
    have R1 := hide (rowChange_rows r1)
    clear b1 r1
    obtain ⟨wc, hwc⟩ : ∃ wc, wc = w1.alloc (.cells #[.int .i64 bsq, .slice a1 bch.length c1] 73) := ⟨_, rfl⟩
    have BC : Hid (Below w1.heap.size w1 wc) := by rw [hwc]; exact (Below.refl _ w1).alloc (Nat.le_refl _) _
    have hcs : wc.heap.size = w1.heap.size + 1 := by rw [hwc]; simp
    have HCB : Hid (wc.heap[w1.heap.size]? = some (.cells #[.int .i64 bsq, .slice a1 bch.length c1] 73 (0, 0))) := by rw [hwc]; exact heap_alloc_new w1 _
    have HRC : Hid (ChangesAt wc a1 bch) := changesAt_keep R1.out BC.out
    have HSB : Hid (wc.heap[w.heap.size + 1]? = some (.cells #[.string key, .int .i64 seg, .int .i64 pos, .int .i64 seq] 44 (0, 0))) := (BC.out.block _ (by have := B1.out.size; omega)).trans ((B1.out.block _ (heap_lt HC1.out)).trans HC1.out)
    have HBc : Hid (Below w.heap.size w wc) := HB0.out.trans ((B1.out.trans (BC.out.mono B1.out.size)).mono (by omega))
    have hcc1 : wc.cell? ⟨w1.heap.size, 1, none⟩ = some (.slice a1 bch.length c1) := (cell_of_row wc _ 1 _ _ (0, 0) HCB.out).trans rfl
    go_wp2_with fail
    rw [← hwc]
    clear hwc hcc1
    go_loopw [22] (fun ii wr => ∃ (k : Nat), ii = .int .i64 k ∧ k ≤ bch.length ∧ Hid ((if bsq = seq then valIn key (bch.drop k) else none) = X) ∧ Hid (Below wc.heap.size wc wr)) (fun ii _ => bch.length - (intOf ii).toNat)
    case atStart => exact ⟨0, rfl, Nat.zero_le _, HX, Below.refl _ _⟩
    case round =>
      obtain ⟨k, rfl, hk, HK, HB⟩ := hrel
      have hws := HB.out.size
      by_cases hlt : k < bch.length
      · have hlt' : decide ((k : Int) < (bch.length : Int)) = true := by simp; omega
        have hi0 : (0 : Int) ≤ (k : Int) := by omega
        have hi1 : (k : Int) < (bch.length : Int) := by omega
        obtain ⟨b, off, hab, hbw, hd0, hd1, hd2⟩ := changesAt_keep HRC.out HB.out k hlt
        subst hab
        have hdk := List.drop_eq_getElem_cons hlt
        rw [hdk, valIn_step] at HK
        clear hdk
        generalize bch[k] = A at hd0 hd1 hd2 HK
        obtain ⟨wr1, hwr1⟩ : ∃ x, x = wr.alloc (.cells #[.string A.key, .string A.value, .bool A.gone] 77) := ⟨_, rfl⟩
        obtain ⟨wr2, hwr2⟩ : ∃ x, x = wr1.alloc (.cells #[.string A.key, .int .i64 seg, .int .i64 pos, .int .i64 bsq] 44) := ⟨_, rfl⟩
        have B1r : Hid (Below wr.heap.size wr wr1) := by rw [hwr1]; exact (Below.refl _ wr).alloc (Nat.le_refl _) _
        have hz1 : wr1.heap.size = wr.heap.size + 1 := by rw [hwr1]; simp
        have B2r : Hid (Below wr.heap.size wr wr2) := by rw [hwr2]; exact B1r.out.alloc B1r.out.size _
        have hwz : w.heap.size + 2 ≤ w1.heap.size := by have := B1.out.size; omega
        have hsb := (B1r.out.block (w.heap.size + 1) (by omega)).trans ((HB.out.block _ (heap_lt HSB.out)).trans HSB.out)
        have hsc := (B1r.out.block w1.heap.size (by omega)).trans ((HB.out.block _ (heap_lt HCB.out)).trans HCB.out)
        have hsb2 := (B2r.out.block (w.heap.size + 1) (by omega)).trans ((HB.out.block _ (heap_lt HSB.out)).trans HSB.out)
        have hch1 : wr1.heap[wr.heap.size]? = some (.cells #[.string A.key, .string A.value, .bool A.gone] 77 (0, 0)) := by rw [hwr1]; exact heap_alloc_new wr _
        have hch2 : wr2.heap[wr.heap.size]? = some (.cells #[.string A.key, .string A.value, .bool A.gone] 77 (0, 0)) := by rw [hwr2]; exact (Below.heap_alloc _ _ _ (by omega)).trans hch1
        have hf1 : wr1.cell? ⟨w.heap.size + 1, 1, none⟩ = some (.int .i64 seg) := (cell_of_row wr1 _ 1 _ _ (0, 0) hsb).trans rfl
        have hf2 : wr1.cell? ⟨w.heap.size + 1, 2, none⟩ = some (.int .i64 pos) := (cell_of_row wr1 _ 2 _ _ (0, 0) hsb).trans rfl
        have hf3 : wr1.cell? ⟨w1.heap.size, 0, none⟩ = some (.int .i64 bsq) := (cell_of_row wr1 _ 0 _ _ (0, 0) hsc).trans rfl
        have hf4 : wr2.cell? ⟨w.heap.size + 1, 0, none⟩ = some (.string key) := (cell_of_row wr2 _ 0 _ _ (0, 0) hsb2).trans rfl
        have hf5 : wr2.cell? ⟨w.heap.size + 1, 1, none⟩ = some (.int .i64 seg) := (cell_of_row wr2 _ 1 _ _ (0, 0) hsb2).trans rfl
        have hf6 : wr2.cell? ⟨w.heap.size + 1, 2, none⟩ = some (.int .i64 pos) := (cell_of_row wr2 _ 2 _ _ (0, 0) hsb2).trans rfl
        have hf7 : wr2.cell? ⟨w.heap.size + 1, 3, none⟩ = some (.int .i64 seq) := (cell_of_row wr2 _ 3 _ _ (0, 0) hsb2).trans rfl
        have hf8 : wr2.cell? ⟨wr.heap.size, 1, none⟩ = some (.string A.value) := (cell_of_row wr2 _ 1 _ _ (0, 0) hch2).trans rfl
        have hf9 : wr2.cell? ⟨wr.heap.size, 2, none⟩ = some (.bool A.gone) := (cell_of_row wr2 _ 2 _ _ (0, 0) hch2).trans rfl
        have hf0 : wr1.cell? ⟨wr.heap.size, 0, none⟩ = some (.string A.key) := (cell_of_row wr1 _ 0 _ _ (0, 0) hch1).trans rfl
        have BN : Hid (Below wc.heap.size wc wr2) := HB.out.trans (B2r.out.mono hws)
        have BN2 : Hid (Below w.heap.size w wr2) := HBc.out.trans (BN.out.mono (by have := HBc.out.size; omega))
        have hgd : Tryd.prog.eqGuardType Tryd.prog.depth 44 = false := by kernel_rfl
        clear hsb hsc hsb2 hch1 hch2 B1r B2r hz1
        subst hwr2 hwr1
        obtain ⟨r, HRR⟩ : ∃ r, Hid (((A.key.toList == key.toList) && (bsq == seq)) = r) := ⟨_, hide rfl⟩
        have heql := eql_spot A.key key seg pos bsq seq r HRR.out
        rw [HRR.out] at HK
        cases r with
        | false =>
          have HK1 : Hid ((if bsq = seq then valIn key (bch.drop (k + 1)) else none) = X) := by show _ = _; rw [← HK.out]; simp
          clear HK HRR
          go_wp2
          go_roundw
          case rel => exact ⟨k + 1, by go_num, by omega, HK1, BN⟩
          case measure => simp [intOf]; omega
        | true =>
          cases hgo : A.gone with
          | true =>
            have HK1 : Hid ((if bsq = seq then valIn key (bch.drop (k + 1)) else none) = X) := by show _ = _; rw [← HK.out]; simp [hgo]
            rw [hgo] at hf1 hf2 hf3 hf4 hf5 hf6 hf7 hf8 hf9 hf0 BN hd2
            clear HK HRR hgo
            go_wp2
            go_roundw
            case rel => exact ⟨k + 1, by go_num, by omega, HK1, BN⟩
            case measure => simp [intOf]; omega
          | false =>
            have hX : Hid (X = some A.value) := by show _ = _; rw [← HK.out]; simp [hgo]
            rw [hgo] at hf1 hf2 hf3 hf4 hf5 hf6 hf7 hf8 hf9 hf0 BN2 hd2
            clear HK HRR hgo
            go_wp2
            go_ret2
            rw [hX.out]
            exact ⟨rfl, BN2.out⟩
      · have hlt' : decide ((k : Int) < (bch.length : Int)) = false := by simp; omega
        have hX : Hid (X = none) := by
          show _ = _
          rw [← HK.out, List.drop_eq_nil_of_le (by omega)]
          simp [valIn]
        go_wp2
        go_ret2
        rw [hX.out]
        exact ⟨rfl, HBc.out.trans (HB.out.mono (by have := HBc.out.size; omega))⟩
end Go.Proofs.YtjfagmjajpnacalDoor
