import Derived.Laws.StructEq
import Derived.Lib.AppendStr
import Derived.Laws.AppendOwnNone
import Derived.Test.YtmmchemgegmhhaaGreatDoorGv45
import Derived.Test.YtmmchemgegmhhaaGreatDoorGv25
import Derived.Test.YtmmchemgegmhhaaGreatDoorGv46
import Derived.Test.YtmmchemgegmhhaaGreatDoorGv16
import Derived.Test.YtmmchemgegmhhaaGreatDoorGv27
import Derived.Test.YtmmchemgegmhhaaGreatDoorGv10
import Derived.Test.YtmmchemgegmhhaaGreatDoorGv20
import Derived.Test.YtmmchemgegmhhaaGreatDoorGv7
import Derived.Test.YtmmchemgegmhhaaGreatDoorGv0
import Derived.Test.YtmmchemgegmhhaaGreatDoorGv6
import Derived.Test.YtmmchemgegmhhaaGreatDoorGv12
set_option maxRecDepth 100000
set_option maxHeartbeats 3200000
namespace Go.Proofs.YtmmchemgegmhhaaGreatDoor
open Go.RowKit
theorem eql_spot (k1 k2 : ByteArray) (a b q1 q2 : Int) (r : Bool) (h : ((k1.toList == k2.toList) && (q1 == q2)) = r) : ∀ W : World, (binOp .eql 89 (.agg #[.string k1, .int .i64 a, .int .i64 b, .int .i64 q1]) (.agg #[.string k2, .int .i64 a, .int .i64 b, .int .i64 q2])).run Tryz.prog W = .ok (.bool r) W := by
  intro W
  have hst : Tryz.prog.stoodInHeld 89 = false := by kernel_rfl
  have hfl : Tryz.prog.underlying 89 = some (.struct (Tryz.prog.fieldsOf 89)) := by kernel_rfl
  rw [run_eql_struct, run_equalIn_struct W 9999 89 _ _ hfl hst]
  clear hfl hst
  subst h
  cases h1 : (k1.toList == k2.toList) <;> cases h2 : (q1 == q2) <;> simp [go_sem, h1, h2]
theorem valD_recI (fs : List FileD) (key : ByteArray) (seg pos seq : Int) : valD fs ⟨key, seg, pos, seq⟩ = if batOk (recI fs seg pos) = true then (if batSeq (recI fs seg pos) = seq then valIn key (batChs (recI fs seg pos)) else none) else none := by
  unfold valD valRight recI
  cases hd : diskOkD fs with
  | false => simp [batOk]
  | true =>
    simp only [if_true, Bool.true_and, Bool.and_eq_true, decide_eq_true_eq]
    by_cases h1 : batOk (recAt fs seg pos) = true
    · rw [if_pos h1]
      by_cases h2 : batSeq (recAt fs seg pos) = seq
      · rw [if_pos h2, if_pos ⟨h1, h2⟩]
      · rw [if_neg h2, if_neg (fun h => h2 h.2)]
    · rw [if_neg h1, if_neg (fun h => h1 h.1)]
theorem valIn_step {key : ByteArray} {A : ChangeD} {r : List ChangeD} {bsq seq : Int} : (if bsq = seq then valIn key (A :: r) else none) = if ((A.key.toList == key.toList) && (bsq == seq)) = true ∧ A.gone = false then some A.value else (if bsq = seq then valIn key r else none) := by
  have hk : (A.key.toList == key.toList) = decide (A.key = key) := by
    cases h : (A.key.toList == key.toList) with
    | false => exact (decide_eq_false (toList_ne.1 h)).symm
    | true =>
      refine (decide_eq_true ?_).symm
      apply Decidable.byContradiction
      intro hn
      rw [toList_ne.2 hn] at h
      cases h
  rw [hk]
  by_cases h2 : bsq = seq
  · subst h2
    simp [valIn]
  · simp [h2]
theorem implValueOf_any (fs : List FileD) (ao : Option Addr) (cap : Nat) (s : SpotD) (w : World) (hl : fs.length ≤ 1048576) (hfs : FilesAt w ao fs) (hsz : ∀ F ∈ fs, F.name.size ≤ 1048576 ∧ F.text.size ≤ 1048576) (hks : s.key.size ≤ 1048576) (hT : SumTab w) :
    Calls Tryz.prog 92 #[.agg #[.slice ao fs.length cap], .agg #[.string s.key, .int .i64 s.seg, .int .i64 s.pos, .int .i64 s.seq]] w fun e w' => e = .returned (.tuple #[.string (outTx (valD fs s)), .bool (valD fs s).isSome]) ∧ Below w.heap.size w w' := by
  have HBA := hide (fun W hW hTW => batchAt_any fs ao cap s W hl hW hsz hTW)
  have HF := hide hfs
  have HT := hide hT
  clear hfs hsz hT
  obtain ⟨key, seg, pos, seq⟩ := s
  simp only at HBA hks ⊢
  obtain ⟨wb, hwb⟩ : ∃ wb, wb = (w.alloc (.cells #[.slice ao fs.length cap] 27)).alloc (.cells #[.string key, .int .i64 seg, .int .i64 pos, .int .i64 seq] 89) := ⟨_, rfl⟩
  have HB0 : Hid (Below w.heap.size w wb) := by rw [hwb]; exact ((Below.refl _ w).alloc (Nat.le_refl _) _).alloc (by simp) _
  have hbs : wb.heap.size = w.heap.size + 2 := by rw [hwb]; simp
  have HC1 : Hid (wb.heap[w.heap.size + 1]? = some (.cells #[.string key, .int .i64 seg, .int .i64 pos, .int .i64 seq] 89 (0, 0))) := by
    show _ = _
    rw [hwb, show w.heap.size + 1 = (w.alloc (.cells #[.slice ao fs.length cap] 27)).heap.size from by simp]
    exact heap_alloc_new _ _
  obtain ⟨rI, HRI⟩ : ∃ r, Hid (recI fs seg pos = r) := ⟨_, hide rfl⟩
  rw [HRI.out] at HBA
  have hchl := batChs_len rI
  obtain ⟨bok, HBOK⟩ : ∃ b, Hid (batOk rI = b) := ⟨_, hide rfl⟩
  obtain ⟨bsq, HBSQ⟩ : ∃ b, Hid (batSeq rI = b) := ⟨_, hide rfl⟩
  obtain ⟨bch, HBCH⟩ : ∃ b, Hid (batChs rI = b) := ⟨_, hide rfl⟩
  rw [HBOK.out, HBSQ.out, HBCH.out] at HBA
  rw [HBCH.out] at hchl
  have HV : Hid (valD fs ⟨key, seg, pos, seq⟩ = if bok = true then (if bsq = seq then valIn key bch else none) else none) := by show _ = _; rw [valD_recI, HRI.out, HBOK.out, HBSQ.out, HBCH.out]
  clear HRI HBOK HBSQ HBCH
  cases bok with
  | false =>
    go_enter Tryz.func92, Tryz.ntmps92
    go_wp2_with fail
    rw [← hwb]
    clear hwb
    refine (HBA.out _ (filesAt_keep HF.out HB0.out) (sumTab_later HB0.out HT.out)).mono ?_
    rintro e w1 ⟨⟨v1, rfl, r1⟩, b1⟩
    obtain ⟨a1, c1, rfl, -⟩ := rowChange_at r1
    have HE : Hid (valD fs ⟨key, seg, pos, seq⟩ = none) := by show _ = _; rw [HV.out]; rfl
    go_wp2_with fail
    go_ret2
    rw [HE.out]
    exact ⟨rfl, (HB0.out.trans (b1.mono HB0.out.size)).alloc (by have := b1.size; omega) _⟩
  | true =>
    obtain ⟨X, HX⟩ : ∃ X, Hid ((if bsq = seq then valIn key bch else none) = X) := ⟨_, hide rfl⟩
    have HV2 : valD fs ⟨key, seg, pos, seq⟩ = X := by rw [HV.out, ← HX.out]; rfl
    rw [HV2]
    clear HV HV2
    go_enter Tryz.func92, Tryz.ntmps92
    go_wp2_with fail
    rw [← hwb]
    clear hwb
    refine (HBA.out _ (filesAt_keep HF.out HB0.out) (sumTab_later HB0.out HT.out)).mono ?_
    rintro e w1 ⟨⟨v1, rfl, r1⟩, b1⟩
    obtain ⟨a1, c1, rfl, -⟩ := rowChange_at r1
    have B1 := hide b1
    have R1 := hide (rowChange_rows r1)
    clear b1 r1
    obtain ⟨wc, hwc⟩ : ∃ wc, wc = w1.alloc (.cells #[.int .i64 bsq, .slice a1 bch.length c1] 96) := ⟨_, rfl⟩
    have BC : Hid (Below w1.heap.size w1 wc) := by rw [hwc]; exact (Below.refl _ w1).alloc (Nat.le_refl _) _
    have hcs : wc.heap.size = w1.heap.size + 1 := by rw [hwc]; simp
    have HCB : Hid (wc.heap[w1.heap.size]? = some (.cells #[.int .i64 bsq, .slice a1 bch.length c1] 96 (0, 0))) := by rw [hwc]; exact heap_alloc_new w1 _
    have HRC : Hid (ChangesAt wc a1 bch) := changesAt_keep R1.out BC.out
    have HSB : Hid (wc.heap[w.heap.size + 1]? = some (.cells #[.string key, .int .i64 seg, .int .i64 pos, .int .i64 seq] 89 (0, 0))) := (BC.out.block _ (by have := B1.out.size; omega)).trans ((B1.out.block _ (heap_lt HC1.out)).trans HC1.out)
    have HBc : Hid (Below w.heap.size w wc) := HB0.out.trans ((B1.out.trans (BC.out.mono B1.out.size)).mono (by omega))
    have hcc1 : wc.cell? ⟨w1.heap.size, 1, none⟩ = some (.slice a1 bch.length c1) := (cell_of_row wc _ 1 _ _ (0, 0) HCB.out).trans rfl
    go_wp2_with fail
    rw [← hwc]
    clear hwc hcc1
    go_loopw [22] (fun ii wr => ∃ (k : Nat), ii = .int .i64 k ∧ k ≤ bch.length ∧ Hid ((if bsq = seq then valIn key (bch.drop k) else none) = X) ∧ Hid (Below wc.heap.size wc wr)) (fun ii _ => bch.length - (intOf ii).toNat)
    case atStart => exact ⟨0, rfl, Nat.zero_le _, HX, Below.refl _ _⟩
    case round =>
      obtain ⟨k, rfl, hk, HK, HB⟩ := hrel
      have hws := HB.out.size
      by_cases hlt : k < bch.length
      · have hlt' : decide ((k : Int) < (bch.length : Int)) = true := by simp; omega
        have hi0 : (0 : Int) ≤ (k : Int) := by omega
        have hi1 : (k : Int) < (bch.length : Int) := by omega
        obtain ⟨b, off, hab, hbw, hd0, hd1, hd2⟩ := changesAt_keep HRC.out HB.out k hlt
        subst hab
        have hdk := List.drop_eq_getElem_cons hlt
        rw [hdk, valIn_step] at HK
        clear hdk
        generalize bch[k] = A at hd0 hd1 hd2 HK
        obtain ⟨wr1, hwr1⟩ : ∃ x, x = wr.alloc (.cells #[.string A.key, .string A.value, .bool A.gone] 144) := ⟨_, rfl⟩
        obtain ⟨wr2, hwr2⟩ : ∃ x, x = wr1.alloc (.cells #[.string A.key, .int .i64 seg, .int .i64 pos, .int .i64 bsq] 89) := ⟨_, rfl⟩
        have B1r : Hid (Below wr.heap.size wr wr1) := by rw [hwr1]; exact (Below.refl _ wr).alloc (Nat.le_refl _) _
        have hz1 : wr1.heap.size = wr.heap.size + 1 := by rw [hwr1]; simp
        have B2r : Hid (Below wr.heap.size wr wr2) := by rw [hwr2]; exact B1r.out.alloc B1r.out.size _
        have hwz : w.heap.size + 2 ≤ w1.heap.size := by have := B1.out.size; omega
        have hsb := (B1r.out.block (w.heap.size + 1) (by omega)).trans ((HB.out.block _ (heap_lt HSB.out)).trans HSB.out)
        have hsc := (B1r.out.block w1.heap.size (by omega)).trans ((HB.out.block _ (heap_lt HCB.out)).trans HCB.out)
        have hsb2 := (B2r.out.block (w.heap.size + 1) (by omega)).trans ((HB.out.block _ (heap_lt HSB.out)).trans HSB.out)
        have hch1 : wr1.heap[wr.heap.size]? = some (.cells #[.string A.key, .string A.value, .bool A.gone] 144 (0, 0)) := by rw [hwr1]; exact heap_alloc_new wr _
        have hch2 : wr2.heap[wr.heap.size]? = some (.cells #[.string A.key, .string A.value, .bool A.gone] 144 (0, 0)) := by rw [hwr2]; exact (Below.heap_alloc _ _ _ (by omega)).trans hch1
        have hf1 : wr1.cell? ⟨w.heap.size + 1, 1, none⟩ = some (.int .i64 seg) := (cell_of_row wr1 _ 1 _ _ (0, 0) hsb).trans rfl
        have hf2 : wr1.cell? ⟨w.heap.size + 1, 2, none⟩ = some (.int .i64 pos) := (cell_of_row wr1 _ 2 _ _ (0, 0) hsb).trans rfl
        have hf3 : wr1.cell? ⟨w1.heap.size, 0, none⟩ = some (.int .i64 bsq) := (cell_of_row wr1 _ 0 _ _ (0, 0) hsc).trans rfl
        have hf4 : wr2.cell? ⟨w.heap.size + 1, 0, none⟩ = some (.string key) := (cell_of_row wr2 _ 0 _ _ (0, 0) hsb2).trans rfl
        have hf5 : wr2.cell? ⟨w.heap.size + 1, 1, none⟩ = some (.int .i64 seg) := (cell_of_row wr2 _ 1 _ _ (0, 0) hsb2).trans rfl
        have hf6 : wr2.cell? ⟨w.heap.size + 1, 2, none⟩ = some (.int .i64 pos) := (cell_of_row wr2 _ 2 _ _ (0, 0) hsb2).trans rfl
        have hf7 : wr2.cell? ⟨w.heap.size + 1, 3, none⟩ = some (.int .i64 seq) := (cell_of_row wr2 _ 3 _ _ (0, 0) hsb2).trans rfl
        have hf8 : wr2.cell? ⟨wr.heap.size, 1, none⟩ = some (.string A.value) := (cell_of_row wr2 _ 1 _ _ (0, 0) hch2).trans rfl
        have hf9 : wr2.cell? ⟨wr.heap.size, 2, none⟩ = some (.bool A.gone) := (cell_of_row wr2 _ 2 _ _ (0, 0) hch2).trans rfl
        have hf0 : wr1.cell? ⟨wr.heap.size, 0, none⟩ = some (.string A.key) := (cell_of_row wr1 _ 0 _ _ (0, 0) hch1).trans rfl
        have BN : Hid (Below wc.heap.size wc wr2) := HB.out.trans (B2r.out.mono hws)
        have BN2 : Hid (Below w.heap.size w wr2) := HBc.out.trans (BN.out.mono (by have := HBc.out.size; omega))
        have hgd : Tryz.prog.eqGuardType Tryz.prog.depth 89 = false := by kernel_rfl
        clear hsb hsc hsb2 hch1 hch2 B1r B2r hz1
        subst hwr2 hwr1
        obtain ⟨r, HRR⟩ : ∃ r, Hid (((A.key.toList == key.toList) && (bsq == seq)) = r) := ⟨_, hide rfl⟩
        have heql := eql_spot A.key key seg pos bsq seq r HRR.out
        rw [HRR.out] at HK
        cases r with
        | false =>
          have HK1 : Hid ((if bsq = seq then valIn key (bch.drop (k + 1)) else none) = X) := by show _ = _; rw [← HK.out]; simp
          clear HK HRR
          go_wp2
          go_roundw
          case rel => exact ⟨k + 1, by go_num, by omega, HK1, BN⟩
          case measure => simp [intOf]; omega
        | true =>
          cases hgo : A.gone with
          | true =>
            have HK1 : Hid ((if bsq = seq then valIn key (bch.drop (k + 1)) else none) = X) := by show _ = _; rw [← HK.out]; simp [hgo]
            rw [hgo] at hf1 hf2 hf3 hf4 hf5 hf6 hf7 hf8 hf9 hf0 BN hd2
            clear HK HRR hgo
            go_wp2
            go_roundw
            case rel => exact ⟨k + 1, by go_num, by omega, HK1, BN⟩
            case measure => simp [intOf]; omega
          | false =>
            have hX : Hid (X = some A.value) := by show _ = _; rw [← HK.out]; simp [hgo]
            rw [hgo] at hf1 hf2 hf3 hf4 hf5 hf6 hf7 hf8 hf9 hf0 BN2 hd2
            clear HK HRR hgo
            go_wp2
            go_ret2
            rw [hX.out]
            exact ⟨rfl, BN2.out⟩
      · have hlt' : decide ((k : Int) < (bch.length : Int)) = false := by simp; omega
        have hX : Hid (X = none) := by
          show _ = _
          rw [← HK.out, List.drop_eq_nil_of_le (by omega)]
          simp [valIn]
        go_wp2
        go_ret2
        rw [hX.out]
        exact ⟨rfl, HBc.out.trans (HB.out.mono (by have := HBc.out.size; omega))⟩
def LiveAt (w : World) (B : Nat) (v : Value) (L : List ChangeD) : Prop := (∃ ao, v = .slice ao 0 0 ∧ L = []) ∨ (0 < L.length ∧ w.ownsRow B 144 3 v L.length (cellsChange L))
theorem liveAt_below {w w' : World} {B : Nat} {v : Value} {L : List ChangeD} (h : LiveAt w B v L) (hb : Below w.heap.size w w') : LiveAt w' B v L := by
  rcases h with h | ⟨h0, h⟩
  · exact .inl h
  · exact .inr ⟨h0, ownsRow_below h hb⟩
theorem liveAt_at {w : World} {B : Nat} {v : Value} {L : List ChangeD} (h : LiveAt w B v L) : ∃ ao cap, v = .slice ao L.length cap ∧ ChangesAt w ao L := by
  rcases h with ⟨ao, rfl, rfl⟩ | ⟨-, h⟩
  · exact ⟨ao, 0, rfl, fun j hj => absurd hj (by simp)⟩
  · exact rowChange_at (rowChange_own h)
theorem eql_spot4 (k1 k2 : ByteArray) (a1 a2 b1 b2 q1 q2 : Int) (r : Bool) (h : ((k1.toList == k2.toList) && ((a1 == a2) && ((b1 == b2) && (q1 == q2)))) = r) : ∀ W : World, (binOp .eql 89 (.agg #[.string k1, .int .i64 a1, .int .i64 b1, .int .i64 q1]) (.agg #[.string k2, .int .i64 a2, .int .i64 b2, .int .i64 q2])).run Tryz.prog W = .ok (.bool r) W := by
  intro W
  have hst : Tryz.prog.stoodInHeld 89 = false := by kernel_rfl
  have hfl : Tryz.prog.underlying 89 = some (.struct (Tryz.prog.fieldsOf 89)) := by kernel_rfl
  rw [run_eql_struct, run_equalIn_struct W 9999 89 _ _ hfl hst]
  clear hfl hst
  subst h
  cases h1 : (k1.toList == k2.toList) <;> cases h2 : (a1 == a2) <;> cases h3 : (b1 == b2) <;> cases h4 : (q1 == q2) <;> simp [go_sem, h1, h2, h3, h4]
def SpotG (wn wx : World) (β : Nat) (T : SpotD) : Prop := wx.heap[β]? = some (.cells #[.string T.key, .int .i64 T.seg, .int .i64 T.pos, .int .i64 T.seq] 89 (0, 0)) ∧ wn.heap.size ≤ β ∧ Below wn.heap.size wn wx
theorem spotG_new {wn w2 : World} (T : SpotD) (e2 : Below wn.heap.size wn w2) : SpotG wn (w2.alloc (.cells #[.string T.key, .int .i64 T.seg, .int .i64 T.pos, .int .i64 T.seq] 89)) w2.heap.size T :=
  ⟨heap_alloc_new w2 _, e2.size, e2.alloc e2.size _⟩
theorem spotG_old {wn w2 : World} {β : Nat} {c0 c1 c2 c3 : Value} (T : SpotD) (e2 : Below wn.heap.size wn w2) (hb : w2.heap[β]? = some (.cells #[c0, c1, c2, c3] 89 (0, 0))) (wb : wn.heap.size ≤ β) :
    SpotG wn ((((w2.setCell ⟨β, 0, none⟩ (.string T.key)).setCell ⟨β, 1, none⟩ (.int .i64 T.seg)).setCell ⟨β, 2, none⟩ (.int .i64 T.pos)).setCell ⟨β, 3, none⟩ (.int .i64 T.seq)) β T := by
  obtain ⟨y0, y1⟩ := box4s (.string T.key) (.int .i64 T.seg) (.int .i64 T.pos) (.int .i64 T.seq) hb e2 wb _ rfl
  exact ⟨y0, wb, y1⟩
theorem liveChanges_any (D : List SpotD) (S : SegD) (j g : Nat) (ar a a' : Option Addr) (cr c c' K : Nat) (w : World) (hD : D.length ≤ 1000000) (hsD : srtS D) (hg : g < w.heap.size) (hc6 : w.cell? ⟨g, 6, none⟩ = some (.slice ar D.length cr)) (hds : SpotsAt w ar D) (hj : j < S.bs.length) (hb : BatchesAt w a S.bs) (hp : RowNat w K (.slice a' S.pls.length c') S.pls) (hl : S.bs[j].chs.length ≤ 40) :
    Calls Tryz.prog 104 #[.pointer (some ⟨g, 0, none⟩), .agg #[.int .i64 (S.num : Int), .int .i64 (S.frm : Int), .slice a S.bs.length c, .slice a' S.pls.length c', .int .i64 (S.fin : Int), .bool S.right, .bool S.torn], .int .i64 (j : Int)] w fun e w' => (∃ ao cap, e = .returned (.slice ao (liveI D (S.num : Int) (S.pls[j]'(by rw [S.pls_len]; exact hj) : Int) S.bs[j].seq S.bs[j].chs).length cap) ∧ ChangesAt w' ao (liveI D (S.num : Int) (S.pls[j]'(by rw [S.pls_len]; exact hj) : Int) S.bs[j].seq S.bs[j].chs)) ∧ Below w.heap.size w w' := by
  have HD := hide hds
  have HPL := hide S.pls_len
  obtain ⟨gp, hgp, hgpw, hgc⟩ := rowNat_at hp j (by have := HPL.out; omega)
  obtain ⟨b0, off0, hab, hbw, hc0, a2, c2, hc1, hch⟩ := hb j hj
  subst hab hgp
  have HCH := hide hch
  have HSO := hide (fun key W h => spotOf_any D ar cr key W hD hsD h)
  obtain ⟨P, HP⟩ : ∃ P, Hid ((S.pls[j]'(by have := HPL.out; omega) : Nat) = P) := ⟨_, hide rfl⟩
  rw [HP.out] at hgc ⊢
  obtain ⟨q, HQ⟩ : ∃ q, Hid (S.bs[j].seq = q) := ⟨_, hide rfl⟩
  obtain ⟨cs, HCS⟩ : ∃ q, Hid (S.bs[j].chs = q) := ⟨_, hide rfl⟩
  rw [HQ.out] at hc0 ⊢
  rw [HCS.out] at hc1 HCH hl ⊢
  clear hb hp hds hch hsD
  obtain ⟨np, HNP⟩ : ∃ n, Hid (S.pls.length = n) := ⟨_, hide rfl⟩
  rw [HNP.out]
  have hjp : j < np := by have := HPL.out; have := HNP.out; omega
  obtain ⟨nb, HNB⟩ : ∃ n, Hid (S.bs.length = n) := ⟨_, hide rfl⟩
  rw [HNB.out] at hj ⊢
  obtain ⟨wb, hwb⟩ : ∃ wb, wb = (w.alloc (.cells #[.int .i64 (S.num : Int), .int .i64 (S.frm : Int), .slice (some ⟨b0, off0, none⟩) nb c, .slice (some ⟨gp, 0, none⟩) np c', .int .i64 (S.fin : Int), .bool S.right, .bool S.torn] 161)).alloc (.cells #[.int .i64 q, .slice a2 cs.length c2] 96) := ⟨_, rfl⟩
  have HB0 : Hid (Below w.heap.size w wb) := by rw [hwb]; exact ((Below.refl _ w).alloc (Nat.le_refl _) _).alloc (by simp) _
  have hbs : wb.heap.size = w.heap.size + 2 := by rw [hwb]; simp
  have HBK : Hid (wb.heap[w.heap.size]? = some (.cells #[.int .i64 (S.num : Int), .int .i64 (S.frm : Int), .slice (some ⟨b0, off0, none⟩) nb c, .slice (some ⟨gp, 0, none⟩) np c', .int .i64 (S.fin : Int), .bool S.right, .bool S.torn] 161 (0, 0))) := by rw [hwb]; exact (Below.heap_alloc _ _ _ (by simp)).trans (heap_alloc_new w _)
  have HBB : Hid (wb.heap[w.heap.size + 1]? = some (.cells #[.int .i64 q, .slice a2 cs.length c2] 96 (0, 0))) := by
    rw [hwb]
    have := heap_alloc_new (w.alloc (.cells #[.int .i64 (S.num : Int), .int .i64 (S.frm : Int), .slice (some ⟨b0, off0, none⟩) nb c, .slice (some ⟨gp, 0, none⟩) np c', .int .i64 (S.fin : Int), .bool S.right, .bool S.torn] 161)) (.cells #[.int .i64 q, .slice a2 cs.length c2] 96)
    rwa [World.size_alloc] at this
  have hi0 : (0 : Int) ≤ (j : Int) := by omega
  have hi1 : (j : Int) < (nb : Int) := by omega
  have hi2 : (j : Int) < (np : Int) := by omega
  go_enter Tryz.func104, Tryz.ntmps104
  go_wp2_with fail
  rw [← hwb]
  clear hwb hc0 hc1
  have hw6 : wb.cell? ⟨g, 6, none⟩ = some (.slice ar D.length cr) := (HB0.out.cell (p := ⟨g, 6, none⟩) hg).trans hc6
  have hwp : wb.cell? ⟨gp, j, none⟩ = some (.int .i64 (P : Int)) := (HB0.out.cell (p := ⟨gp, j, none⟩) hgpw).trans hgc
  have hgw : g < wb.heap.size := by omega
  have hgpw2 : gp < wb.heap.size := by omega
  obtain ⟨hz0, -, -, hz3, -⟩ := seven_cells HBK.out
  have hz8 : wb.cell? ⟨w.heap.size + 1, 0, none⟩ = some (.int .i64 q) := (cell_of_row wb _ 0 _ _ (0, 0) HBB.out).trans rfl
  clear hc6 hgc
  go_loopw [8, 24] (fun vo ii wr => ∃ (k : Nat), ii = .int .i64 k ∧ k ≤ cs.length ∧ Hid (LiveAt wr wb.heap.size vo (liveI D (S.num : Int) (P : Int) q (cs.take k))) ∧ Hid (Below wb.heap.size wb wr)) (fun _ ii _ => cs.length - (intOf ii).toNat)
  case atStart => exact ⟨0, rfl, Nat.zero_le _, .inl ⟨_, rfl, rfl⟩, Below.refl _ _⟩
  case round =>
    obtain ⟨k, rfl, hk, HO, HB⟩ := hrel
    have hws := HB.out.size
    by_cases hlt : k < cs.length
    · have hlt' : decide ((k : Int) < (cs.length : Int)) = true := by simp; omega
      obtain ⟨b, off, rfl, hbw2, hd0, hd1, hd2⟩ := changesAt_keep HCH.out (HB0.out.trans (HB.out.mono HB0.out.size)) k hlt
      have htk := hide (liveI_take (dir := D) (seg := (S.num : Int)) (pos := (P : Int)) (q := q) hlt)
      generalize cs[k] = A at hd0 hd1 hd2 htk
      obtain ⟨L, HL⟩ : ∃ L, Hid (liveI D (S.num : Int) (P : Int) q (cs.take k) = L) := ⟨_, hide rfl⟩
      have hLl : L.length ≤ 1048576 := by
        have := liveI_len D (S.num : Int) (P : Int) q (cs.take k)
        rw [HL.out, List.length_take] at this
        omega
      rw [HL.out] at HO htk
      have hk0 : (0 : Int) ≤ (k : Int) := by omega
      have hk1 : (k : Int) < (cs.length : Int) := by omega
      obtain ⟨wn, hwn⟩ : ∃ x, x = wr.alloc (.cells #[.string A.key, .string A.value, .bool A.gone] 144) := ⟨_, rfl⟩
      have BN0 : Hid (Below wr.heap.size wr wn) := by rw [hwn]; exact (Below.refl _ _).alloc (Nat.le_refl _) _
      have BN : Hid (Below wb.heap.size wb wn) := HB.out.trans (BN0.out.mono hws)
      have HBN : Hid (wn.heap[wr.heap.size]? = some (.cells #[.string A.key, .string A.value, .bool A.gone] 144 (0, 0))) := by rw [hwn]; exact heap_alloc_new _ _
      have hnl : wr.heap.size < wn.heap.size := heap_lt HBN.out
      have hwbn : wb.heap.size ≤ wn.heap.size := BN.out.size
      have HON := hide (liveAt_below HO.out BN0.out)
      have KS : Hid (∀ X, Below wn.heap.size wn X → (X.cell? ⟨g, 6, none⟩ = some (.slice ar D.length cr) ∧ X.cell? ⟨wr.heap.size, 0, none⟩ = some (.string A.key))) := fun X hX => ⟨((BN.out.trans (hX.mono BN.out.size)).cell (p := ⟨g, 6, none⟩) hgw).trans hw6, (hX.cell (p := ⟨wr.heap.size, 0, none⟩) hnl).trans ((cell_of_row wn _ 0 _ _ (0, 0) HBN.out).trans rfl)⟩
      obtain ⟨T, HTT⟩ : ∃ T, Hid (outSp (findS D A.key) = T) := ⟨_, hide rfl⟩
      obtain ⟨bt, HBT⟩ : ∃ T, Hid ((findS D A.key).isSome = T) := ⟨_, hide rfl⟩
      have HSA : Hid (∀ X, Below wn.heap.size wn X → Calls Tryz.prog 93 #[.slice ar D.length cr, .string A.key] X fun e w' => e = .returned (.tuple #[.agg #[.string T.key, .int .i64 T.seg, .int .i64 T.pos, .int .i64 T.seq], .bool bt]) ∧ Below X.heap.size X w') := fun X hX => by
        have h := HSO.out A.key X (spotsAt_keep HD.out (HB0.out.trans ((BN.out.trans (hX.mono BN.out.size)).mono HB0.out.size)))
        rw [HTT.out, HBT.out] at h
        exact h
      obtain ⟨hkq0, hkq1⟩ := KS.out wn (Below.refl _ _)
      go_upto_region 20 with fail
      rw [← hwn]
      clear hwn hd0 hd1 hd2
      go_cut [11, 12] from 99 (fun s11 s12 wx => ∃ β, s11 = .pointer (some ⟨β, 0, none⟩) ∧ s12 = .bool bt ∧ SpotG wn wx β T)
      case first =>
        rename_i hJ9 hK9
        go_region_held3 (fun w' => w'.cell? ⟨g, 6, none⟩ = some (.slice ar D.length cr) ∧ w'.cell? ⟨wr.heap.size, 0, none⟩ = some (.string A.key)) ((refine KS.out _ ?_; first | (exact (((e2.setCell (p := ⟨_, 0, none⟩) wbb _).setCell (p := ⟨_, 1, none⟩) wbb _).setCell (p := ⟨_, 2, none⟩) wbb _).setCell (p := ⟨_, 3, none⟩) wbb _) | (exact e2) | (exact e2.alloc e2.size _) | (exact (Below.refl _ _).drew) | (exact ((Below.refl _ wn).alloc (Nat.le_refl _) _).drew) | fail)) ((first | (go_at_call 93; refine (HSA.out _ ?_).mono ?_; exact (Below.refl _ _).drew; rintro e w2 ⟨rfl, b2⟩; have e2 : Below wn.heap.size wn w2 := ((Below.refl _ _).drew).trans b2) | (go_at_call 93; refine (HSA.out _ ?_).mono ?_; exact ((Below.refl _ wn).alloc (Nat.le_refl _) _).drew; rintro e w2 ⟨rfl, b2⟩; have e2 : Below wn.heap.size wn w2 := (((Below.refl _ wn).alloc (Nat.le_refl _) _).drew).trans (b2.mono (by simp)); have q2 : Hid (w2.heap[wn.heap.size]? = some (.cells #[.string ⟨#[]⟩, .int .i64 0, .int .i64 0, .int .i64 0] 89 (0, 0))) := (b2.block _ (by simp)).trans (heap_alloc_new wn _); have wbb := Nat.le_refl wn.heap.size; obtain ⟨xx0, xx1, xx2, xx3, ff0, ff1, ff2, ff3⟩ := fourC q2.out)))
        all_goals (refine hK9 _ _ (Met.intro (hJ9 _ _ ?_)); (repeat apply Exists.intro); refine ⟨?_, rfl⟩)
        all_goals (refine ⟨_, rfl, rfl, ?_⟩; first | (have qq := q2.out; exact spotG_old T e2 qq wbb) | (exact spotG_new T e2))
      case rest =>
        obtain ⟨β, rfl, rfl, hG1, hG2, hG3⟩ := hcut
        have B9 := hide hG3
        have hG9 := hide hG1
        obtain ⟨hx0, hx1, hx2, hx3, -⟩ := fourC hG1
        have BW := hide (BN.out.trans (hG3.mono BN.out.size))
        have hn0 := (hG3.cell (p := ⟨wr.heap.size, 0, none⟩) hnl).trans ((cell_of_row wn _ 0 _ _ (0, 0) HBN.out).trans rfl)
        have hn1 := (hG3.cell (p := ⟨wr.heap.size, 1, none⟩) hnl).trans ((cell_of_row wn _ 1 _ _ (0, 0) HBN.out).trans rfl)
        have hn2 := (hG3.cell (p := ⟨wr.heap.size, 2, none⟩) hnl).trans ((cell_of_row wn _ 2 _ _ (0, 0) HBN.out).trans rfl)
        have hs0 := (BW.out.cell (p := ⟨w.heap.size, 0, none⟩) (heap_lt HBK.out)).trans hz0
        have hs3 := (BW.out.cell (p := ⟨w.heap.size, 3, none⟩) (heap_lt HBK.out)).trans hz3
        have hs8 := (BW.out.cell (p := ⟨w.heap.size + 1, 0, none⟩) (heap_lt HBB.out)).trans hz8
        have hsp := (BW.out.cell (p := ⟨gp, j, none⟩) hgpw2).trans hwp
        have hgd : Tryz.prog.eqGuardType Tryz.prog.depth 89 = false := by kernel_rfl
        have HO9 := hide (liveAt_below HON.out hG3)
        clear hG1 hG3 hkq0 hkq1 KS HSA
        obtain ⟨r, HRR⟩ : ∃ r, Hid (((T.key.toList == A.key.toList) && ((T.seg == (S.num : Int)) && ((T.pos == (P : Int)) && (T.seq == q)))) = r) := ⟨_, hide rfl⟩
        have heql := eql_spot4 T.key A.key T.seg (S.num : Int) T.pos (P : Int) T.seq q r HRR.out
        have HLB : Hid (liveB D (S.num : Int) (P : Int) q A = (bt && r)) := by
          show _ = _
          rw [← HRR.out, ← HBT.out, ← HTT.out]
          unfold liveB
          cases hf : findS D A.key with
          | none => rfl
          | some Z =>
            have hkz := List.find?_some hf
            simp only [outSp, Option.map_some, Option.getD_some, Option.isSome_some, Bool.true_and, hkz]
        cases bt with
        | false =>
          rw [HLB.out, Bool.false_and, if_neg (by decide), List.append_nil] at htk
          go_wp2_with fail
          go_quiet (fail)
          go_wp2_with fail
          go_roundw
          case rel =>
            refine ⟨k + 1, by go_num, by omega, ?_, below_drewN BW.out _⟩
            show LiveAt _ _ _ _
            rw [htk.out]
            exact liveAt_below HO9.out (drewN_below _ _)
          case measure => simp [intOf]; omega
        | true =>
          cases r with
          | false =>
            rw [HLB.out, Bool.true_and, if_neg (by decide), List.append_nil] at htk
            go_wp2_with fail
            go_quiet (fail)
            go_wp2_with fail
            go_roundw
            case rel =>
              refine ⟨k + 1, by go_num, by omega, ?_, below_drewN BW.out _⟩
              show LiveAt _ _ _ _
              rw [htk.out]
              exact liveAt_below HO9.out (drewN_below _ _)
            case measure => simp [intOf]; omega
          | true =>
            rw [HLB.out, Bool.true_and, if_pos rfl] at htk
            rcases HO9.out with ⟨ao5, hu5, hL5⟩ | ⟨h05, ho5⟩
            · subst hu5
              have HL5 := hide hL5
              clear hL5
              go_wp2_with fail
              go_quiet (fail)
              have B9d := hide (below_drewN BW.out nq)
              have hs9 : wb.heap.size ≤ wc.heap.size := BW.out.size
              go_wp2_with (at_builtin; refine app_change0 _ wb.heap.size (by rfl) _ _ (by rfl) ao5 A (by rfl) wc.heap.size (by rfl) (heap_alloc_new (wc.drewN nq) _) (by simp; omega) ?_; intro g5 cap5 w5 ho5 hb5 hg5 hgl5; have HO5 := hide ho5; have HB5 := hide hb5; clear ho5 hb5 hg5 hgl5)
              go_roundw
              case rel =>
                refine ⟨k + 1, by go_num, by omega, ?_, (B9d.out.alloc (by show _ ≤ wc.heap.size; omega) _).trans HB5.out⟩
                show LiveAt _ _ _ _
                rw [htk.out, HL5.out]
                exact .inr ⟨by simp, HO5.out⟩
              case measure => simp [intOf]; omega
            · have HO6 := hide ho5
              clear ho5
              go_wp2_with fail
              go_quiet (fail)
              have B9d := hide (below_drewN BW.out nq)
              have HO7 := hide (ownsRow_below HO6.out (drewN_below _ nq))
              have hs9 : wb.heap.size ≤ wc.heap.size := BW.out.size
              go_wp2_with (at_builtin; refine app_change _ wb.heap.size (by rfl) _ _ (by rfl) _ L A (by rfl) (HO7.out.alloc _) wc.heap.size (by rfl) (heap_alloc_new (wc.drewN nq) _) hLl (by simp; omega) ?_; intro g5 cap5 w5 ho5 hb5 hg5 hgl5; have HO5 := hide ho5; have HB5 := hide hb5; clear ho5 hb5 hg5 hgl5)
              go_roundw
              case rel =>
                refine ⟨k + 1, by go_num, by omega, ?_, (B9d.out.alloc (by show _ ≤ wc.heap.size; omega) _).trans HB5.out⟩
                show LiveAt _ _ _ _
                rw [htk.out]
                exact .inr ⟨by simp, HO5.out⟩
              case measure => simp [intOf]; omega
    · have hlt' : decide ((k : Int) < (cs.length : Int)) = false := by simp; omega
      have hke : k = cs.length := by omega
      subst hke
      rw [List.take_length] at HO
      obtain ⟨ao9, cap9, hv9, hat9⟩ := liveAt_at HO.out
      subst hv9
      have HAT := hide hat9
      clear hat9
      go_wp2
      go_ret
      exact ⟨⟨_, _, rfl, HAT.out⟩, HB0.out.trans (HB.out.mono HB0.out.size)⟩
def livK (D : List SpotD) (S : SegD) (k : Nat) : List ChangeD := match S.bs[k]? with
  | none => []
  | some b => liveI D (S.num : Int) ((S.hd + totD (S.bs.take k) : Nat) : Int) b.seq b.chs
theorem livK_at {D : List SpotD} {S : SegD} {k : Nat} (h : k < S.bs.length) : livK D S k = liveI D (S.num : Int) (S.pls[k]'(by rw [S.pls_len]; exact h) : Int) S.bs[k].seq S.bs[k].chs := by
  unfold livK
  rw [List.getElem?_eq_getElem h]
  have := plsB_get S.bs S.hd k (by rw [plsB_len]; exact h)
  have e : S.pls[k]'(by rw [S.pls_len]; exact h) = S.hd + totD (S.bs.take k) := this
  rw [e]
def SegsAt (w : World) (K : Nat) (ao : Option Addr) (l : List SegD) : Prop := ∀ j (hj : j < l.length), ∃ g, ao = some ⟨g, 0, none⟩ ∧ g < w.heap.size ∧
    w.cell? ⟨g, j * 7, none⟩ = some (.int .i64 (l[j].num : Int)) ∧ w.cell? ⟨g, j * 7 + 1, none⟩ = some (.int .i64 (l[j].frm : Int)) ∧ (∃ a c, w.cell? ⟨g, j * 7 + 2, none⟩ = some (.slice a l[j].bs.length c) ∧ RowBatch w K (.slice a l[j].bs.length c) l[j].bs) ∧
    (∃ a c, w.cell? ⟨g, j * 7 + 3, none⟩ = some (.slice a l[j].pls.length c) ∧ RowNat w K (.slice a l[j].pls.length c) l[j].pls) ∧ w.cell? ⟨g, j * 7 + 4, none⟩ = some (.int .i64 (l[j].fin : Int)) ∧ w.cell? ⟨g, j * 7 + 5, none⟩ = some (.bool l[j].right) ∧ w.cell? ⟨g, j * 7 + 6, none⟩ = some (.bool l[j].torn)
theorem segsAt_of {w : World} {B K cap n : Nat} {ao : Option Addr} {l : List SegD} (h : BuildG w B K (.slice ao n cap) l) : SegsAt w K ao l := fun j hj => buildG_at h j hj
theorem segsAt_keep {w w' : World} {K : Nat} {ao : Option Addr} {l : List SegD} (h : SegsAt w K ao l) (hb : Below w.heap.size w w') : SegsAt w' K ao l := by
  intro j hj
  obtain ⟨g, h1, h2, c0, c1, ⟨a, c, c2, r2⟩, ⟨a', c', c3, r3⟩, c4, c5, c6⟩ := h j hj
  exact ⟨g, h1, Nat.lt_of_lt_of_le h2 hb.size, (hb.cell (p := ⟨g, j * 7, none⟩) h2).trans c0, (hb.cell (p := ⟨g, j * 7 + 1, none⟩) h2).trans c1, ⟨a, c, (hb.cell (p := ⟨g, j * 7 + 2, none⟩) h2).trans c2, rowBatch_below r2 hb⟩, ⟨a', c', (hb.cell (p := ⟨g, j * 7 + 3, none⟩) h2).trans c3, rowNat_below r3 hb⟩, (hb.cell (p := ⟨g, j * 7 + 4, none⟩) h2).trans c4, (hb.cell (p := ⟨g, j * 7 + 5, none⟩) h2).trans c5, (hb.cell (p := ⟨g, j * 7 + 6, none⟩) h2).trans c6⟩
end Go.Proofs.YtmmchemgegmhhaaGreatDoor
