import Derived.Test.YtmmchemgegmhhaaGreatDoorGv44
import Derived.Test.YtmmchemgegmhhaaGreatDoorGv2
import Derived.Test.YtmmchemgegmhhaaGreatDoorGv4
import Derived.Test.YtmmchemgegmhhaaGreatDoorGv23
import Derived.Test.YtmmchemgegmhhaaGreatDoorGv25
set_option maxRecDepth 100000
set_option maxHeartbeats 1600000
namespace Go.Proofs.YtmmchemgegmhhaaGreatDoor
open Go.RowKit
def valIn (key : ByteArray) : List ChangeD → Option ByteArray
  | [] => none
  | A :: r => if A.key = key ∧ A.gone = false then some A.value else valIn key r
def valRight (fs : List FileD) (s : SpotD) : Bool := diskOkD fs && (batOk (recAt fs s.seg s.pos) && decide (batSeq (recAt fs s.seg s.pos) = s.seq))
def valD (fs : List FileD) (s : SpotD) : Option ByteArray := if valRight fs s = true then valIn s.key (batChs (recAt fs s.seg s.pos)) else none
def outTx : Option ByteArray → ByteArray
  | none => ⟨#[]⟩
  | some t => t
theorem valD_disk {fs : List FileD} {s : SpotD} (h : diskOkD fs = false) : valD fs s = none := by unfold valD valRight; rw [h]; rfl
theorem valD_ok {fs : List FileD} {s : SpotD} (h : batOk (recAt fs s.seg s.pos) = false) : valD fs s = none := by unfold valD valRight; rw [h]; simp
theorem valD_seq {fs : List FileD} {s : SpotD} (h : batSeq (recAt fs s.seg s.pos) ≠ s.seq) : valD fs s = none := by unfold valD valRight; simp [h]
theorem valD_in {fs : List FileD} {s : SpotD} (h1 : diskOkD fs = true) (h2 : batOk (recAt fs s.seg s.pos) = true) (h3 : batSeq (recAt fs s.seg s.pos) = s.seq) : valD fs s = valIn s.key (batChs (recAt fs s.seg s.pos)) := by unfold valD valRight; rw [h1, h2, h3]; simp
theorem batChs_len (r : Option ByteArray) : (batChs r).length ≤ 40 := by
  cases r with
  | none => exact Nat.zero_le _
  | some t =>
    show (rdChanges t).length ≤ 40
    cases h : rdOk t with
    | false => simp [rdChanges, h]
    | true =>
      have h1 := (rd_text h).1
      unfold textOkD at h1
      simp only [Bool.and_eq_true] at h1
      exact (batchOkD_bounds h1.1).2.2.2
theorem specValueOf_any (fs : List FileD) (ao : Option Addr) (cap : Nat) (s : SpotD) (w : World) (hl : fs.length ≤ 1048576) (hfs : FilesAt w ao fs) (hsz : ∀ F ∈ fs, F.name.size ≤ 1048576 ∧ F.text.size ≤ 1048576) :
    Calls Tryz.prog 53 #[.agg #[.slice ao fs.length cap], .agg #[.string s.key, .int .i64 s.seg, .int .i64 s.pos, .int .i64 s.seq]] w fun e w' => e = .returned (.tuple #[.string (outTx (valD fs s)), .bool (valD fs s).isSome]) ∧ Below w.heap.size w w' := by
  obtain ⟨key, seg, pos, seq⟩ := s
  have HF := hide hfs
  have HS := hide hsz
  have HS2 : Hid (∀ F ∈ fs, F.name.size ≤ maxLen ∧ F.text.size ≤ maxLen) := fun F hF => by have := hsz F hF; unfold maxLen; omega
  clear hfs hsz
  obtain ⟨wb, hwb⟩ : ∃ wb, wb = (w.alloc (.cells #[.slice ao fs.length cap] 27)).alloc (.cells #[.string key, .int .i64 seg, .int .i64 pos, .int .i64 seq] 89) := ⟨_, rfl⟩
  have HB0 : Hid (Below w.heap.size w wb) := by rw [hwb]; exact ((Below.refl _ w).alloc (Nat.le_refl _) _).alloc (by simp) _
  have hbs2 : w.heap.size + 2 ≤ wb.heap.size := by rw [hwb]; simp
  have HC0 : Hid (wb.cell? ⟨w.heap.size, 0, none⟩ = some (.slice ao fs.length cap)) := by
    have h1 : (w.alloc (.cells #[.slice ao fs.length cap] 27)).cell? ⟨w.heap.size, 0, none⟩ = some (.slice ao fs.length cap) := (cell_of_row _ _ 0 _ _ (0, 0) (heap_alloc_new w _)).trans rfl
    show _ = _
    rw [hwb]
    exact ((((Below.refl _ (w.alloc (.cells #[.slice ao fs.length cap] 27))).alloc (Nat.le_refl _) (.cells #[.string key, .int .i64 seg, .int .i64 pos, .int .i64 seq] 89)).cell (p := ⟨w.heap.size, 0, none⟩) (by simp))).trans h1
  have HR0 : Hid (wb.heap[w.heap.size + 1]? = some (.cells #[.string key, .int .i64 seg, .int .i64 pos, .int .i64 seq] 89 (0, 0))) := by
    show _ = _
    rw [hwb, show w.heap.size + 1 = (w.alloc (.cells #[.slice ao fs.length cap] 27)).heap.size from by simp]
    exact heap_alloc_new _ _
  have HDO := hide (fun W (hW : FilesAt W ao fs) => specDiskOk_any fs ao cap W hl hW HS2.out)
  cases hok : diskOkD fs with
  | false =>
    have HE := hide (valD_disk (s := ⟨key, seg, pos, seq⟩) hok)
    rw [hok] at HDO
    go_enter Tryz.func53, Tryz.ntmps53
    go_wp2_with fail
    rw [← hwb]
    clear hwb hok
    refine (HDO.out _ (filesAt_keep HF.out HB0.out)).mono ?_
    rintro e w1 ⟨rfl, b1⟩
    have B1 := hide (HB0.out.trans (b1.mono HB0.out.size))
    clear b1
    go_wp2
    go_ret2
    rw [HE.out]
    exact ⟨rfl, B1.out⟩
  | true =>
    obtain ⟨r, HR⟩ : ∃ r, Hid (recAt fs seg pos = r) := ⟨_, rfl⟩
    have HLB := hide (fun W (hW : FilesAt W ao fs) => l07Batch_any fs ao cap seg pos W hl hW HS.out)
    rw [HR.out] at HLB
    have HV1 : Hid (batOk r = false → valD fs ⟨key, seg, pos, seq⟩ = none) := fun h => valD_ok (by rw [HR.out]; exact h)
    have HV2 : Hid (batSeq r ≠ seq → valD fs ⟨key, seg, pos, seq⟩ = none) := fun h => valD_seq (by rw [HR.out]; exact h)
    have HV3 : Hid (batOk r = true → batSeq r = seq → valD fs ⟨key, seg, pos, seq⟩ = valIn key (batChs r)) := fun h1 h2 => by
      have h := valD_in (s := ⟨key, seg, pos, seq⟩) hok (by rw [HR.out]; exact h1) (by rw [HR.out]; exact h2)
      rw [HR.out] at h
      exact h
    rw [hok] at HDO
    obtain ⟨q, HQ⟩ : ∃ q, Hid (batSeq r = q) := ⟨_, rfl⟩
    obtain ⟨ok, HOK⟩ : ∃ q, Hid (batOk r = q) := ⟨_, rfl⟩
    obtain ⟨cs, HCS⟩ : ∃ q, Hid (batChs r = q) := ⟨_, rfl⟩
    have hcs : cs.length ≤ 40 := by rw [← HCS.out]; exact batChs_len r
    rw [HQ.out, HOK.out, HCS.out] at HLB
    rw [HQ.out] at HV2 HV3
    rw [HOK.out] at HV1 HV3
    rw [HCS.out] at HV3
    go_enter Tryz.func53, Tryz.ntmps53
    go_wp2_with fail
    rw [← hwb]
    clear hwb hok
    refine (HDO.out _ (filesAt_keep HF.out HB0.out)).mono ?_
    rintro e w1 ⟨rfl, b1⟩
    have B1 := hide b1
    clear b1
    have hc0 : w1.cell? ⟨w.heap.size, 0, none⟩ = some (.slice ao fs.length cap) := (B1.out.cell (p := ⟨w.heap.size, 0, none⟩) (by show w.heap.size < _; omega)).trans HC0.out
    have HR1 := hide ((B1.out.block _ (heap_lt HR0.out)).trans HR0.out)
    have hs1 : w1.cell? ⟨w.heap.size + 1, 1, none⟩ = some (.int .i64 seg) := (cell_of_row w1 _ 1 _ _ (0, 0) HR1.out).trans rfl
    have hs2 : w1.cell? ⟨w.heap.size + 1, 2, none⟩ = some (.int .i64 pos) := (cell_of_row w1 _ 2 _ _ (0, 0) HR1.out).trans rfl
    go_wp2_with fail
    refine (HLB.out _ (filesAt_keep (filesAt_keep HF.out HB0.out) B1.out)).mono ?_
    rintro e w2 ⟨⟨v2, rfl, r2⟩, b2⟩
    have B2 := hide (B1.out.trans (b2.mono B1.out.size))
    have R2 := hide r2
    have h21 : w1.heap.size ≤ w2.heap.size := b2.size
    clear r2 b2 hc0 hs1 hs2 HR1
    obtain ⟨a2, c2, rfl, hat2⟩ := rowChange_at R2.out
    have HAT2 := hide hat2
    clear hat2
    have HR2 := hide ((B2.out.block _ (heap_lt HR0.out)).trans HR0.out)
    have BW := hide (HB0.out.trans (B2.out.mono HB0.out.size))
    have hw2 : wb.heap.size ≤ w2.heap.size := B2.out.size
    cases ok with
    | false =>
      have HE := hide (HV1.out rfl)
      go_wp2
      go_ret2
      rw [HE.out]
      exact ⟨rfl, BW.out.alloc (by omega) _⟩
    | true =>
      have hs3 : (w2.alloc (.cells #[.int .i64 q, .slice a2 cs.length c2] 96)).cell? ⟨w.heap.size + 1, 3, none⟩ = some (.int .i64 seq) := (((Below.refl _ w2).alloc (Nat.le_refl _) _).cell (p := ⟨w.heap.size + 1, 3, none⟩) (by show w.heap.size + 1 < _; omega)).trans ((cell_of_row w2 _ 3 _ _ (0, 0) HR2.out).trans rfl)
      by_cases hqs : q = seq
      · have hqb : (q == seq) = true := by rw [hqs]; exact beq_self_eq_true _
        have HE := hide (HV3.out rfl hqs)
        clear hqs
        go_wp2_with fail
        have B3 : Hid (Below w2.heap.size w2 (w2.alloc (.cells #[.int .i64 q, .slice a2 cs.length c2] 96))) := (Below.refl _ w2).alloc (Nat.le_refl _) _
        have HX3 := hide (heap_alloc_new w2 (.cells #[.int .i64 q, .slice a2 cs.length c2] 96))
        generalize w2.alloc (.cells #[.int .i64 q, .slice a2 cs.length c2] 96) = w3 at hs3 B3 HX3
        clear hs3
        have h3l : w2.heap.size < w3.heap.size := heap_lt HX3.out
        have HK3 : Hid (w3.cell? ⟨w.heap.size + 1, 0, none⟩ = some (.string key)) := (B3.out.cell (p := ⟨w.heap.size + 1, 0, none⟩) (by show w.heap.size + 1 < _; omega)).trans ((cell_of_row w2 _ 0 _ _ (0, 0) HR2.out).trans rfl)
        have HA3 := hide (changesAt_keep HAT2.out B3.out)
        have BW3 := hide (BW.out.trans (B3.out.mono (by omega)))
        clear HR2 HAT2
        go_loopw [8] (fun ii wr => ∃ (k : Nat), ii = .int .i64 k ∧ k ≤ cs.length ∧ Hid (valIn key (cs.drop k) = valD fs ⟨key, seg, pos, seq⟩) ∧ Hid (Below w3.heap.size w3 wr)) (fun ii _ => cs.length - (intOf ii).toNat)
        case atStart => exact ⟨0, rfl, Nat.zero_le _, by show _ = _; rw [HE.out]; rfl, Below.refl _ _⟩
        case round =>
          obtain ⟨k, rfl, hk, HV, HB⟩ := hrel
          have hc1 : wr.cell? ⟨w2.heap.size, 1, none⟩ = some (.slice a2 cs.length c2) := (HB.out.cell (p := ⟨w2.heap.size, 1, none⟩) h3l).trans ((cell_of_row w3 _ 1 _ _ (0, 0) HX3.out).trans rfl)
          have hck : wr.cell? ⟨w.heap.size + 1, 0, none⟩ = some (.string key) := (HB.out.cell (p := ⟨w.heap.size + 1, 0, none⟩) (by show w.heap.size + 1 < _; omega)).trans HK3.out
          by_cases hlt : k < cs.length
          · have hlt' : decide ((k : Int) < (cs.length : Int)) = true := by simp; omega
            obtain ⟨b, off, hao, hbl, hA0, hA1, hA2⟩ := changesAt_keep HA3.out HB.out k hlt
            subst hao
            obtain ⟨A, HA⟩ : ∃ A, Hid (cs[k] = A) := ⟨_, hide rfl⟩
            obtain ⟨ak, av, ag⟩ := A
            rw [HA.out] at hA0 hA1 hA2
            have hki0 : (0 : Int) ≤ (k : Int) := by omega
            have hki1 : (k : Int) < (cs.length : Int) := by omega
            have HVS : Hid (valD fs ⟨key, seg, pos, seq⟩ = if ak = key ∧ ag = false then some av else valIn key (cs.drop (k + 1))) := by
              show _ = _
              rw [← HV.out, List.drop_eq_getElem_cons hlt, HA.out]
              rfl
            have HBW : Hid (Below w.heap.size w wr) := BW3.out.trans (HB.out.mono (by have := BW3.out.size; omega))
            simp only at hA0 hA1 hA2
            go_wp2_with fail
            by_cases hke : ak = key
            · have hcmp := txt_eq hke
              cases ag with
              | false =>
                have HVN : Hid (valD fs ⟨key, seg, pos, seq⟩ = some av) := by show _ = _; rw [HVS.out, if_pos ⟨hke, rfl⟩]
                clear hke
                go_quiet (fail)
                go_wp2
                go_ret2
                rw [HVN.out]
                exact ⟨rfl, below_drewN HBW.out _⟩
              | true =>
                have HVN : Hid (valIn key (cs.drop (k + 1)) = valD fs ⟨key, seg, pos, seq⟩) := by show _ = _; rw [HVS.out, if_neg (fun h => by cases h.2)]
                clear hke
                go_quiet (fail)
                go_wp2
                go_roundw
                case rel => exact ⟨k + 1, by go_num, by omega, HVN, below_drewN HB.out _⟩
                case measure => simp [intOf]; omega
            · have hcmp := txt_ne hke
              have HVN : Hid (valIn key (cs.drop (k + 1)) = valD fs ⟨key, seg, pos, seq⟩) := by show _ = _; rw [HVS.out, if_neg (fun h => hke h.1)]
              clear hke
              go_quiet (fail)
              go_wp2
              go_roundw
              case rel => exact ⟨k + 1, by go_num, by omega, HVN, below_drewN HB.out _⟩
              case measure => simp [intOf]; omega
          · have hlt' : decide ((k : Int) < (cs.length : Int)) = false := by simp; omega
            have HN : Hid (valD fs ⟨key, seg, pos, seq⟩ = none) := by
              show _ = _
              rw [← HV.out, List.drop_eq_nil_of_le (by omega)]
              rfl
            go_wp2
            go_ret2
            rw [HN.out]
            exact ⟨rfl, BW3.out.trans (HB.out.mono (by have := BW3.out.size; omega))⟩
      · have hqb : (q == seq) = false := by rw [beq_eq_false_iff_ne]; exact hqs
        have HE := hide (HV2.out hqs)
        clear hqs
        go_wp2
        go_ret2
        rw [HE.out]
        exact ⟨rfl, BW.out.alloc (by omega) _⟩
theorem box4_cells {w0 W : World} {g : Nat} {a b c d : Value} {t : Nat} (h : w0.heap[g]? = some (.cells #[a, b, c, d] t (0, 0))) (hb : Below w0.heap.size w0 W) :
    W.cell? ⟨g, 0, none⟩ = some a ∧ W.cell? ⟨g, 1, none⟩ = some b ∧ W.cell? ⟨g, 2, none⟩ = some c ∧ W.cell? ⟨g, 3, none⟩ = some d := by
  have h1 := (hb.block g (heap_lt h)).trans h
  exact ⟨(cell_of_row W _ 0 _ _ (0, 0) h1).trans rfl, (cell_of_row W _ 1 _ _ (0, 0) h1).trans rfl, (cell_of_row W _ 2 _ _ (0, 0) h1).trans rfl, (cell_of_row W _ 3 _ _ (0, 0) h1).trans rfl⟩
theorem frameAt_out (s : ByteArray) (i : Int) (w : World) (hs : s.size ≤ 20000) (h : i < 0 ∨ (s.size : Int) < i) :
    Calls Tryz.prog 183 #[.string s, .int .i64 i] w fun e w' => e = .returned (.tuple #[.string ⟨#[]⟩, .int .i64 0, .bool false]) ∧ Below w.heap.size w w' := by
  have hread : Hid (∀ W : World, Calls Tryz.prog 209 #[.string s, .int .i64 i] W fun e w' => e = .returned (.tuple #[.int .i64 0, .int .i64 0, .bool false]) ∧ w' = W) := fun W => implRead_out s i W (by unfold maxLen; omega) h
  go_enter Tryz.func183, Tryz.ntmps183
  go_wp2_with (first | (go_at_call 209; refine (hread.out _).mono ?_; rintro e w0 ⟨rfl, rfl⟩))
  go_ret3
  exact ⟨rfl, Below.refl _ _⟩
theorem recAt_frame {fs : List FileD} {seg : Int} {p : Nat} {F : FileD} (h : fileD fs (segNm seg) = some F) (hp : p ≤ F.text.size) (hz : F.text.size ≤ 20000) : recAt fs seg (p : Int) = (frB F.text p).map (fun y => F.text.extract y.1 y.2) := by
  obtain ⟨T, hT⟩ : ∃ T, F.text.extract p F.text.size = T := ⟨_, rfl⟩
  have hTz : T.size ≤ 20000 := by rw [← hT, ByteArray.size_extract]; omega
  have hd := frB_drop F.text p 0 hp
  rw [hT, Nat.add_zero] at hd
  have hu : unf T = frs T (T.size + 1) 0 := by unfold unf; rw [if_pos hTz]
  cases hf : frB F.text p with
  | none =>
    rw [hf] at hd
    rw [recAt_nil h hp hT (by rw [hu]; exact frs_none T _ _ hd)]
    rfl
  | some y =>
    rw [hf] at hd
    have hb := frB_bounds F.text p y hf
    rw [recAt_some h hp hT (by rw [hu]; exact frs_some T _ _ _ hd)]
    show some (T.extract (shf p y).1 (shf p y).2) = some (F.text.extract y.1 y.2)
    rw [← hT]
    unfold shf
    simp only
    rw [extract_drop F.text p (y.1 - p) (y.2 - p) (by omega), show p + (y.1 - p) = y.1 by omega, show p + (y.2 - p) = y.2 by omega]
def recI (fs : List FileD) (seg pos : Int) : Option ByteArray := if diskOkD fs = true then recAt fs seg pos else none
theorem batchAt_any (fs : List FileD) (ao : Option Addr) (cap : Nat) (s : SpotD) (w : World) (hl : fs.length ≤ 1048576) (hfs : FilesAt w ao fs) (hsz : ∀ F ∈ fs, F.name.size ≤ 1048576 ∧ F.text.size ≤ 1048576) (hT : SumTab w) :
    Calls Tryz.prog 139 #[.agg #[.slice ao fs.length cap], .agg #[.string s.key, .int .i64 s.seg, .int .i64 s.pos, .int .i64 s.seq]] w fun e w' => (∃ v, e = .returned (.tuple #[.agg #[.int .i64 (batSeq (recI fs s.seg s.pos)), v], .bool (batOk (recI fs s.seg s.pos))]) ∧ RowChange w' w.heap.size v (batChs (recI fs s.seg s.pos))) ∧ Below w.heap.size w w' := by
  obtain ⟨key, seg, pos, seq⟩ := s
  simp only
  have HF := hide hfs
  have HS := hide hsz
  have HT := hide hT
  have HS2 : Hid (∀ F ∈ fs, F.name.size ≤ maxLen ∧ F.text.size ≤ maxLen) := fun F hF => by have := hsz F hF; unfold maxLen; omega
  clear hfs hsz hT
  obtain ⟨wb, hwb⟩ : ∃ wb, wb = ((w.alloc (.cells #[.slice ao fs.length cap] 27)).alloc (.cells #[.string key, .int .i64 seg, .int .i64 pos, .int .i64 seq] 89)).alloc (.cells #[.int .i64 0, .slice none 0 0] 96) := ⟨_, rfl⟩
  have HB0 : Hid (Below w.heap.size w wb) := by rw [hwb]; exact (((Below.refl _ w).alloc (Nat.le_refl _) _).alloc (by simp) _).alloc (by simp; omega) _
  have hbs : wb.heap.size = w.heap.size + 3 := by rw [hwb]; simp
  have HC0 : Hid (wb.heap[w.heap.size]? = some (.cells #[.slice ao fs.length cap] 27 (0, 0))) := by
    show _ = _
    rw [hwb]
    exact (Below.heap_alloc _ _ _ (by simp; omega)).trans ((Below.heap_alloc _ _ _ (by simp)).trans (heap_alloc_new w _))
  have HC1 : Hid (wb.heap[w.heap.size + 1]? = some (.cells #[.string key, .int .i64 seg, .int .i64 pos, .int .i64 seq] 89 (0, 0))) := by
    show _ = _
    rw [hwb]
    refine (Below.heap_alloc _ _ _ (by simp)).trans ?_
    rw [show w.heap.size + 1 = (w.alloc (.cells #[.slice ao fs.length cap] 27)).heap.size from by simp]
    exact heap_alloc_new _ _
  have HC2 : Hid (wb.heap[w.heap.size + 1 + 1]? = some (.cells #[.int .i64 0, .slice none 0 0] 96 (0, 0))) := by
    show _ = _
    rw [hwb, show w.heap.size + 1 + 1 = ((w.alloc (.cells #[.slice ao fs.length cap] 27)).alloc (.cells #[.string key, .int .i64 seg, .int .i64 pos, .int .i64 seq] 89)).heap.size from by simp]
    exact heap_alloc_new _ _
  have HDO := hide (fun W (hW : FilesAt W ao fs) => diskOk_any fs ao cap W hl hW HS2.out)
  have HNO : Hid (∀ W, recI fs seg pos = none → Below wb.heap.size wb W → ∀ u u2, ((∃ v, Ending.returned (.tuple #[.agg #[.int .i64 0, .slice none 0 0], .bool false]) = Ending.returned (.tuple #[.agg #[.int .i64 (batSeq (recI fs seg pos)), v], .bool (batOk (recI fs seg pos))]) ∧ RowChange ((W.setCell ⟨w.heap.size + 1 + 1, 0, none⟩ u).setCell ⟨w.heap.size + 1 + 1, 1, none⟩ u2) w.heap.size v (batChs (recI fs seg pos))) ∧ Below w.heap.size w ((W.setCell ⟨w.heap.size + 1 + 1, 0, none⟩ u).setCell ⟨w.heap.size + 1 + 1, 1, none⟩ u2))) := by
    intro W h hW u u2
    rw [h]
    exact ⟨⟨_, rfl, .inl ⟨rfl, rfl⟩⟩, ((HB0.out.trans (hW.mono (by omega))).setCell (p := ⟨w.heap.size + 1 + 1, 0, none⟩) (by show w.heap.size ≤ w.heap.size + 1 + 1; omega) u).setCell (p := ⟨w.heap.size + 1 + 1, 1, none⟩) (by show w.heap.size ≤ w.heap.size + 1 + 1; omega) u2⟩
  cases hok : diskOkD fs with
  | false =>
    have HE : Hid (recI fs seg pos = none) := by show _ = _; unfold recI; rw [hok]; rfl
    rw [hok] at HDO
    clear hok
    go_enter Tryz.func139, Tryz.ntmps139
    go_wp2_with fail
    rw [← hwb]
    clear hwb
    refine (HDO.out _ (filesAt_keep HF.out HB0.out)).mono ?_
    rintro e w1 ⟨rfl, b1⟩
    have hr0 : w1.cell? ⟨w.heap.size + 1 + 1, 0, none⟩ = some (.int .i64 0) := (cell_of_row w1 _ 0 _ _ (0, 0) (two_cells HC2.out b1)).trans rfl
    have hr1 : w1.cell? ⟨w.heap.size + 1 + 1, 1, none⟩ = some (.slice none 0 0) := (cell_of_row w1 _ 1 _ _ (0, 0) (two_cells HC2.out b1)).trans rfl
    have hrf0 := frozen_of_row w1 (w.heap.size + 1 + 1) 0 _ _ (two_cells HC2.out b1)
    have hrf1 := frozen_of_row w1 (w.heap.size + 1 + 1) 1 _ _ (two_cells HC2.out b1)
    have B1 := hide b1
    clear b1
    go_wp2_with fail
    exact bodyPost_ret (v := .tuple #[.agg #[.int .i64 0, .slice none 0 0], .bool false]) (by simp [results, Tryz.results139, go_sem, hr0, hr1]) rfl (HNO.out _ HE.out B1.out _ _)
  | true =>
    rw [hok] at HDO
    have HRI : Hid (recI fs seg pos = recAt fs seg pos) := by show _ = _; unfold recI; rw [hok]; rfl
    have hdk := (disk_iff fs).1 hok
    clear hok
    obtain ⟨NM, HNM⟩ : ∃ NM, Hid (segNm seg = NM) := ⟨_, rfl⟩
    have HN : Hid (∀ W : World, Calls Tryz.prog 41 #[.int .i64 seg] W fun e w' => e = .returned (.string NM) ∧ w' = W) := fun W => by rw [← HNM.out]; exact implSegName_any seg W
    go_enter Tryz.func139, Tryz.ntmps139
    go_wp2_with fail
    rw [← hwb]
    clear hwb
    refine (HDO.out _ (filesAt_keep HF.out HB0.out)).mono ?_
    rintro e w1 ⟨rfl, b1⟩
    have B1 := hide b1
    have hc0 : w1.cell? ⟨w.heap.size, 0, none⟩ = some (.slice ao fs.length cap) := (cell_of_row w1 _ 0 _ _ (0, 0) ((b1.block _ (heap_lt HC0.out)).trans HC0.out)).trans rfl
    obtain ⟨hs0, hs1, hs2, hs3⟩ := box4_cells HC1.out b1
    clear b1
    have hlt0 : w.heap.size < w1.heap.size := by have := B1.out.size; omega
    have hlt1 : w.heap.size + 1 < w1.heap.size := by have := B1.out.size; omega
    go_wp2_with fail
    cases hfd : fileD fs (segNm seg) with
    | none =>
      have HE : Hid (recI fs seg pos = none) := by show _ = _; rw [HRI.out]; exact recAt_none hfd
      have HAT : Hid (∀ W, Below w1.heap.size w1 W → Calls Tryz.prog 171 #[.agg #[.slice ao fs.length cap], .string NM] W fun e w' => e = .returned (.tuple #[.string ⟨#[]⟩, .bool false]) ∧ Below W.heap.size W w') := fun W hW => fileAt_none fs ao cap NM W hl (filesAt_keep (filesAt_keep HF.out (HB0.out.trans (B1.out.mono HB0.out.size))) hW) HS.out (by rw [← HNM.out]; exact hfd)
      clear hfd
      go_region_held3 (fun w' => w'.cell? ⟨w.heap.size, 0, none⟩ = some (.slice ao fs.length cap) ∧ w'.cell? ⟨w.heap.size + 1, 1, none⟩ = some (.int .i64 seg)) (first | go_keep | (exact ⟨hc0, hs1⟩) | (exact ⟨(b2.cell (p := ⟨w.heap.size, 0, none⟩) hlt0).trans hc0, (b2.cell (p := ⟨w.heap.size + 1, 1, none⟩) hlt1).trans hs1⟩)) ((first | (go_at_call 41; refine (HN.out _).mono ?_; rintro e w' ⟨rfl, rfl⟩) | (go_at_call 171; refine (HAT.out _ (by first | exact Below.refl _ _ | exact (Below.refl _ _).drew)).mono ?_; rintro e w2 ⟨rfl, b2⟩)))
      have B2 : Hid (Below w1.heap.size w1 w2) := (Below.refl _ _).drew.trans b2
      clear b2 hc0 hs0 hs1 hs2 hs3
      have B3 := hide (B1.out.trans (B2.out.mono B1.out.size))
      have hr0 : w2.cell? ⟨w.heap.size + 1 + 1, 0, none⟩ = some (.int .i64 0) := (cell_of_row w2 _ 0 _ _ (0, 0) (two_cells HC2.out B3.out)).trans rfl
      have hr1 : w2.cell? ⟨w.heap.size + 1 + 1, 1, none⟩ = some (.slice none 0 0) := (cell_of_row w2 _ 1 _ _ (0, 0) (two_cells HC2.out B3.out)).trans rfl
      have hrf0 := frozen_of_row w2 (w.heap.size + 1 + 1) 0 _ _ (two_cells HC2.out B3.out)
      have hrf1 := frozen_of_row w2 (w.heap.size + 1 + 1) 1 _ _ (two_cells HC2.out B3.out)
      go_wp2_with fail
      exact bodyPost_ret (v := .tuple #[.agg #[.int .i64 0, .slice none 0 0], .bool false]) (by simp [results, Tryz.results139, go_sem, hr0, hr1]) rfl (HNO.out _ HE.out B3.out _ _)
    | some F =>
      have hFm := List.mem_of_find?_eq_some hfd
      have hFz := (ok_file (hdk.2.1 F hFm)).2.2.1
      have HAT : Hid (∀ W, Below w1.heap.size w1 W → Calls Tryz.prog 171 #[.agg #[.slice ao fs.length cap], .string NM] W fun e w' => e = .returned (.tuple #[.string F.text, .bool true]) ∧ Below W.heap.size W w') := fun W hW => fileAt_some fs ao cap NM W F hl (filesAt_keep (filesAt_keep HF.out (HB0.out.trans (B1.out.mono HB0.out.size))) hW) HS.out (by rw [← HNM.out]; exact hfd)
      have HFD := hide hfd
      clear hfd hFm hdk
      go_region_held3 (fun w' => w'.cell? ⟨w.heap.size, 0, none⟩ = some (.slice ao fs.length cap) ∧ w'.cell? ⟨w.heap.size + 1, 1, none⟩ = some (.int .i64 seg)) (first | go_keep | (exact ⟨hc0, hs1⟩) | (exact ⟨(b2.cell (p := ⟨w.heap.size, 0, none⟩) hlt0).trans hc0, (b2.cell (p := ⟨w.heap.size + 1, 1, none⟩) hlt1).trans hs1⟩)) ((first | (go_at_call 41; refine (HN.out _).mono ?_; rintro e w' ⟨rfl, rfl⟩) | (go_at_call 171; refine (HAT.out _ (by first | exact Below.refl _ _ | exact (Below.refl _ _).drew)).mono ?_; rintro e w2 ⟨rfl, b2⟩)))
      have B2 : Hid (Below w1.heap.size w1 w2) := (Below.refl _ _).drew.trans b2
      clear b2 hc0 hs0 hs1 hs2 hs3
      have B3 := hide (B1.out.trans (B2.out.mono B1.out.size))
      obtain ⟨hs0, hs1, hs2, hs3⟩ := box4_cells HC1.out B3.out
      have HT2 : Hid (SumTab w2) := sumTab_later (HB0.out.trans (B3.out.mono HB0.out.size)) HT.out
      have HFR : Hid ((recI fs seg pos = none ∧ ∀ W : World, SumTab W → Calls Tryz.prog 183 #[.string F.text, .int .i64 pos] W fun e w' => e = .returned (.tuple #[.string ⟨#[]⟩, .int .i64 0, .bool false]) ∧ Below W.heap.size W w') ∨
          ∃ R : ByteArray, R.size ≤ 20000 ∧ recI fs seg pos = some R ∧ ∃ e : Int, ∀ W : World, SumTab W → Calls Tryz.prog 183 #[.string F.text, .int .i64 pos] W fun e' w' => e' = .returned (.tuple #[.string R, .int .i64 e, .bool true]) ∧ Below W.heap.size W w') := by
        rw [HRI.out]
        by_cases hp : 0 ≤ pos ∧ pos ≤ F.text.size
        · obtain ⟨p, rfl⟩ := Int.eq_ofNat_of_zero_le hp.1
          have hp2 : p ≤ F.text.size := by omega
          have hrf := recAt_frame HFD.out hp2 hFz
          cases hfr : frB F.text p with
          | none =>
            rw [hfr] at hrf
            exact .inl ⟨hrf, fun W hW => frameAt_none F.text p W hFz hp2 hfr hW⟩
          | some y =>
            rw [hfr] at hrf
            exact .inr ⟨F.text.extract y.1 y.2, by rw [ByteArray.size_extract]; omega, hrf, y.2, fun W hW => frameAt_some F.text p y W hFz hp2 hfr hW⟩
        · exact .inl ⟨recAt_out HFD.out hp, fun W _ => frameAt_out F.text pos W hFz (by omega)⟩
      rcases HFR.out with ⟨hE, hC⟩ | ⟨R, hRz, hE, ee, hC⟩
      · have HE := hide hE
        have HC := hide hC
        clear hE hC
        go_wp2_with fail
        refine (HC.out _ HT2.out).mono ?_
        rintro e w4 ⟨rfl, b4⟩
        have B4 := hide (B3.out.trans (b4.mono B3.out.size))
        clear b4 hs0 hs1 hs2 hs3
        have hr0 : w4.cell? ⟨w.heap.size + 1 + 1, 0, none⟩ = some (.int .i64 0) := (cell_of_row w4 _ 0 _ _ (0, 0) (two_cells HC2.out B4.out)).trans rfl
        have hr1 : w4.cell? ⟨w.heap.size + 1 + 1, 1, none⟩ = some (.slice none 0 0) := (cell_of_row w4 _ 1 _ _ (0, 0) (two_cells HC2.out B4.out)).trans rfl
        have hrf0 := frozen_of_row w4 (w.heap.size + 1 + 1) 0 _ _ (two_cells HC2.out B4.out)
        have hrf1 := frozen_of_row w4 (w.heap.size + 1 + 1) 1 _ _ (two_cells HC2.out B4.out)
        go_wp2_with fail
        exact bodyPost_ret (v := .tuple #[.agg #[.int .i64 0, .slice none 0 0], .bool false]) (by simp [results, Tryz.results139, go_sem, hr0, hr1]) rfl (HNO.out _ HE.out B4.out _ _)
      · have HE := hide hE
        have HC := hide hC
        clear hE hC
        have HRB := hide (fun W => implReadBatch_any R W (by omega))
        go_wp2_with fail
        refine (HC.out _ HT2.out).mono ?_
        rintro e w4 ⟨rfl, b4⟩
        have B4 := hide (B3.out.trans (b4.mono B3.out.size))
        clear b4 hs0 hs1 hs2 hs3
        go_wp2_with fail
        refine (HRB.out _).mono ?_
        rintro e w5 ⟨⟨v5, rfl, r5⟩, b5⟩
        obtain ⟨a5, c5, rfl, -⟩ := rowChange_at r5
        have B5 := hide (B4.out.trans (b5.mono B4.out.size))
        have R5 := hide r5
        clear r5 b5
        have hr0 : w5.cell? ⟨w.heap.size + 1 + 1, 0, none⟩ = some (.int .i64 0) := (cell_of_row w5 _ 0 _ _ (0, 0) (two_cells HC2.out B5.out)).trans rfl
        have hr1 : w5.cell? ⟨w.heap.size + 1 + 1, 1, none⟩ = some (.slice none 0 0) := (cell_of_row w5 _ 1 _ _ (0, 0) (two_cells HC2.out B5.out)).trans rfl
        have hrf0 := frozen_of_row w5 (w.heap.size + 1 + 1) 0 _ _ (two_cells HC2.out B5.out)
        have hrf1 := frozen_of_row w5 (w.heap.size + 1 + 1) 1 _ _ (two_cells HC2.out B5.out)
        have hsz4 : w.heap.size ≤ w4.heap.size := by have := B4.out.size; omega
        go_wp2_with fail
        refine bodyPost_ret (v := .tuple #[.agg #[.int .i64 (rdSeq R), .slice a5 (rdChanges R).length c5], .bool (rdOk R)]) (by simp [results, Tryz.results139, go_sem, hr0, hr1]) rfl ?_
        rw [HE.out]
        have gS := grownBy_store (grownBy_store (World.grownBy.refl w5 (some (w.heap.size + 1 + 1))) 0 (.int .i64 (rdSeq R))) 1 (.slice a5 (rdChanges R).length c5)
        refine ⟨⟨_, rfl, rowChange_grown (rowChange_le R5.out hsz4) gS (fun k hk e => ?_)⟩, (HB0.out.trans (B5.out.mono (by omega))).grown gS (by have := B5.out.size; omega) (fun k hk => by cases hk; omega)⟩
        obtain ⟨C, hC⟩ := change_block R5.out hk
        obtain rfl := Option.some.inj e
        rw [two_cells HC2.out B5.out] at hC
        simp at hC
end Go.Proofs.YtmmchemgegmhhaaGreatDoor
