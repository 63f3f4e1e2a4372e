/- Of: DirS3 DirS4 LawValueOf DirI2 DirI3. -/
import Derived.Test.YtijmlgdeeodehamGreatDoorSegs
import Derived.Test.YtijmlgdeeodehamGreatDoorSegI2
import Derived.Test.YtijmlgdeeodehamGreatDoorSpcA
import Derived.Test.YtijmlgdeeodehamGreatDoorSpotL
import Derived.Test.YtijmlgdeeodehamGreatDoorFiles
import Derived.Test.YtijmlgdeeodehamGreatDoorOne
import Derived.Test.YtijmlgdeeodehamGreatDoorSegZ
import Derived.Test.YtijmlgdeeodehamGreatDoorEngA
import Derived.Test.YtijmlgdeeodehamGreatDoorDirs
import Derived.Laws.StructEq
/- The specification's ValueOf. -/
namespace Go.Proofs.YtijmlgdeeodehamGreatDoor
open Go.RowKit

/-- The record whose frame begins at a place of a segment. -/
def recAt (fs : List FileD) (seg pos : Int) : Option ByteArray :=
  match fileD fs (segNm seg) with
  | none => none
  | some F => if 0 ≤ pos ∧ pos ≤ F.text.size then
      match unf (F.text.extract pos.toNat F.text.size) with
      | [] => none
      | x :: _ => some ((F.text.extract pos.toNat F.text.size).extract x.1 x.2)
    else none
/-- The batch of it. -/
def batSeq (o : Option ByteArray) : Int := (o.map rdSeq).getD 0
def batOk (o : Option ByteArray) : Bool := (o.map rdOk).getD false
def batChs (o : Option ByteArray) : List ChangeD := (o.map rdChanges).getD []

theorem recAt_none {fs : List FileD} {seg pos : Int} (h : fileD fs (segNm seg) = none) : recAt fs seg pos = none := by unfold recAt; rw [h]
theorem recAt_out {fs : List FileD} {seg pos : Int} {F : FileD} (h : fileD fs (segNm seg) = some F) (hp : ¬ (0 ≤ pos ∧ pos ≤ F.text.size)) : recAt fs seg pos = none := by
  unfold recAt; rw [h]; simp only []; rw [if_neg hp]
theorem recAt_nil {fs : List FileD} {seg : Int} {p : Nat} {F : FileD} {T : ByteArray} (h : fileD fs (segNm seg) = some F) (hp : p ≤ F.text.size) (hT : F.text.extract p F.text.size = T) (hu : unf T = []) : recAt fs seg (p : Int) = none := by
  unfold recAt; rw [h]; simp only []; rw [if_pos ⟨by omega, by omega⟩, Int.toNat_natCast, hT, hu]
theorem recAt_some {fs : List FileD} {seg : Int} {p : Nat} {F : FileD} {T : ByteArray} {x : Nat × Nat} {r : List (Nat × Nat)} (h : fileD fs (segNm seg) = some F) (hp : p ≤ F.text.size) (hT : F.text.extract p F.text.size = T) (hu : unf T = x :: r) : recAt fs seg (p : Int) = some (T.extract x.1 x.2) := by
  unfold recAt; rw [h]; simp only []; rw [if_pos ⟨by omega, by omega⟩, Int.toNat_natCast, hT, hu]

/-- The cells of a row that lies below. -/
theorem two_cells {wb W : World} {g : Nat} {x y : Value} {t : Nat} (h : wb.heap[g]? = some (.cells #[x, y] t (0, 0))) (hb : Below wb.heap.size wb W) :
    W.heap[g]? = some (.cells #[x, y] t (0, 0)) := (hb.block g (heap_lt h)).trans h

set_option maxRecDepth 100000 in
set_option maxHeartbeats 1600000 in
theorem l07Batch_any (fs : List FileD) (ao : Option Addr) (cap : Nat) (seg pos : Int) (w : World) (hl : fs.length ≤ 1048576) (hfs : FilesAt w ao fs) (hsz : ∀ F ∈ fs, F.name.size ≤ 1048576 ∧ F.text.size ≤ 1048576) :
    Calls Tryz.prog 93 #[.agg #[.slice ao fs.length cap], .int .i64 seg, .int .i64 pos] w fun e w' => (∃ v, e = .returned (.tuple #[.agg #[.int .i64 (batSeq (recAt fs seg pos)), v], .bool (batOk (recAt fs seg pos))]) ∧ RowChange w' w.heap.size v (batChs (recAt fs seg pos))) ∧ Below w.heap.size w w' := by
  have HF := hide hfs
  have HS := hide hsz
  clear hfs hsz
  obtain ⟨wb, hwb⟩ : ∃ wb, wb = (w.alloc (.cells #[.slice ao fs.length cap] 24)).alloc (.cells #[.int .i64 0, .slice none 0 0] 118) := ⟨_, rfl⟩
  have HB0 : Hid (Below w.heap.size w wb) := by rw [hwb]; exact ((Below.refl _ w).alloc (Nat.le_refl _) _).alloc (by simp) _
  have hbs2 : w.heap.size + 2 ≤ wb.heap.size := by rw [hwb]; simp
  have hbs : w.heap.size < wb.heap.size := by omega
  have hc0 : wb.cell? ⟨w.heap.size, 0, none⟩ = some (.slice ao fs.length cap) := by
    have h1 : (w.alloc (.cells #[.slice ao fs.length cap] 24)).cell? ⟨w.heap.size, 0, none⟩ = some (.slice ao fs.length cap) := (cell_of_row _ _ 0 _ _ (0, 0) (heap_alloc_new w _)).trans rfl
    rw [hwb]
    exact ((((Below.refl _ (w.alloc (.cells #[.slice ao fs.length cap] 24))).alloc (Nat.le_refl _) (.cells #[.int .i64 0, .slice none 0 0] 118)).cell (p := ⟨w.heap.size, 0, none⟩) (by simp))).trans h1
  have HR0 : Hid (wb.heap[w.heap.size + 1]? = some (.cells #[.int .i64 0, .slice none 0 0] 118 (0, 0))) := by
    show _ = _
    rw [hwb, show w.heap.size + 1 = (w.alloc (.cells #[.slice ao fs.length cap] 24)).heap.size from by simp]
    exact heap_alloc_new _ _
  obtain ⟨NM, HNM⟩ : ∃ NM, Hid (segNm seg = NM) := ⟨_, rfl⟩
  have HN : Hid (∀ W : World, Calls Tryz.prog 32 #[.int .i64 seg] W fun e w' => e = .returned (.string NM) ∧ Below W.heap.size W w') := fun W => by rw [← HNM.out]; exact specSegName_any seg W
  cases hfd : fileD fs (segNm seg) with
  | none =>
    have HE := hide (recAt_none (pos := pos) hfd)
    have HAT : Hid (∀ W, Below wb.heap.size wb W → Calls Tryz.prog 75 #[.agg #[.slice ao fs.length cap], .string NM] W fun e w' => e = .returned (.tuple #[.string ⟨#[]⟩, .bool false]) ∧ Below W.heap.size W w') := fun W hW => specFileAt_none' fs ao cap NM W hl (filesAt_keep (filesAt_keep HF.out HB0.out) hW) (by rw [← HNM.out]; exact hfd)
    clear hfd
    go_enter Tryz.func93, Tryz.ntmps93
    go_wp2_with fail
    rw [← hwb]
    clear hwb
    go_region_held3 (fun w' => w'.cell? ⟨w.heap.size, 0, none⟩ = some (.slice ao fs.length cap)) (first | go_keep | (exact hc0) | (exact (b1.cell (p := ⟨w.heap.size, 0, none⟩) hbs).trans hc0) | (exact ((b1.trans (b2.mono b1.size)).cell (p := ⟨w.heap.size, 0, none⟩) hbs).trans hc0)) ((first | (go_at_call 32; refine (HN.out _).mono ?_; rintro e w1 ⟨rfl, b1⟩) | (go_at_call 75; refine (HAT.out _ (by first | exact b1 | exact (Below.refl _ _).drew.trans b1)).mono ?_; rintro e w2 ⟨rfl, b2⟩)))
    have B2 : Hid (Below wb.heap.size wb w2) := (Below.refl _ _).drew.trans (b1.trans (b2.mono b1.size))
    clear b1 b2
    have B3 := hide (HB0.out.trans (B2.out.mono HB0.out.size))
    have hr0 : w2.cell? ⟨w.heap.size + 1, 0, none⟩ = some (.int .i64 0) := (cell_of_row w2 _ 0 _ _ (0, 0) (two_cells HR0.out B2.out)).trans rfl
    have hr1 : w2.cell? ⟨w.heap.size + 1, 1, none⟩ = some (.slice none 0 0) := (cell_of_row w2 _ 1 _ _ (0, 0) (two_cells HR0.out B2.out)).trans rfl
    have hrf0 := frozen_of_row w2 (w.heap.size + 1) 0 _ _ (two_cells HR0.out B2.out)
    have hrf1 := frozen_of_row w2 (w.heap.size + 1) 1 _ _ (two_cells HR0.out B2.out)
    go_wp2_with fail
    refine bodyPost_ret (v := .tuple #[.agg #[.int .i64 0, .slice none 0 0], .bool false]) (by simp [results, Tryz.results93, go_sem, hr0, hr1]) rfl ⟨⟨.slice none 0 0, by rw [HE.out]; rfl, by rw [HE.out]; exact .inl ⟨rfl, rfl⟩⟩, ?_⟩
    exact (B3.out.setCell (p := ⟨w.heap.size + 1, 0, none⟩) (by simp) _).setCell (p := ⟨w.heap.size + 1, 1, none⟩) (by simp) _
  | some F =>
    have hFs := (HS.out F (List.mem_of_find?_eq_some hfd)).2
    have HAT : Hid (∀ W, Below wb.heap.size wb W → Calls Tryz.prog 75 #[.agg #[.slice ao fs.length cap], .string NM] W fun e w' => e = .returned (.tuple #[.string F.text, .bool true]) ∧ Below W.heap.size W w') := fun W hW => specFileAt_some' fs ao cap NM W F hl (filesAt_keep (filesAt_keep HF.out HB0.out) hW) (by rw [← HNM.out]; exact hfd)
    have HFD := hide hfd
    clear hfd
    go_enter Tryz.func93, Tryz.ntmps93
    go_wp2_with fail
    rw [← hwb]
    clear hwb
    go_region_held3 (fun w' => w'.cell? ⟨w.heap.size, 0, none⟩ = some (.slice ao fs.length cap)) (first | go_keep | (exact hc0) | (exact (b1.cell (p := ⟨w.heap.size, 0, none⟩) hbs).trans hc0) | (exact ((b1.trans (b2.mono b1.size)).cell (p := ⟨w.heap.size, 0, none⟩) hbs).trans hc0)) ((first | (go_at_call 32; refine (HN.out _).mono ?_; rintro e w1 ⟨rfl, b1⟩) | (go_at_call 75; refine (HAT.out _ (by first | exact b1 | exact (Below.refl _ _).drew.trans b1)).mono ?_; rintro e w2 ⟨rfl, b2⟩)))
    have B2 : Hid (Below wb.heap.size wb w2) := (Below.refl _ _).drew.trans (b1.trans (b2.mono b1.size))
    clear b1 b2
    have B3 := hide (HB0.out.trans (B2.out.mono HB0.out.size))
    have HR2 := hide (two_cells HR0.out B2.out)
    by_cases hp : 0 ≤ pos ∧ pos ≤ F.text.size
    · obtain ⟨p, rfl⟩ := Int.eq_ofNat_of_zero_le hp.1
      have hp2 : p ≤ F.text.size := by omega
      obtain ⟨T, hTT⟩ : ∃ T, F.text.extract p F.text.size = T := ⟨_, rfl⟩
      have hTz : T.size ≤ 1048576 := by rw [← hTT, ByteArray.size_extract]; omega
      have hcut := cut_from F.text p (p : Int) T rfl hp2 hTT
      have HTT := hide hTT
      clear hTT
      have HU := hide (fun W => specUnframe_any T W hTz)
      obtain ⟨U, HUU⟩ : ∃ U, Hid (unf T = U) := ⟨_, rfl⟩
      have HCH : Hid (chained T 0 U) := by show chained _ _ _; rw [← HUU.out]; exact unf_chained T
      obtain ⟨L, HL⟩ : ∃ L, Hid (recs T U = L) := ⟨_, rfl⟩
      have hUl : U.length ≤ 20001 := by rw [← HUU.out]; exact unf_len T
      have hLl : L.length = U.length := by rw [← HL.out, recs_len]
      obtain ⟨eo, HEO⟩ : ∃ eo : Int, Hid (((endOf U : Nat) : Int) = eo) := ⟨_, rfl⟩
      have HUN : Hid (∀ W, Calls Tryz.prog 104 #[.string T] W fun e w' => ∃ v, e = .returned (.tuple #[v, .int .i64 eo]) ∧ w'.ownsRow W.heap.size 9 1 v L.length (L.map sv) ∧ Below W.heap.size W w') := by
        intro W
        have h := HU.out W
        unfold FramesLeft at h
        rw [HUU.out, HL.out, HEO.out] at h
        exact h
      clear HU HEO
      go_wp2_with fail
      refine (l01In_yes _ _ _ _ (by omega) (by omega)).mono ?_
      rintro e w3 ⟨rfl, rfl⟩
      go_wp2_with fail
      refine (HUN.out _).mono ?_
      rintro e w4 ⟨lv, rfl, hown, b4⟩
      have B4 := hide (B2.out.trans (b4.mono B2.out.size))
      have B5 := hide (HB0.out.trans (B4.out.mono HB0.out.size))
      have HO := hide hown
      clear hown b4 HR2
      cases U with
      | nil =>
        have HE := hide (recAt_nil (p := p) HFD.out hp2 HTT.out HUU.out)
        obtain rfl : L = [] := List.eq_nil_of_length_eq_zero hLl
        obtain ⟨a, c, rfl⟩ := slice_form HO.out
        have hr0 : w4.cell? ⟨w.heap.size + 1, 0, none⟩ = some (.int .i64 0) := (cell_of_row w4 _ 0 _ _ (0, 0) (two_cells HR0.out B4.out)).trans rfl
        have hr1 : w4.cell? ⟨w.heap.size + 1, 1, none⟩ = some (.slice none 0 0) := (cell_of_row w4 _ 1 _ _ (0, 0) (two_cells HR0.out B4.out)).trans rfl
        have hrf0 := frozen_of_row w4 (w.heap.size + 1) 0 _ _ (two_cells HR0.out B4.out)
        have hrf1 := frozen_of_row w4 (w.heap.size + 1) 1 _ _ (two_cells HR0.out B4.out)
        go_wp2_with fail
        refine bodyPost_ret (v := .tuple #[.agg #[.int .i64 0, .slice none 0 0], .bool false]) (by simp [results, Tryz.results93, go_sem, hr0, hr1]) rfl ⟨⟨.slice none 0 0, by rw [HE.out]; rfl, by rw [HE.out]; exact .inl ⟨rfl, rfl⟩⟩, ?_⟩
        exact (B5.out.setCell (p := ⟨w.heap.size + 1, 0, none⟩) (by simp) _).setCell (p := ⟨w.heap.size + 1, 1, none⟩) (by simp) _
      | cons x0 r =>
        have HE := hide (recAt_some (p := p) HFD.out hp2 HTT.out HUU.out)
        have hx0 := chained_get HCH.out x0 (List.mem_cons_self ..)
        obtain ⟨T0, HT0⟩ : ∃ T0, Hid (T.extract x0.1 x0.2 = T0) := ⟨_, rfl⟩
        rw [HT0.out] at hx0 HE
        have hg0 : L[0]? = some T0.data.toList := by rw [← HL.out, recs_get T (x0 :: r) 0 x0 rfl, HT0.out]
        have hL1 : 1 ≤ L.length := by rw [hLl]; simp
        have hz : ((L.length : Int) == 0) = false := by rw [beq_eq_false_iff_ne]; omega
        obtain ⟨g, cap, hlv⟩ : ∃ g cap, lv = .slice (some ⟨g, 0, none⟩) L.length cap := by
          rcases HO.out.2 with ⟨-, h⟩ | ⟨g, cap, cur, h, _⟩
          · omega
          · exact ⟨g, cap, h⟩
        subst hlv
        have hcell := str_cell HO.out 0 (by omega) _ hg0
        rw [data_back] at hcell
        clear hg0
        have HRB := hide (fun W => specReadBatch_any T0 W (by omega))
        obtain ⟨q, HQ⟩ : ∃ q, Hid (rdSeq T0 = q) := ⟨_, rfl⟩
        obtain ⟨ok, HOK⟩ : ∃ q, Hid (rdOk T0 = q) := ⟨_, rfl⟩
        obtain ⟨cs, HCS⟩ : ∃ q, Hid (rdChanges T0 = q) := ⟨_, rfl⟩
        rw [HQ.out, HOK.out, HCS.out] at HRB
        go_wp2_with fail
        refine (HRB.out _).mono ?_
        rintro e w6 ⟨⟨v6, rfl, r6⟩, b6⟩
        have B6 := hide (B4.out.trans (b6.mono B4.out.size))
        have B7 := hide (HB0.out.trans (B6.out.mono HB0.out.size))
        have h4 : wb.heap.size ≤ w4.heap.size := B4.out.size
        have R6 := hide r6
        clear r6 b6 hcell
        have hr0 : w6.cell? ⟨w.heap.size + 1, 0, none⟩ = some (.int .i64 0) := (cell_of_row w6 _ 0 _ _ (0, 0) (two_cells HR0.out B6.out)).trans rfl
        have hr1 : w6.cell? ⟨w.heap.size + 1, 1, none⟩ = some (.slice none 0 0) := (cell_of_row w6 _ 1 _ _ (0, 0) (two_cells HR0.out B6.out)).trans rfl
        have hrf0 := frozen_of_row w6 (w.heap.size + 1) 0 _ _ (two_cells HR0.out B6.out)
        have hrf1 := frozen_of_row w6 (w.heap.size + 1) 1 _ _ (two_cells HR0.out B6.out)
        obtain ⟨a6, c6, rfl, -⟩ := rowChange_at R6.out
        go_wp2_with fail
        refine bodyPost_ret (v := .tuple #[.agg #[.int .i64 q, .slice a6 cs.length c6], .bool ok]) (by simp [results, Tryz.results93, go_sem, hr0, hr1]) rfl ⟨⟨.slice a6 cs.length c6, by rw [HE.out]; show _ = Ending.returned (.tuple #[.agg #[.int .i64 (rdSeq T0), _], .bool (rdOk T0)]); rw [HQ.out, HOK.out], ?_⟩, ?_⟩
        · rw [HE.out]
          show RowChange _ _ _ (rdChanges T0)
          rw [HCS.out]
          exact rowChange_le (rowChange_grown R6.out (grownBy_store (grownBy_store (World.grownBy.refl _ _) 0 _) 1 _) (fun g hg => by have := (rowChange_lt R6.out g hg).1; simp; omega)) (by omega)
        · exact (B7.out.setCell (p := ⟨w.heap.size + 1, 0, none⟩) (by simp) _).setCell (p := ⟨w.heap.size + 1, 1, none⟩) (by simp) _
    · have HE := hide (recAt_out HFD.out hp)
      have hpo : pos < 0 ∨ (F.text.size : Int) < pos := by omega
      clear hp
      go_wp2_with fail
      refine (l01In_no _ _ _ _ hpo).mono ?_
      rintro e w3 ⟨rfl, rfl⟩
      have hr0 : w3.cell? ⟨w.heap.size + 1, 0, none⟩ = some (.int .i64 0) := (cell_of_row w3 _ 0 _ _ (0, 0) HR2.out).trans rfl
      have hr1 : w3.cell? ⟨w.heap.size + 1, 1, none⟩ = some (.slice none 0 0) := (cell_of_row w3 _ 1 _ _ (0, 0) HR2.out).trans rfl
      have hrf0 := frozen_of_row w3 (w.heap.size + 1) 0 _ _ HR2.out
      have hrf1 := frozen_of_row w3 (w.heap.size + 1) 1 _ _ HR2.out
      go_wp2_with fail
      refine bodyPost_ret (v := .tuple #[.agg #[.int .i64 0, .slice none 0 0], .bool false]) (by simp [results, Tryz.results93, go_sem, hr0, hr1]) rfl ⟨⟨.slice none 0 0, by rw [HE.out]; rfl, by rw [HE.out]; exact .inl ⟨rfl, rfl⟩⟩, ?_⟩
      exact (B3.out.setCell (p := ⟨w.heap.size + 1, 0, none⟩) (by simp) _).setCell (p := ⟨w.heap.size + 1, 1, none⟩) (by simp) _
end Go.Proofs.YtijmlgdeeodehamGreatDoor

/- The specification's ValueOf. -/
namespace Go.Proofs.YtijmlgdeeodehamGreatDoor
open Go.RowKit

/-- What a batch puts under a key. -/
def valIn (key : ByteArray) : List ChangeD → Option ByteArray
  | [] => none
  | A :: r => if A.key = key ∧ A.gone = false then some A.value else valIn key r
def valRight (fs : List FileD) (s : SpotD) : Bool := diskOkD fs && (batOk (recAt fs s.seg s.pos) && decide (batSeq (recAt fs s.seg s.pos) = s.seq))
def valD (fs : List FileD) (s : SpotD) : Option ByteArray := if valRight fs s = true then valIn s.key (batChs (recAt fs s.seg s.pos)) else none
def outTx : Option ByteArray → ByteArray
  | none => ⟨#[]⟩
  | some t => t

theorem valD_disk {fs : List FileD} {s : SpotD} (h : diskOkD fs = false) : valD fs s = none := by unfold valD valRight; rw [h]; rfl
theorem valD_ok {fs : List FileD} {s : SpotD} (h : batOk (recAt fs s.seg s.pos) = false) : valD fs s = none := by unfold valD valRight; rw [h]; simp
theorem valD_seq {fs : List FileD} {s : SpotD} (h : batSeq (recAt fs s.seg s.pos) ≠ s.seq) : valD fs s = none := by unfold valD valRight; simp [h]
theorem valD_in {fs : List FileD} {s : SpotD} (h1 : diskOkD fs = true) (h2 : batOk (recAt fs s.seg s.pos) = true) (h3 : batSeq (recAt fs s.seg s.pos) = s.seq) : valD fs s = valIn s.key (batChs (recAt fs s.seg s.pos)) := by unfold valD valRight; rw [h1, h2, h3]; simp

theorem batChs_len (r : Option ByteArray) : (batChs r).length ≤ 40 := by
  cases r with
  | none => exact Nat.zero_le _
  | some t =>
    show (rdChanges t).length ≤ 40
    cases h : rdOk t with
    | false => simp [rdChanges, h]
    | true =>
      have h1 := (rd_text h).1
      unfold textOkD at h1
      simp only [Bool.and_eq_true] at h1
      exact (batchOkD_bounds h1.1).2.2.2

set_option maxRecDepth 100000 in
set_option maxHeartbeats 1600000 in
theorem specValueOf_any (fs : List FileD) (ao : Option Addr) (cap : Nat) (s : SpotD) (w : World) (hl : fs.length ≤ 1048576) (hfs : FilesAt w ao fs) (hsz : ∀ F ∈ fs, F.name.size ≤ 1048576 ∧ F.text.size ≤ 1048576) :
    Calls Tryz.prog 58 #[.agg #[.slice ao fs.length cap], .agg #[.string s.key, .int .i64 s.seg, .int .i64 s.pos, .int .i64 s.seq]] w fun e w' => e = .returned (.tuple #[.string (outTx (valD fs s)), .bool (valD fs s).isSome]) ∧ Below w.heap.size w w' := by
  obtain ⟨key, seg, pos, seq⟩ := s
  have HF := hide hfs
  have HS := hide hsz
  have HS2 : Hid (∀ F ∈ fs, F.name.size ≤ maxLen ∧ F.text.size ≤ maxLen) := fun F hF => by have := hsz F hF; unfold maxLen; omega
  clear hfs hsz
  obtain ⟨wb, hwb⟩ : ∃ wb, wb = (w.alloc (.cells #[.slice ao fs.length cap] 24)).alloc (.cells #[.string key, .int .i64 seg, .int .i64 pos, .int .i64 seq] 99) := ⟨_, rfl⟩
  have HB0 : Hid (Below w.heap.size w wb) := by rw [hwb]; exact ((Below.refl _ w).alloc (Nat.le_refl _) _).alloc (by simp) _
  have hbs2 : w.heap.size + 2 ≤ wb.heap.size := by rw [hwb]; simp
  have HC0 : Hid (wb.cell? ⟨w.heap.size, 0, none⟩ = some (.slice ao fs.length cap)) := by
    have h1 : (w.alloc (.cells #[.slice ao fs.length cap] 24)).cell? ⟨w.heap.size, 0, none⟩ = some (.slice ao fs.length cap) := (cell_of_row _ _ 0 _ _ (0, 0) (heap_alloc_new w _)).trans rfl
    show _ = _
    rw [hwb]
    exact ((((Below.refl _ (w.alloc (.cells #[.slice ao fs.length cap] 24))).alloc (Nat.le_refl _) (.cells #[.string key, .int .i64 seg, .int .i64 pos, .int .i64 seq] 99)).cell (p := ⟨w.heap.size, 0, none⟩) (by simp))).trans h1
  have HR0 : Hid (wb.heap[w.heap.size + 1]? = some (.cells #[.string key, .int .i64 seg, .int .i64 pos, .int .i64 seq] 99 (0, 0))) := by
    show _ = _
    rw [hwb, show w.heap.size + 1 = (w.alloc (.cells #[.slice ao fs.length cap] 24)).heap.size from by simp]
    exact heap_alloc_new _ _
  have HDO := hide (fun W (hW : FilesAt W ao fs) => specDiskOk_any fs ao cap W hl hW HS2.out)
  cases hok : diskOkD fs with
  | false =>
    have HE := hide (valD_disk (s := ⟨key, seg, pos, seq⟩) hok)
    rw [hok] at HDO
    go_enter Tryz.func58, Tryz.ntmps58
    go_wp2_with fail
    rw [← hwb]
    clear hwb hok
    refine (HDO.out _ (filesAt_keep HF.out HB0.out)).mono ?_
    rintro e w1 ⟨rfl, b1⟩
    have B1 := hide (HB0.out.trans (b1.mono HB0.out.size))
    clear b1
    go_wp2
    go_ret2
    rw [HE.out]
    exact ⟨rfl, B1.out⟩
  | true =>
    obtain ⟨r, HR⟩ : ∃ r, Hid (recAt fs seg pos = r) := ⟨_, rfl⟩
    have HLB := hide (fun W (hW : FilesAt W ao fs) => l07Batch_any fs ao cap seg pos W hl hW HS.out)
    rw [HR.out] at HLB
    have HV1 : Hid (batOk r = false → valD fs ⟨key, seg, pos, seq⟩ = none) := fun h => valD_ok (by rw [HR.out]; exact h)
    have HV2 : Hid (batSeq r ≠ seq → valD fs ⟨key, seg, pos, seq⟩ = none) := fun h => valD_seq (by rw [HR.out]; exact h)
    have HV3 : Hid (batOk r = true → batSeq r = seq → valD fs ⟨key, seg, pos, seq⟩ = valIn key (batChs r)) := fun h1 h2 => by
      have h := valD_in (s := ⟨key, seg, pos, seq⟩) hok (by rw [HR.out]; exact h1) (by rw [HR.out]; exact h2)
      rw [HR.out] at h
      exact h
    rw [hok] at HDO
    obtain ⟨q, HQ⟩ : ∃ q, Hid (batSeq r = q) := ⟨_, rfl⟩
    obtain ⟨ok, HOK⟩ : ∃ q, Hid (batOk r = q) := ⟨_, rfl⟩
    obtain ⟨cs, HCS⟩ : ∃ q, Hid (batChs r = q) := ⟨_, rfl⟩
    have hcs : cs.length ≤ 40 := by rw [← HCS.out]; exact batChs_len r
    rw [HQ.out, HOK.out, HCS.out] at HLB
    rw [HQ.out] at HV2 HV3
    rw [HOK.out] at HV1 HV3
    rw [HCS.out] at HV3
    go_enter Tryz.func58, Tryz.ntmps58
    go_wp2_with fail
    rw [← hwb]
    clear hwb hok
    refine (HDO.out _ (filesAt_keep HF.out HB0.out)).mono ?_
    rintro e w1 ⟨rfl, b1⟩
    have B1 := hide b1
    clear b1
    have hc0 : w1.cell? ⟨w.heap.size, 0, none⟩ = some (.slice ao fs.length cap) := (B1.out.cell (p := ⟨w.heap.size, 0, none⟩) (by show w.heap.size < _; omega)).trans HC0.out
    have HR1 := hide ((B1.out.block _ (heap_lt HR0.out)).trans HR0.out)
    have hs1 : w1.cell? ⟨w.heap.size + 1, 1, none⟩ = some (.int .i64 seg) := (cell_of_row w1 _ 1 _ _ (0, 0) HR1.out).trans rfl
    have hs2 : w1.cell? ⟨w.heap.size + 1, 2, none⟩ = some (.int .i64 pos) := (cell_of_row w1 _ 2 _ _ (0, 0) HR1.out).trans rfl
    go_wp2_with fail
    refine (HLB.out _ (filesAt_keep (filesAt_keep HF.out HB0.out) B1.out)).mono ?_
    rintro e w2 ⟨⟨v2, rfl, r2⟩, b2⟩
    have B2 := hide (B1.out.trans (b2.mono B1.out.size))
    have R2 := hide r2
    have h21 : w1.heap.size ≤ w2.heap.size := b2.size
    clear r2 b2 hc0 hs1 hs2 HR1
    obtain ⟨a2, c2, rfl, hat2⟩ := rowChange_at R2.out
    have HAT2 := hide hat2
    clear hat2
    have HR2 := hide ((B2.out.block _ (heap_lt HR0.out)).trans HR0.out)
    have BW := hide (HB0.out.trans (B2.out.mono HB0.out.size))
    have hw2 : wb.heap.size ≤ w2.heap.size := B2.out.size
    cases ok with
    | false =>
      have HE := hide (HV1.out rfl)
      go_wp2
      go_ret2
      rw [HE.out]
      exact ⟨rfl, BW.out.alloc (by omega) _⟩
    | true =>
      have hs3 : (w2.alloc (.cells #[.int .i64 q, .slice a2 cs.length c2] 118)).cell? ⟨w.heap.size + 1, 3, none⟩ = some (.int .i64 seq) := (((Below.refl _ w2).alloc (Nat.le_refl _) _).cell (p := ⟨w.heap.size + 1, 3, none⟩) (by show w.heap.size + 1 < _; omega)).trans ((cell_of_row w2 _ 3 _ _ (0, 0) HR2.out).trans rfl)
      by_cases hqs : q = seq
      · have hqb : (q == seq) = true := by rw [hqs]; exact beq_self_eq_true _
        have HE := hide (HV3.out rfl hqs)
        clear hqs
        go_wp2_with fail
        have B3 : Hid (Below w2.heap.size w2 (w2.alloc (.cells #[.int .i64 q, .slice a2 cs.length c2] 118))) := (Below.refl _ w2).alloc (Nat.le_refl _) _
        have HX3 := hide (heap_alloc_new w2 (.cells #[.int .i64 q, .slice a2 cs.length c2] 118))
        generalize w2.alloc (.cells #[.int .i64 q, .slice a2 cs.length c2] 118) = w3 at hs3 B3 HX3
        clear hs3
        have h3l : w2.heap.size < w3.heap.size := heap_lt HX3.out
        have HK3 : Hid (w3.cell? ⟨w.heap.size + 1, 0, none⟩ = some (.string key)) := (B3.out.cell (p := ⟨w.heap.size + 1, 0, none⟩) (by show w.heap.size + 1 < _; omega)).trans ((cell_of_row w2 _ 0 _ _ (0, 0) HR2.out).trans rfl)
        have HA3 := hide (changesAt_keep HAT2.out B3.out)
        have BW3 := hide (BW.out.trans (B3.out.mono (by omega)))
        clear HR2 HAT2
        go_loopw [8] (fun ii wr => ∃ (k : Nat), ii = .int .i64 k ∧ k ≤ cs.length ∧ Hid (valIn key (cs.drop k) = valD fs ⟨key, seg, pos, seq⟩) ∧ Hid (Below w3.heap.size w3 wr)) (fun ii _ => cs.length - (intOf ii).toNat)
        case atStart => exact ⟨0, rfl, Nat.zero_le _, by show _ = _; rw [HE.out]; rfl, Below.refl _ _⟩
        case round =>
          obtain ⟨k, rfl, hk, HV, HB⟩ := hrel
          have hc1 : wr.cell? ⟨w2.heap.size, 1, none⟩ = some (.slice a2 cs.length c2) := (HB.out.cell (p := ⟨w2.heap.size, 1, none⟩) h3l).trans ((cell_of_row w3 _ 1 _ _ (0, 0) HX3.out).trans rfl)
          have hck : wr.cell? ⟨w.heap.size + 1, 0, none⟩ = some (.string key) := (HB.out.cell (p := ⟨w.heap.size + 1, 0, none⟩) (by show w.heap.size + 1 < _; omega)).trans HK3.out
          by_cases hlt : k < cs.length
          · have hlt' : decide ((k : Int) < (cs.length : Int)) = true := by simp; omega
            obtain ⟨b, off, hao, hbl, hA0, hA1, hA2⟩ := changesAt_keep HA3.out HB.out k hlt
            subst hao
            obtain ⟨A, HA⟩ : ∃ A, Hid (cs[k] = A) := ⟨_, hide rfl⟩
            obtain ⟨ak, av, ag⟩ := A
            rw [HA.out] at hA0 hA1 hA2
            have hki0 : (0 : Int) ≤ (k : Int) := by omega
            have hki1 : (k : Int) < (cs.length : Int) := by omega
            have HVS : Hid (valD fs ⟨key, seg, pos, seq⟩ = if ak = key ∧ ag = false then some av else valIn key (cs.drop (k + 1))) := by
              show _ = _
              rw [← HV.out, List.drop_eq_getElem_cons hlt, HA.out]
              rfl
            have HBW : Hid (Below w.heap.size w wr) := BW3.out.trans (HB.out.mono (by have := BW3.out.size; omega))
            simp only at hA0 hA1 hA2
            go_wp2_with fail
            by_cases hke : ak = key
            · have hcmp := txt_eq hke
              cases ag with
              | false =>
                have HVN : Hid (valD fs ⟨key, seg, pos, seq⟩ = some av) := by show _ = _; rw [HVS.out, if_pos ⟨hke, rfl⟩]
                clear hke
                go_quiet (fail)
                go_wp2
                go_ret2
                rw [HVN.out]
                exact ⟨rfl, below_drewN HBW.out _⟩
              | true =>
                have HVN : Hid (valIn key (cs.drop (k + 1)) = valD fs ⟨key, seg, pos, seq⟩) := by show _ = _; rw [HVS.out, if_neg (fun h => by cases h.2)]
                clear hke
                go_quiet (fail)
                go_wp2
                go_roundw
                case rel => exact ⟨k + 1, by go_num, by omega, HVN, below_drewN HB.out _⟩
                case measure => simp [intOf]; omega
            · have hcmp := txt_ne hke
              have HVN : Hid (valIn key (cs.drop (k + 1)) = valD fs ⟨key, seg, pos, seq⟩) := by show _ = _; rw [HVS.out, if_neg (fun h => hke h.1)]
              clear hke
              go_quiet (fail)
              go_wp2
              go_roundw
              case rel => exact ⟨k + 1, by go_num, by omega, HVN, below_drewN HB.out _⟩
              case measure => simp [intOf]; omega
          · have hlt' : decide ((k : Int) < (cs.length : Int)) = false := by simp; omega
            have HN : Hid (valD fs ⟨key, seg, pos, seq⟩ = none) := by
              show _ = _
              rw [← HV.out, List.drop_eq_nil_of_le (by omega)]
              rfl
            go_wp2
            go_ret2
            rw [HN.out]
            exact ⟨rfl, BW3.out.trans (HB.out.mono (by have := BW3.out.size; omega))⟩
      · have hqb : (q == seq) = false := by rw [beq_eq_false_iff_ne]; exact hqs
        have HE := hide (HV2.out hqs)
        clear hqs
        go_wp2
        go_ret2
        rw [HE.out]
        exact ⟨rfl, BW.out.alloc (by omega) _⟩
end Go.Proofs.YtijmlgdeeodehamGreatDoor

/- The law of ValueOf, but for the program's own function. -/
namespace Go.Proofs.YtijmlgdeeodehamGreatDoor
open Go.RowKit

theorem szFs_le2 : ∀ (fs : List FileD) (n : Int), 0 ≤ n → szFs fs n ≤ n
  | [], _, _ => Int.le_refl _
  | F :: r, n, h => by
    unfold szFs
    split
    · omega
    · have := szF_le F n h
      have := szFs_le2 r (szF F n) (by omega)
      omega
/-- What a box of four has in a later world. -/
theorem box4_cells {w0 W : World} {g : Nat} {a b c d : Value} {t : Nat} (h : w0.heap[g]? = some (.cells #[a, b, c, d] t (0, 0))) (hb : Below w0.heap.size w0 W) :
    W.cell? ⟨g, 0, none⟩ = some a ∧ W.cell? ⟨g, 1, none⟩ = some b ∧ W.cell? ⟨g, 2, none⟩ = some c ∧ W.cell? ⟨g, 3, none⟩ = some d := by
  have h1 := (hb.block g (heap_lt h)).trans h
  exact ⟨(cell_of_row W _ 0 _ _ (0, 0) h1).trans rfl, (cell_of_row W _ 1 _ _ (0, 0) h1).trans rfl, (cell_of_row W _ 2 _ _ (0, 0) h1).trans rfl, (cell_of_row W _ 3 _ _ (0, 0) h1).trans rfl⟩

/-- A box of one and a box of four, in a later world. -/
theorem five_keep {W W' : World} {h g : Nat} {x a b c d : Value} (hb : Below W.heap.size W W') (h1 : h < W.heap.size) (h2 : g < W.heap.size) (hs : W.cell? ⟨h, 0, none⟩ = some x ∧ W.cell? ⟨g, 0, none⟩ = some a ∧ W.cell? ⟨g, 1, none⟩ = some b ∧ W.cell? ⟨g, 2, none⟩ = some c ∧ W.cell? ⟨g, 3, none⟩ = some d) :
    W'.cell? ⟨h, 0, none⟩ = some x ∧ W'.cell? ⟨g, 0, none⟩ = some a ∧ W'.cell? ⟨g, 1, none⟩ = some b ∧ W'.cell? ⟨g, 2, none⟩ = some c ∧ W'.cell? ⟨g, 3, none⟩ = some d :=
  ⟨(hb.cell (p := ⟨h, 0, none⟩) h1).trans hs.1, (hb.cell (p := ⟨g, 0, none⟩) h2).trans hs.2.1, (hb.cell (p := ⟨g, 1, none⟩) h2).trans hs.2.2.1, (hb.cell (p := ⟨g, 2, none⟩) h2).trans hs.2.2.2.1, (hb.cell (p := ⟨g, 3, none⟩) h2).trans hs.2.2.2.2⟩

end Go.Proofs.YtijmlgdeeodehamGreatDoor

/- The program's ValueOf. -/
namespace Go.Proofs.YtijmlgdeeodehamGreatDoor
open Go.RowKit

theorem frameAt_out (s : ByteArray) (i : Int) (w : World) (hs : s.size ≤ 20000) (h : i < 0 ∨ (s.size : Int) < i) :
    Calls Tryz.prog 159 #[.string s, .int .i64 i] w fun e w' => e = .returned (.tuple #[.string ⟨#[]⟩, .int .i64 0, .bool false]) ∧ Below w.heap.size w w' := by
  have hread : Hid (∀ W : World, Calls Tryz.prog 177 #[.string s, .int .i64 i] W fun e w' => e = .returned (.tuple #[.int .i64 0, .int .i64 0, .bool false]) ∧ w' = W) := fun W => implRead_out s i W (by unfold maxLen; omega) h
  go_enter Tryz.func159, Tryz.ntmps159
  go_wp2_with (first | (go_at_call 177; refine (hread.out _).mono ?_; rintro e w0 ⟨rfl, rfl⟩))
  go_ret3
  exact ⟨rfl, Below.refl _ _⟩

/-- The record at a place, read off the file itself. -/
theorem recAt_frame {fs : List FileD} {seg : Int} {p : Nat} {F : FileD} (h : fileD fs (segNm seg) = some F) (hp : p ≤ F.text.size) (hz : F.text.size ≤ 20000) : recAt fs seg (p : Int) = (frB F.text p).map (fun y => F.text.extract y.1 y.2) := by
  obtain ⟨T, hT⟩ : ∃ T, F.text.extract p F.text.size = T := ⟨_, rfl⟩
  have hTz : T.size ≤ 20000 := by rw [← hT, ByteArray.size_extract]; omega
  have hd := frB_drop F.text p 0 hp
  rw [hT, Nat.add_zero] at hd
  have hu : unf T = frs T (T.size + 1) 0 := by unfold unf; rw [if_pos hTz]
  cases hf : frB F.text p with
  | none =>
    rw [hf] at hd
    rw [recAt_nil h hp hT (by rw [hu]; exact frs_none T _ _ hd)]
    rfl
  | some y =>
    rw [hf] at hd
    have hb := frB_bounds F.text p y hf
    rw [recAt_some h hp hT (by rw [hu]; exact frs_some T _ _ _ hd)]
    show some (T.extract (shf p y).1 (shf p y).2) = some (F.text.extract y.1 y.2)
    rw [← hT]
    unfold shf
    simp only
    rw [extract_drop F.text p (y.1 - p) (y.2 - p) (by omega), show p + (y.1 - p) = y.1 by omega, show p + (y.2 - p) = y.2 by omega]

/-- The record that the program looks for. -/
def recI (fs : List FileD) (seg pos : Int) : Option ByteArray := if diskOkD fs = true then recAt fs seg pos else none

set_option maxRecDepth 100000 in
set_option maxHeartbeats 1600000 in
theorem batchAt_any (fs : List FileD) (ao : Option Addr) (cap : Nat) (s : SpotD) (w : World) (hl : fs.length ≤ 1048576) (hfs : FilesAt w ao fs) (hsz : ∀ F ∈ fs, F.name.size ≤ 1048576 ∧ F.text.size ≤ 1048576) (hT : SumTab w) :
    Calls Tryz.prog 129 #[.agg #[.slice ao fs.length cap], .agg #[.string s.key, .int .i64 s.seg, .int .i64 s.pos, .int .i64 s.seq]] w fun e w' => (∃ v, e = .returned (.tuple #[.agg #[.int .i64 (batSeq (recI fs s.seg s.pos)), v], .bool (batOk (recI fs s.seg s.pos))]) ∧ RowChange w' w.heap.size v (batChs (recI fs s.seg s.pos))) ∧ Below w.heap.size w w' := by
  obtain ⟨key, seg, pos, seq⟩ := s
  simp only
  have HF := hide hfs
  have HS := hide hsz
  have HT := hide hT
  have HS2 : Hid (∀ F ∈ fs, F.name.size ≤ maxLen ∧ F.text.size ≤ maxLen) := fun F hF => by have := hsz F hF; unfold maxLen; omega
  clear hfs hsz hT
  obtain ⟨wb, hwb⟩ : ∃ wb, wb = ((w.alloc (.cells #[.slice ao fs.length cap] 24)).alloc (.cells #[.string key, .int .i64 seg, .int .i64 pos, .int .i64 seq] 99)).alloc (.cells #[.int .i64 0, .slice none 0 0] 118) := ⟨_, rfl⟩
  have HB0 : Hid (Below w.heap.size w wb) := by rw [hwb]; exact (((Below.refl _ w).alloc (Nat.le_refl _) _).alloc (by simp) _).alloc (by simp; omega) _
  have hbs : wb.heap.size = w.heap.size + 3 := by rw [hwb]; simp
  have HC0 : Hid (wb.heap[w.heap.size]? = some (.cells #[.slice ao fs.length cap] 24 (0, 0))) := by
    show _ = _
    rw [hwb]
    exact (Below.heap_alloc _ _ _ (by simp; omega)).trans ((Below.heap_alloc _ _ _ (by simp)).trans (heap_alloc_new w _))
  have HC1 : Hid (wb.heap[w.heap.size + 1]? = some (.cells #[.string key, .int .i64 seg, .int .i64 pos, .int .i64 seq] 99 (0, 0))) := by
    show _ = _
    rw [hwb]
    refine (Below.heap_alloc _ _ _ (by simp)).trans ?_
    rw [show w.heap.size + 1 = (w.alloc (.cells #[.slice ao fs.length cap] 24)).heap.size from by simp]
    exact heap_alloc_new _ _
  have HC2 : Hid (wb.heap[w.heap.size + 1 + 1]? = some (.cells #[.int .i64 0, .slice none 0 0] 118 (0, 0))) := by
    show _ = _
    rw [hwb, show w.heap.size + 1 + 1 = ((w.alloc (.cells #[.slice ao fs.length cap] 24)).alloc (.cells #[.string key, .int .i64 seg, .int .i64 pos, .int .i64 seq] 99)).heap.size from by simp]
    exact heap_alloc_new _ _
  have HDO := hide (fun W (hW : FilesAt W ao fs) => diskOk_any fs ao cap W hl hW HS2.out)
  have HNO : Hid (∀ W, recI fs seg pos = none → Below wb.heap.size wb W → ∀ u u2, ((∃ v, Ending.returned (.tuple #[.agg #[.int .i64 0, .slice none 0 0], .bool false]) = Ending.returned (.tuple #[.agg #[.int .i64 (batSeq (recI fs seg pos)), v], .bool (batOk (recI fs seg pos))]) ∧ RowChange ((W.setCell ⟨w.heap.size + 1 + 1, 0, none⟩ u).setCell ⟨w.heap.size + 1 + 1, 1, none⟩ u2) w.heap.size v (batChs (recI fs seg pos))) ∧ Below w.heap.size w ((W.setCell ⟨w.heap.size + 1 + 1, 0, none⟩ u).setCell ⟨w.heap.size + 1 + 1, 1, none⟩ u2))) := by
    intro W h hW u u2
    rw [h]
    exact ⟨⟨_, rfl, .inl ⟨rfl, rfl⟩⟩, ((HB0.out.trans (hW.mono (by omega))).setCell (p := ⟨w.heap.size + 1 + 1, 0, none⟩) (by show w.heap.size ≤ w.heap.size + 1 + 1; omega) u).setCell (p := ⟨w.heap.size + 1 + 1, 1, none⟩) (by show w.heap.size ≤ w.heap.size + 1 + 1; omega) u2⟩
  cases hok : diskOkD fs with
  | false =>
    have HE : Hid (recI fs seg pos = none) := by show _ = _; unfold recI; rw [hok]; rfl
    rw [hok] at HDO
    clear hok
    go_enter Tryz.func129, Tryz.ntmps129
    go_wp2_with fail
    rw [← hwb]
    clear hwb
    refine (HDO.out _ (filesAt_keep HF.out HB0.out)).mono ?_
    rintro e w1 ⟨rfl, b1⟩
    have hr0 : w1.cell? ⟨w.heap.size + 1 + 1, 0, none⟩ = some (.int .i64 0) := (cell_of_row w1 _ 0 _ _ (0, 0) (two_cells HC2.out b1)).trans rfl
    have hr1 : w1.cell? ⟨w.heap.size + 1 + 1, 1, none⟩ = some (.slice none 0 0) := (cell_of_row w1 _ 1 _ _ (0, 0) (two_cells HC2.out b1)).trans rfl
    have hrf0 := frozen_of_row w1 (w.heap.size + 1 + 1) 0 _ _ (two_cells HC2.out b1)
    have hrf1 := frozen_of_row w1 (w.heap.size + 1 + 1) 1 _ _ (two_cells HC2.out b1)
    have B1 := hide b1
    clear b1
    go_wp2_with fail
    exact bodyPost_ret (v := .tuple #[.agg #[.int .i64 0, .slice none 0 0], .bool false]) (by simp [results, Tryz.results129, go_sem, hr0, hr1]) rfl (HNO.out _ HE.out B1.out _ _)
  | true =>
    rw [hok] at HDO
    have HRI : Hid (recI fs seg pos = recAt fs seg pos) := by show _ = _; unfold recI; rw [hok]; rfl
    have hdk := (disk_iff fs).1 hok
    clear hok
    obtain ⟨NM, HNM⟩ : ∃ NM, Hid (segNm seg = NM) := ⟨_, rfl⟩
    have HN : Hid (∀ W : World, Calls Tryz.prog 34 #[.int .i64 seg] W fun e w' => e = .returned (.string NM) ∧ w' = W) := fun W => by rw [← HNM.out]; exact implSegName_any seg W
    go_enter Tryz.func129, Tryz.ntmps129
    go_wp2_with fail
    rw [← hwb]
    clear hwb
    refine (HDO.out _ (filesAt_keep HF.out HB0.out)).mono ?_
    rintro e w1 ⟨rfl, b1⟩
    have B1 := hide b1
    have hc0 : w1.cell? ⟨w.heap.size, 0, none⟩ = some (.slice ao fs.length cap) := (cell_of_row w1 _ 0 _ _ (0, 0) ((b1.block _ (heap_lt HC0.out)).trans HC0.out)).trans rfl
    obtain ⟨hs0, hs1, hs2, hs3⟩ := box4_cells HC1.out b1
    clear b1
    have hlt0 : w.heap.size < w1.heap.size := by have := B1.out.size; omega
    have hlt1 : w.heap.size + 1 < w1.heap.size := by have := B1.out.size; omega
    go_wp2_with fail
    cases hfd : fileD fs (segNm seg) with
    | none =>
      have HE : Hid (recI fs seg pos = none) := by show _ = _; rw [HRI.out]; exact recAt_none hfd
      have HAT : Hid (∀ W, Below w1.heap.size w1 W → Calls Tryz.prog 116 #[.agg #[.slice ao fs.length cap], .string NM] W fun e w' => e = .returned (.tuple #[.string ⟨#[]⟩, .bool false]) ∧ Below W.heap.size W w') := fun W hW => fileAt_none fs ao cap NM W hl (filesAt_keep (filesAt_keep HF.out (HB0.out.trans (B1.out.mono HB0.out.size))) hW) HS.out (by rw [← HNM.out]; exact hfd)
      clear hfd
      go_region_held3 (fun w' => w'.cell? ⟨w.heap.size, 0, none⟩ = some (.slice ao fs.length cap) ∧ w'.cell? ⟨w.heap.size + 1, 1, none⟩ = some (.int .i64 seg)) (first | go_keep | (exact ⟨hc0, hs1⟩) | (exact ⟨(b2.cell (p := ⟨w.heap.size, 0, none⟩) hlt0).trans hc0, (b2.cell (p := ⟨w.heap.size + 1, 1, none⟩) hlt1).trans hs1⟩)) ((first | (go_at_call 34; refine (HN.out _).mono ?_; rintro e w' ⟨rfl, rfl⟩) | (go_at_call 116; refine (HAT.out _ (by first | exact Below.refl _ _ | exact (Below.refl _ _).drew)).mono ?_; rintro e w2 ⟨rfl, b2⟩)))
      have B2 : Hid (Below w1.heap.size w1 w2) := (Below.refl _ _).drew.trans b2
      clear b2 hc0 hs0 hs1 hs2 hs3
      have B3 := hide (B1.out.trans (B2.out.mono B1.out.size))
      have hr0 : w2.cell? ⟨w.heap.size + 1 + 1, 0, none⟩ = some (.int .i64 0) := (cell_of_row w2 _ 0 _ _ (0, 0) (two_cells HC2.out B3.out)).trans rfl
      have hr1 : w2.cell? ⟨w.heap.size + 1 + 1, 1, none⟩ = some (.slice none 0 0) := (cell_of_row w2 _ 1 _ _ (0, 0) (two_cells HC2.out B3.out)).trans rfl
      have hrf0 := frozen_of_row w2 (w.heap.size + 1 + 1) 0 _ _ (two_cells HC2.out B3.out)
      have hrf1 := frozen_of_row w2 (w.heap.size + 1 + 1) 1 _ _ (two_cells HC2.out B3.out)
      go_wp2_with fail
      exact bodyPost_ret (v := .tuple #[.agg #[.int .i64 0, .slice none 0 0], .bool false]) (by simp [results, Tryz.results129, go_sem, hr0, hr1]) rfl (HNO.out _ HE.out B3.out _ _)
    | some F =>
      have hFm := List.mem_of_find?_eq_some hfd
      have hFz := (ok_file (hdk.2.1 F hFm)).2.2.1
      have HAT : Hid (∀ W, Below w1.heap.size w1 W → Calls Tryz.prog 116 #[.agg #[.slice ao fs.length cap], .string NM] W fun e w' => e = .returned (.tuple #[.string F.text, .bool true]) ∧ Below W.heap.size W w') := fun W hW => fileAt_some fs ao cap NM W F hl (filesAt_keep (filesAt_keep HF.out (HB0.out.trans (B1.out.mono HB0.out.size))) hW) HS.out (by rw [← HNM.out]; exact hfd)
      have HFD := hide hfd
      clear hfd hFm hdk
      go_region_held3 (fun w' => w'.cell? ⟨w.heap.size, 0, none⟩ = some (.slice ao fs.length cap) ∧ w'.cell? ⟨w.heap.size + 1, 1, none⟩ = some (.int .i64 seg)) (first | go_keep | (exact ⟨hc0, hs1⟩) | (exact ⟨(b2.cell (p := ⟨w.heap.size, 0, none⟩) hlt0).trans hc0, (b2.cell (p := ⟨w.heap.size + 1, 1, none⟩) hlt1).trans hs1⟩)) ((first | (go_at_call 34; refine (HN.out _).mono ?_; rintro e w' ⟨rfl, rfl⟩) | (go_at_call 116; refine (HAT.out _ (by first | exact Below.refl _ _ | exact (Below.refl _ _).drew)).mono ?_; rintro e w2 ⟨rfl, b2⟩)))
      have B2 : Hid (Below w1.heap.size w1 w2) := (Below.refl _ _).drew.trans b2
      clear b2 hc0 hs0 hs1 hs2 hs3
      have B3 := hide (B1.out.trans (B2.out.mono B1.out.size))
      obtain ⟨hs0, hs1, hs2, hs3⟩ := box4_cells HC1.out B3.out
      have HT2 : Hid (SumTab w2) := sumTab_later (HB0.out.trans (B3.out.mono HB0.out.size)) HT.out
      have HFR : Hid ((recI fs seg pos = none ∧ ∀ W : World, SumTab W → Calls Tryz.prog 159 #[.string F.text, .int .i64 pos] W fun e w' => e = .returned (.tuple #[.string ⟨#[]⟩, .int .i64 0, .bool false]) ∧ Below W.heap.size W w') ∨
          ∃ R : ByteArray, R.size ≤ 20000 ∧ recI fs seg pos = some R ∧ ∃ e : Int, ∀ W : World, SumTab W → Calls Tryz.prog 159 #[.string F.text, .int .i64 pos] W fun e' w' => e' = .returned (.tuple #[.string R, .int .i64 e, .bool true]) ∧ Below W.heap.size W w') := by
        rw [HRI.out]
        by_cases hp : 0 ≤ pos ∧ pos ≤ F.text.size
        · obtain ⟨p, rfl⟩ := Int.eq_ofNat_of_zero_le hp.1
          have hp2 : p ≤ F.text.size := by omega
          have hrf := recAt_frame HFD.out hp2 hFz
          cases hfr : frB F.text p with
          | none =>
            rw [hfr] at hrf
            exact .inl ⟨hrf, fun W hW => frameAt_none F.text p W hFz hp2 hfr hW⟩
          | some y =>
            rw [hfr] at hrf
            exact .inr ⟨F.text.extract y.1 y.2, by rw [ByteArray.size_extract]; omega, hrf, y.2, fun W hW => frameAt_some F.text p y W hFz hp2 hfr hW⟩
        · exact .inl ⟨recAt_out HFD.out hp, fun W _ => frameAt_out F.text pos W hFz (by omega)⟩
      rcases HFR.out with ⟨hE, hC⟩ | ⟨R, hRz, hE, ee, hC⟩
      · have HE := hide hE
        have HC := hide hC
        clear hE hC
        go_wp2_with fail
        refine (HC.out _ HT2.out).mono ?_
        rintro e w4 ⟨rfl, b4⟩
        have B4 := hide (B3.out.trans (b4.mono B3.out.size))
        clear b4 hs0 hs1 hs2 hs3
        have hr0 : w4.cell? ⟨w.heap.size + 1 + 1, 0, none⟩ = some (.int .i64 0) := (cell_of_row w4 _ 0 _ _ (0, 0) (two_cells HC2.out B4.out)).trans rfl
        have hr1 : w4.cell? ⟨w.heap.size + 1 + 1, 1, none⟩ = some (.slice none 0 0) := (cell_of_row w4 _ 1 _ _ (0, 0) (two_cells HC2.out B4.out)).trans rfl
        have hrf0 := frozen_of_row w4 (w.heap.size + 1 + 1) 0 _ _ (two_cells HC2.out B4.out)
        have hrf1 := frozen_of_row w4 (w.heap.size + 1 + 1) 1 _ _ (two_cells HC2.out B4.out)
        go_wp2_with fail
        exact bodyPost_ret (v := .tuple #[.agg #[.int .i64 0, .slice none 0 0], .bool false]) (by simp [results, Tryz.results129, go_sem, hr0, hr1]) rfl (HNO.out _ HE.out B4.out _ _)
      · have HE := hide hE
        have HC := hide hC
        clear hE hC
        have HRB := hide (fun W => implReadBatch_any R W (by omega))
        go_wp2_with fail
        refine (HC.out _ HT2.out).mono ?_
        rintro e w4 ⟨rfl, b4⟩
        have B4 := hide (B3.out.trans (b4.mono B3.out.size))
        clear b4 hs0 hs1 hs2 hs3
        go_wp2_with fail
        refine (HRB.out _).mono ?_
        rintro e w5 ⟨⟨v5, rfl, r5⟩, b5⟩
        obtain ⟨a5, c5, rfl, -⟩ := rowChange_at r5
        have B5 := hide (B4.out.trans (b5.mono B4.out.size))
        have R5 := hide r5
        clear r5 b5
        have hr0 : w5.cell? ⟨w.heap.size + 1 + 1, 0, none⟩ = some (.int .i64 0) := (cell_of_row w5 _ 0 _ _ (0, 0) (two_cells HC2.out B5.out)).trans rfl
        have hr1 : w5.cell? ⟨w.heap.size + 1 + 1, 1, none⟩ = some (.slice none 0 0) := (cell_of_row w5 _ 1 _ _ (0, 0) (two_cells HC2.out B5.out)).trans rfl
        have hrf0 := frozen_of_row w5 (w.heap.size + 1 + 1) 0 _ _ (two_cells HC2.out B5.out)
        have hrf1 := frozen_of_row w5 (w.heap.size + 1 + 1) 1 _ _ (two_cells HC2.out B5.out)
        have hsz4 : w.heap.size ≤ w4.heap.size := by have := B4.out.size; omega
        go_wp2_with fail
        refine bodyPost_ret (v := .tuple #[.agg #[.int .i64 (rdSeq R), .slice a5 (rdChanges R).length c5], .bool (rdOk R)]) (by simp [results, Tryz.results129, go_sem, hr0, hr1]) rfl ?_
        rw [HE.out]
        have gS := grownBy_store (grownBy_store (World.grownBy.refl w5 (some (w.heap.size + 1 + 1))) 0 (.int .i64 (rdSeq R))) 1 (.slice a5 (rdChanges R).length c5)
        refine ⟨⟨_, rfl, rowChange_grown (rowChange_le R5.out hsz4) gS (fun k hk e => ?_)⟩, (HB0.out.trans (B5.out.mono (by omega))).grown gS (by have := B5.out.size; omega) (fun k hk => by cases hk; omega)⟩
        obtain ⟨C, hC⟩ := change_block R5.out hk
        obtain rfl := Option.some.inj e
        rw [two_cells HC2.out B5.out] at hC
        simp at hC
end Go.Proofs.YtijmlgdeeodehamGreatDoor

/- The program's ValueOf: the batch at a spot, and what it puts under the key. -/
namespace Go.Proofs.YtijmlgdeeodehamGreatDoor
open Go.RowKit

theorem eql_spot (k1 k2 : ByteArray) (a b q1 q2 : Int) (r : Bool) (h : ((k1.toList == k2.toList) && (q1 == q2)) = r) : ∀ W : World, (binOp .eql 99 (.agg #[.string k1, .int .i64 a, .int .i64 b, .int .i64 q1]) (.agg #[.string k2, .int .i64 a, .int .i64 b, .int .i64 q2])).run Tryz.prog W = .ok (.bool r) W := by
  intro W
  have hst : Tryz.prog.stoodInHeld 99 = false := by kernel_rfl
  have hfl : Tryz.prog.underlying 99 = some (.struct (Tryz.prog.fieldsOf 99)) := by kernel_rfl
  rw [run_eql_struct, run_equalIn_struct W 9999 99 _ _ hfl hst]
  clear hfl hst
  subst h
  cases h1 : (k1.toList == k2.toList) <;> cases h2 : (q1 == q2) <;> simp [go_sem, h1, h2]
theorem valD_recI (fs : List FileD) (key : ByteArray) (seg pos seq : Int) : valD fs ⟨key, seg, pos, seq⟩ = if batOk (recI fs seg pos) = true then (if batSeq (recI fs seg pos) = seq then valIn key (batChs (recI fs seg pos)) else none) else none := by
  unfold valD valRight recI
  cases hd : diskOkD fs with
  | false => simp [batOk]
  | true =>
    simp only [if_true, Bool.true_and, Bool.and_eq_true, decide_eq_true_eq]
    by_cases h1 : batOk (recAt fs seg pos) = true
    · rw [if_pos h1]
      by_cases h2 : batSeq (recAt fs seg pos) = seq
      · rw [if_pos h2, if_pos ⟨h1, h2⟩]
      · rw [if_neg h2, if_neg (fun h => h2 h.2)]
    · rw [if_neg h1, if_neg (fun h => h1 h.1)]
theorem valIn_step {key : ByteArray} {A : ChangeD} {r : List ChangeD} {bsq seq : Int} : (if bsq = seq then valIn key (A :: r) else none) = if ((A.key.toList == key.toList) && (bsq == seq)) = true ∧ A.gone = false then some A.value else (if bsq = seq then valIn key r else none) := by
  have hk : (A.key.toList == key.toList) = decide (A.key = key) := by
    cases h : (A.key.toList == key.toList) with
    | false => exact (decide_eq_false (toList_ne.1 h)).symm
    | true =>
      refine (decide_eq_true ?_).symm
      apply Decidable.byContradiction
      intro hn
      rw [toList_ne.2 hn] at h
      cases h
  rw [hk]
  by_cases h2 : bsq = seq
  · subst h2
    simp [valIn]
  · simp [h2]

set_option maxRecDepth 100000 in
set_option maxHeartbeats 1600000 in
theorem implValueOf_any (fs : List FileD) (ao : Option Addr) (cap : Nat) (s : SpotD) (w : World) (hl : fs.length ≤ 1048576) (hfs : FilesAt w ao fs) (hsz : ∀ F ∈ fs, F.name.size ≤ 1048576 ∧ F.text.size ≤ 1048576) (hks : s.key.size ≤ 1048576) (hT : SumTab w) :
    Calls Tryz.prog 94 #[.agg #[.slice ao fs.length cap], .agg #[.string s.key, .int .i64 s.seg, .int .i64 s.pos, .int .i64 s.seq]] w fun e w' => e = .returned (.tuple #[.string (outTx (valD fs s)), .bool (valD fs s).isSome]) ∧ Below w.heap.size w w' := by
  have HBA := hide (fun W hW hTW => batchAt_any fs ao cap s W hl hW hsz hTW)
  have HF := hide hfs
  have HT := hide hT
  clear hfs hsz hT
  obtain ⟨key, seg, pos, seq⟩ := s
  simp only at HBA hks ⊢
  obtain ⟨wb, hwb⟩ : ∃ wb, wb = (w.alloc (.cells #[.slice ao fs.length cap] 24)).alloc (.cells #[.string key, .int .i64 seg, .int .i64 pos, .int .i64 seq] 99) := ⟨_, rfl⟩
  have HB0 : Hid (Below w.heap.size w wb) := by rw [hwb]; exact ((Below.refl _ w).alloc (Nat.le_refl _) _).alloc (by simp) _
  have hbs : wb.heap.size = w.heap.size + 2 := by rw [hwb]; simp
  have HC1 : Hid (wb.heap[w.heap.size + 1]? = some (.cells #[.string key, .int .i64 seg, .int .i64 pos, .int .i64 seq] 99 (0, 0))) := by
    show _ = _
    rw [hwb, show w.heap.size + 1 = (w.alloc (.cells #[.slice ao fs.length cap] 24)).heap.size from by simp]
    exact heap_alloc_new _ _
  obtain ⟨rI, HRI⟩ : ∃ r, Hid (recI fs seg pos = r) := ⟨_, hide rfl⟩
  rw [HRI.out] at HBA
  have hchl := batChs_len rI
  obtain ⟨bok, HBOK⟩ : ∃ b, Hid (batOk rI = b) := ⟨_, hide rfl⟩
  obtain ⟨bsq, HBSQ⟩ : ∃ b, Hid (batSeq rI = b) := ⟨_, hide rfl⟩
  obtain ⟨bch, HBCH⟩ : ∃ b, Hid (batChs rI = b) := ⟨_, hide rfl⟩
  rw [HBOK.out, HBSQ.out, HBCH.out] at HBA
  rw [HBCH.out] at hchl
  have HV : Hid (valD fs ⟨key, seg, pos, seq⟩ = if bok = true then (if bsq = seq then valIn key bch else none) else none) := by show _ = _; rw [valD_recI, HRI.out, HBOK.out, HBSQ.out, HBCH.out]
  clear HRI HBOK HBSQ HBCH
  cases bok with
  | false =>
    go_enter Tryz.func94, Tryz.ntmps94
    go_wp2_with fail
    rw [← hwb]
    clear hwb
    refine (HBA.out _ (filesAt_keep HF.out HB0.out) (sumTab_later HB0.out HT.out)).mono ?_
    rintro e w1 ⟨⟨v1, rfl, r1⟩, b1⟩
    obtain ⟨a1, c1, rfl, -⟩ := rowChange_at r1
    have HE : Hid (valD fs ⟨key, seg, pos, seq⟩ = none) := by show _ = _; rw [HV.out]; rfl
    go_wp2_with fail
    go_ret2
    rw [HE.out]
    exact ⟨rfl, (HB0.out.trans (b1.mono HB0.out.size)).alloc (by have := b1.size; omega) _⟩
  | true =>
    obtain ⟨X, HX⟩ : ∃ X, Hid ((if bsq = seq then valIn key bch else none) = X) := ⟨_, hide rfl⟩
    have HV2 : valD fs ⟨key, seg, pos, seq⟩ = X := by rw [HV.out, ← HX.out]; rfl
    rw [HV2]
    clear HV HV2
    go_enter Tryz.func94, Tryz.ntmps94
    go_wp2_with fail
    rw [← hwb]
    clear hwb
    refine (HBA.out _ (filesAt_keep HF.out HB0.out) (sumTab_later HB0.out HT.out)).mono ?_
    rintro e w1 ⟨⟨v1, rfl, r1⟩, b1⟩
    obtain ⟨a1, c1, rfl, -⟩ := rowChange_at r1
    have B1 := hide b1
    have R1 := hide (rowChange_rows r1)
    clear b1 r1
    obtain ⟨wc, hwc⟩ : ∃ wc, wc = w1.alloc (.cells #[.int .i64 bsq, .slice a1 bch.length c1] 118) := ⟨_, rfl⟩
    have BC : Hid (Below w1.heap.size w1 wc) := by rw [hwc]; exact (Below.refl _ w1).alloc (Nat.le_refl _) _
    have hcs : wc.heap.size = w1.heap.size + 1 := by rw [hwc]; simp
    have HCB : Hid (wc.heap[w1.heap.size]? = some (.cells #[.int .i64 bsq, .slice a1 bch.length c1] 118 (0, 0))) := by rw [hwc]; exact heap_alloc_new w1 _
    have HRC : Hid (ChangesAt wc a1 bch) := changesAt_keep R1.out BC.out
    have HSB : Hid (wc.heap[w.heap.size + 1]? = some (.cells #[.string key, .int .i64 seg, .int .i64 pos, .int .i64 seq] 99 (0, 0))) := (BC.out.block _ (by have := B1.out.size; omega)).trans ((B1.out.block _ (heap_lt HC1.out)).trans HC1.out)
    have HBc : Hid (Below w.heap.size w wc) := HB0.out.trans ((B1.out.trans (BC.out.mono B1.out.size)).mono (by omega))
    have hcc1 : wc.cell? ⟨w1.heap.size, 1, none⟩ = some (.slice a1 bch.length c1) := (cell_of_row wc _ 1 _ _ (0, 0) HCB.out).trans rfl
    go_wp2_with fail
    rw [← hwc]
    clear hwc hcc1
    go_loopw [22] (fun ii wr => ∃ (k : Nat), ii = .int .i64 k ∧ k ≤ bch.length ∧ Hid ((if bsq = seq then valIn key (bch.drop k) else none) = X) ∧ Hid (Below wc.heap.size wc wr)) (fun ii _ => bch.length - (intOf ii).toNat)
    case atStart => exact ⟨0, rfl, Nat.zero_le _, HX, Below.refl _ _⟩
    case round =>
      obtain ⟨k, rfl, hk, HK, HB⟩ := hrel
      have hws := HB.out.size
      by_cases hlt : k < bch.length
      · have hlt' : decide ((k : Int) < (bch.length : Int)) = true := by simp; omega
        have hi0 : (0 : Int) ≤ (k : Int) := by omega
        have hi1 : (k : Int) < (bch.length : Int) := by omega
        obtain ⟨b, off, hab, hbw, hd0, hd1, hd2⟩ := changesAt_keep HRC.out HB.out k hlt
        subst hab
        have hdk := List.drop_eq_getElem_cons hlt
        rw [hdk, valIn_step] at HK
        clear hdk
        generalize bch[k] = A at hd0 hd1 hd2 HK
        obtain ⟨wr1, hwr1⟩ : ∃ x, x = wr.alloc (.cells #[.string A.key, .string A.value, .bool A.gone] 128) := ⟨_, rfl⟩
        obtain ⟨wr2, hwr2⟩ : ∃ x, x = wr1.alloc (.cells #[.string A.key, .int .i64 seg, .int .i64 pos, .int .i64 bsq] 99) := ⟨_, rfl⟩
        have B1r : Hid (Below wr.heap.size wr wr1) := by rw [hwr1]; exact (Below.refl _ wr).alloc (Nat.le_refl _) _
        have hz1 : wr1.heap.size = wr.heap.size + 1 := by rw [hwr1]; simp
        have B2r : Hid (Below wr.heap.size wr wr2) := by rw [hwr2]; exact B1r.out.alloc B1r.out.size _
        have hwz : w.heap.size + 2 ≤ w1.heap.size := by have := B1.out.size; omega
        have hsb := (B1r.out.block (w.heap.size + 1) (by omega)).trans ((HB.out.block _ (heap_lt HSB.out)).trans HSB.out)
        have hsc := (B1r.out.block w1.heap.size (by omega)).trans ((HB.out.block _ (heap_lt HCB.out)).trans HCB.out)
        have hsb2 := (B2r.out.block (w.heap.size + 1) (by omega)).trans ((HB.out.block _ (heap_lt HSB.out)).trans HSB.out)
        have hch1 : wr1.heap[wr.heap.size]? = some (.cells #[.string A.key, .string A.value, .bool A.gone] 128 (0, 0)) := by rw [hwr1]; exact heap_alloc_new wr _
        have hch2 : wr2.heap[wr.heap.size]? = some (.cells #[.string A.key, .string A.value, .bool A.gone] 128 (0, 0)) := by rw [hwr2]; exact (Below.heap_alloc _ _ _ (by omega)).trans hch1
        have hf1 : wr1.cell? ⟨w.heap.size + 1, 1, none⟩ = some (.int .i64 seg) := (cell_of_row wr1 _ 1 _ _ (0, 0) hsb).trans rfl
        have hf2 : wr1.cell? ⟨w.heap.size + 1, 2, none⟩ = some (.int .i64 pos) := (cell_of_row wr1 _ 2 _ _ (0, 0) hsb).trans rfl
        have hf3 : wr1.cell? ⟨w1.heap.size, 0, none⟩ = some (.int .i64 bsq) := (cell_of_row wr1 _ 0 _ _ (0, 0) hsc).trans rfl
        have hf4 : wr2.cell? ⟨w.heap.size + 1, 0, none⟩ = some (.string key) := (cell_of_row wr2 _ 0 _ _ (0, 0) hsb2).trans rfl
        have hf5 : wr2.cell? ⟨w.heap.size + 1, 1, none⟩ = some (.int .i64 seg) := (cell_of_row wr2 _ 1 _ _ (0, 0) hsb2).trans rfl
        have hf6 : wr2.cell? ⟨w.heap.size + 1, 2, none⟩ = some (.int .i64 pos) := (cell_of_row wr2 _ 2 _ _ (0, 0) hsb2).trans rfl
        have hf7 : wr2.cell? ⟨w.heap.size + 1, 3, none⟩ = some (.int .i64 seq) := (cell_of_row wr2 _ 3 _ _ (0, 0) hsb2).trans rfl
        have hf8 : wr2.cell? ⟨wr.heap.size, 1, none⟩ = some (.string A.value) := (cell_of_row wr2 _ 1 _ _ (0, 0) hch2).trans rfl
        have hf9 : wr2.cell? ⟨wr.heap.size, 2, none⟩ = some (.bool A.gone) := (cell_of_row wr2 _ 2 _ _ (0, 0) hch2).trans rfl
        have hf0 : wr1.cell? ⟨wr.heap.size, 0, none⟩ = some (.string A.key) := (cell_of_row wr1 _ 0 _ _ (0, 0) hch1).trans rfl
        have BN : Hid (Below wc.heap.size wc wr2) := HB.out.trans (B2r.out.mono hws)
        have BN2 : Hid (Below w.heap.size w wr2) := HBc.out.trans (BN.out.mono (by have := HBc.out.size; omega))
        have hgd : Tryz.prog.eqGuardType Tryz.prog.depth 99 = false := by kernel_rfl
        clear hsb hsc hsb2 hch1 hch2 B1r B2r hz1
        subst hwr2 hwr1
        obtain ⟨r, HRR⟩ : ∃ r, Hid (((A.key.toList == key.toList) && (bsq == seq)) = r) := ⟨_, hide rfl⟩
        have heql := eql_spot A.key key seg pos bsq seq r HRR.out
        rw [HRR.out] at HK
        cases r with
        | false =>
          have HK1 : Hid ((if bsq = seq then valIn key (bch.drop (k + 1)) else none) = X) := by show _ = _; rw [← HK.out]; simp
          clear HK HRR
          go_wp2
          go_roundw
          case rel => exact ⟨k + 1, by go_num, by omega, HK1, BN⟩
          case measure => simp [intOf]; omega
        | true =>
          cases hgo : A.gone with
          | true =>
            have HK1 : Hid ((if bsq = seq then valIn key (bch.drop (k + 1)) else none) = X) := by show _ = _; rw [← HK.out]; simp [hgo]
            rw [hgo] at hf1 hf2 hf3 hf4 hf5 hf6 hf7 hf8 hf9 hf0 BN hd2
            clear HK HRR hgo
            go_wp2
            go_roundw
            case rel => exact ⟨k + 1, by go_num, by omega, HK1, BN⟩
            case measure => simp [intOf]; omega
          | false =>
            have hX : Hid (X = some A.value) := by show _ = _; rw [← HK.out]; simp [hgo]
            rw [hgo] at hf1 hf2 hf3 hf4 hf5 hf6 hf7 hf8 hf9 hf0 BN2 hd2
            clear HK HRR hgo
            go_wp2
            go_ret2
            rw [hX.out]
            exact ⟨rfl, BN2.out⟩
      · have hlt' : decide ((k : Int) < (bch.length : Int)) = false := by simp; omega
        have hX : Hid (X = none) := by
          show _ = _
          rw [← HK.out, List.drop_eq_nil_of_le (by omega)]
          simp [valIn]
        go_wp2
        go_ret2
        rw [hX.out]
        exact ⟨rfl, HBc.out.trans (HB.out.mono (by have := HBc.out.size; omega))⟩
end Go.Proofs.YtijmlgdeeodehamGreatDoor
