/- The specification's ValueOf. -/
import Derived.Test.YtjfagmjajpnacalDoorSegN
import Derived.Test.YtjfagmjajpnacalDoorSegI2
import Derived.Test.YtjfagmjajpnacalDoorFiles
import Derived.Test.YtjfagmjajpnacalDoorSpotL
namespace Go.Proofs.YtjfagmjajpnacalDoor
open Go.RowKit

theorem specFileAt_none' (fs : List FileD) (ao : Option Addr) (cap : Nat) (nm : ByteArray) (w : World) (hl : fs.length ≤ 1048576) (hfs : FilesAt w ao fs) (h : fileD fs nm = none) :
    Calls Tryd.prog 63 #[.agg #[.slice ao fs.length cap], .string nm] w fun e w' => e = .returned (.tuple #[.string ⟨#[]⟩, .bool false]) ∧ Below w.heap.size w w' := by
  refine (specFileAt_any fs ao cap nm w hl hfs).mono ?_
  rintro e w' ⟨⟨-, rfl⟩ | ⟨F, hF, -⟩, hb⟩
  · exact ⟨rfl, hb⟩
  · rw [h] at hF; cases hF
theorem specFileAt_some' (fs : List FileD) (ao : Option Addr) (cap : Nat) (nm : ByteArray) (w : World) (F : FileD) (hl : fs.length ≤ 1048576) (hfs : FilesAt w ao fs) (h : fileD fs nm = some F) :
    Calls Tryd.prog 63 #[.agg #[.slice ao fs.length cap], .string nm] w fun e w' => e = .returned (.tuple #[.string F.text, .bool true]) ∧ Below w.heap.size w w' := by
  refine (specFileAt_any fs ao cap nm w hl hfs).mono ?_
  rintro e w' ⟨⟨hn, -⟩ | ⟨G, hG, -, rfl⟩, hb⟩
  · rw [h] at hn; cases hn
  · rw [h] at hG; cases hG; exact ⟨rfl, hb⟩

/-- The record whose frame begins at a place of a segment. -/
def recAt (fs : List FileD) (seg pos : Int) : Option ByteArray :=
  match fileD fs (segNm seg) with
  | none => none
  | some F => if 0 ≤ pos ∧ pos ≤ F.text.size then
      match unf (F.text.extract pos.toNat F.text.size) with
      | [] => none
      | x :: _ => some ((F.text.extract pos.toNat F.text.size).extract x.1 x.2)
    else none
/-- The batch of it. -/
def batSeq (o : Option ByteArray) : Int := (o.map rdSeq).getD 0
def batOk (o : Option ByteArray) : Bool := (o.map rdOk).getD false
def batChs (o : Option ByteArray) : List ChangeD := (o.map rdChanges).getD []

theorem recAt_none {fs : List FileD} {seg pos : Int} (h : fileD fs (segNm seg) = none) : recAt fs seg pos = none := by unfold recAt; rw [h]
theorem recAt_out {fs : List FileD} {seg pos : Int} {F : FileD} (h : fileD fs (segNm seg) = some F) (hp : ¬ (0 ≤ pos ∧ pos ≤ F.text.size)) : recAt fs seg pos = none := by
  unfold recAt; rw [h]; simp only []; rw [if_neg hp]
theorem recAt_nil {fs : List FileD} {seg : Int} {p : Nat} {F : FileD} {T : ByteArray} (h : fileD fs (segNm seg) = some F) (hp : p ≤ F.text.size) (hT : F.text.extract p F.text.size = T) (hu : unf T = []) : recAt fs seg (p : Int) = none := by
  unfold recAt; rw [h]; simp only []; rw [if_pos ⟨by omega, by omega⟩, Int.toNat_natCast, hT, hu]
theorem recAt_some {fs : List FileD} {seg : Int} {p : Nat} {F : FileD} {T : ByteArray} {x : Nat × Nat} {r : List (Nat × Nat)} (h : fileD fs (segNm seg) = some F) (hp : p ≤ F.text.size) (hT : F.text.extract p F.text.size = T) (hu : unf T = x :: r) : recAt fs seg (p : Int) = some (T.extract x.1 x.2) := by
  unfold recAt; rw [h]; simp only []; rw [if_pos ⟨by omega, by omega⟩, Int.toNat_natCast, hT, hu]

/-- The cells of a row that lies below. -/
theorem two_cells {wb W : World} {g : Nat} {x y : Value} {t : Nat} (h : wb.heap[g]? = some (.cells #[x, y] t (0, 0))) (hb : Below wb.heap.size wb W) :
    W.heap[g]? = some (.cells #[x, y] t (0, 0)) := (hb.block g (heap_lt h)).trans h

set_option maxRecDepth 100000 in
set_option maxHeartbeats 1600000 in
theorem l07Batch_any (fs : List FileD) (ao : Option Addr) (cap : Nat) (seg pos : Int) (w : World) (hl : fs.length ≤ 1048576) (hfs : FilesAt w ao fs) (hsz : ∀ F ∈ fs, F.name.size ≤ 1048576 ∧ F.text.size ≤ 1048576) :
    Calls Tryd.prog 37 #[.agg #[.slice ao fs.length cap], .int .i64 seg, .int .i64 pos] w fun e w' => (∃ v, e = .returned (.tuple #[.agg #[.int .i64 (batSeq (recAt fs seg pos)), v], .bool (batOk (recAt fs seg pos))]) ∧ RowChange w' w.heap.size v (batChs (recAt fs seg pos))) ∧ Below w.heap.size w w' := by
  have HF := hide hfs
  have HS := hide hsz
  clear hfs hsz
  obtain ⟨wb, hwb⟩ : ∃ wb, wb = (w.alloc (.cells #[.slice ao fs.length cap] 31)).alloc (.cells #[.int .i64 0, .slice none 0 0] 73) := ⟨_, rfl⟩
  have HB0 : Hid (Below w.heap.size w wb) := by rw [hwb]; exact ((Below.refl _ w).alloc (Nat.le_refl _) _).alloc (by simp) _
  have hbs2 : w.heap.size + 2 ≤ wb.heap.size := by rw [hwb]; simp
  have hbs : w.heap.size < wb.heap.size := by omega
  have hc0 : wb.cell? ⟨w.heap.size, 0, none⟩ = some (.slice ao fs.length cap) := by
    have h1 : (w.alloc (.cells #[.slice ao fs.length cap] 31)).cell? ⟨w.heap.size, 0, none⟩ = some (.slice ao fs.length cap) := (cell_of_row _ _ 0 _ _ (0, 0) (heap_alloc_new w _)).trans rfl
    rw [hwb]
    exact ((((Below.refl _ (w.alloc (.cells #[.slice ao fs.length cap] 31))).alloc (Nat.le_refl _) (.cells #[.int .i64 0, .slice none 0 0] 73)).cell (p := ⟨w.heap.size, 0, none⟩) (by simp))).trans h1
  have HR0 : Hid (wb.heap[w.heap.size + 1]? = some (.cells #[.int .i64 0, .slice none 0 0] 73 (0, 0))) := by
    show _ = _
    rw [hwb, show w.heap.size + 1 = (w.alloc (.cells #[.slice ao fs.length cap] 31)).heap.size from by simp]
    exact heap_alloc_new _ _
  obtain ⟨NM, HNM⟩ : ∃ NM, Hid (segNm seg = NM) := ⟨_, rfl⟩
  have HN : Hid (∀ W : World, Calls Tryd.prog 30 #[.int .i64 seg] W fun e w' => e = .returned (.string NM) ∧ Below W.heap.size W w') := fun W => by rw [← HNM.out]; exact specSegName_any seg W
  cases hfd : fileD fs (segNm seg) with
  | none =>
    have HE := hide (recAt_none (pos := pos) hfd)
    have HAT : Hid (∀ W, Below wb.heap.size wb W → Calls Tryd.prog 63 #[.agg #[.slice ao fs.length cap], .string NM] W fun e w' => e = .returned (.tuple #[.string ⟨#[]⟩, .bool false]) ∧ Below W.heap.size W w') := fun W hW => specFileAt_none' fs ao cap NM W hl (filesAt_keep (filesAt_keep HF.out HB0.out) hW) (by rw [← HNM.out]; exact hfd)
    clear hfd
    go_enter Tryd.func37, Tryd.ntmps37
    go_wp2_with fail
    rw [← hwb]
    clear hwb
    go_region_held3 (fun w' => w'.cell? ⟨w.heap.size, 0, none⟩ = some (.slice ao fs.length cap)) (first | go_keep | (exact hc0) | (exact (b1.cell (p := ⟨w.heap.size, 0, none⟩) hbs).trans hc0) | (exact ((b1.trans (b2.mono b1.size)).cell (p := ⟨w.heap.size, 0, none⟩) hbs).trans hc0)) ((first | (go_at_call 30; refine (HN.out _).mono ?_; rintro e w1 ⟨rfl, b1⟩) | (go_at_call 63; refine (HAT.out _ (by first | exact b1 | exact (Below.refl _ _).drew.trans b1)).mono ?_; rintro e w2 ⟨rfl, b2⟩)))
    have B2 : Hid (Below wb.heap.size wb w2) := (Below.refl _ _).drew.trans (b1.trans (b2.mono b1.size))
    clear b1 b2
    have B3 := hide (HB0.out.trans (B2.out.mono HB0.out.size))
    have hr0 : w2.cell? ⟨w.heap.size + 1, 0, none⟩ = some (.int .i64 0) := (cell_of_row w2 _ 0 _ _ (0, 0) (two_cells HR0.out B2.out)).trans rfl
    have hr1 : w2.cell? ⟨w.heap.size + 1, 1, none⟩ = some (.slice none 0 0) := (cell_of_row w2 _ 1 _ _ (0, 0) (two_cells HR0.out B2.out)).trans rfl
    have hrf0 := frozen_of_row w2 (w.heap.size + 1) 0 _ _ (two_cells HR0.out B2.out)
    have hrf1 := frozen_of_row w2 (w.heap.size + 1) 1 _ _ (two_cells HR0.out B2.out)
    go_wp2_with fail
    refine bodyPost_ret (v := .tuple #[.agg #[.int .i64 0, .slice none 0 0], .bool false]) (by simp [results, Tryd.results37, go_sem, hr0, hr1]) rfl ⟨⟨.slice none 0 0, by rw [HE.out]; rfl, by rw [HE.out]; exact .inl ⟨rfl, rfl⟩⟩, ?_⟩
    exact (B3.out.setCell (p := ⟨w.heap.size + 1, 0, none⟩) (by simp) _).setCell (p := ⟨w.heap.size + 1, 1, none⟩) (by simp) _
  | some F =>
    have hFs := (HS.out F (List.mem_of_find?_eq_some hfd)).2
    have HAT : Hid (∀ W, Below wb.heap.size wb W → Calls Tryd.prog 63 #[.agg #[.slice ao fs.length cap], .string NM] W fun e w' => e = .returned (.tuple #[.string F.text, .bool true]) ∧ Below W.heap.size W w') := fun W hW => specFileAt_some' fs ao cap NM W F hl (filesAt_keep (filesAt_keep HF.out HB0.out) hW) (by rw [← HNM.out]; exact hfd)
    have HFD := hide hfd
    clear hfd
    go_enter Tryd.func37, Tryd.ntmps37
    go_wp2_with fail
    rw [← hwb]
    clear hwb
    go_region_held3 (fun w' => w'.cell? ⟨w.heap.size, 0, none⟩ = some (.slice ao fs.length cap)) (first | go_keep | (exact hc0) | (exact (b1.cell (p := ⟨w.heap.size, 0, none⟩) hbs).trans hc0) | (exact ((b1.trans (b2.mono b1.size)).cell (p := ⟨w.heap.size, 0, none⟩) hbs).trans hc0)) ((first | (go_at_call 30; refine (HN.out _).mono ?_; rintro e w1 ⟨rfl, b1⟩) | (go_at_call 63; refine (HAT.out _ (by first | exact b1 | exact (Below.refl _ _).drew.trans b1)).mono ?_; rintro e w2 ⟨rfl, b2⟩)))
    have B2 : Hid (Below wb.heap.size wb w2) := (Below.refl _ _).drew.trans (b1.trans (b2.mono b1.size))
    clear b1 b2
    have B3 := hide (HB0.out.trans (B2.out.mono HB0.out.size))
    have HR2 := hide (two_cells HR0.out B2.out)
    by_cases hp : 0 ≤ pos ∧ pos ≤ F.text.size
    · obtain ⟨p, rfl⟩ := Int.eq_ofNat_of_zero_le hp.1
      have hp2 : p ≤ F.text.size := by omega
      obtain ⟨T, hTT⟩ : ∃ T, F.text.extract p F.text.size = T := ⟨_, rfl⟩
      have hTz : T.size ≤ 1048576 := by rw [← hTT, ByteArray.size_extract]; omega
      have hcut := cut_from F.text p (p : Int) T rfl hp2 hTT
      have HTT := hide hTT
      clear hTT
      have HU := hide (fun W => specUnframe_any T W hTz)
      obtain ⟨U, HUU⟩ : ∃ U, Hid (unf T = U) := ⟨_, rfl⟩
      have HCH : Hid (chained T 0 U) := by show chained _ _ _; rw [← HUU.out]; exact unf_chained T
      obtain ⟨L, HL⟩ : ∃ L, Hid (recs T U = L) := ⟨_, rfl⟩
      have hUl : U.length ≤ 20001 := by rw [← HUU.out]; exact unf_len T
      have hLl : L.length = U.length := by rw [← HL.out, recs_len]
      obtain ⟨eo, HEO⟩ : ∃ eo : Int, Hid (((endOf U : Nat) : Int) = eo) := ⟨_, rfl⟩
      have HUN : Hid (∀ W, Calls Tryd.prog 52 #[.string T] W fun e w' => ∃ v, e = .returned (.tuple #[v, .int .i64 eo]) ∧ w'.ownsRow W.heap.size 9 1 v L.length (L.map sv) ∧ Below W.heap.size W w') := by
        intro W
        have h := HU.out W
        unfold FramesLeft at h
        rw [HUU.out, HL.out, HEO.out] at h
        exact h
      clear HU HEO
      go_wp2_with fail
      refine (l01In_yes _ _ _ _ (by omega) (by omega)).mono ?_
      rintro e w3 ⟨rfl, rfl⟩
      go_wp2_with fail
      refine (HUN.out _).mono ?_
      rintro e w4 ⟨lv, rfl, hown, b4⟩
      have B4 := hide (B2.out.trans (b4.mono B2.out.size))
      have B5 := hide (HB0.out.trans (B4.out.mono HB0.out.size))
      have HO := hide hown
      clear hown b4 HR2
      cases U with
      | nil =>
        have HE := hide (recAt_nil (p := p) HFD.out hp2 HTT.out HUU.out)
        obtain rfl : L = [] := List.eq_nil_of_length_eq_zero hLl
        obtain ⟨a, c, rfl⟩ := slice_form HO.out
        have hr0 : w4.cell? ⟨w.heap.size + 1, 0, none⟩ = some (.int .i64 0) := (cell_of_row w4 _ 0 _ _ (0, 0) (two_cells HR0.out B4.out)).trans rfl
        have hr1 : w4.cell? ⟨w.heap.size + 1, 1, none⟩ = some (.slice none 0 0) := (cell_of_row w4 _ 1 _ _ (0, 0) (two_cells HR0.out B4.out)).trans rfl
        have hrf0 := frozen_of_row w4 (w.heap.size + 1) 0 _ _ (two_cells HR0.out B4.out)
        have hrf1 := frozen_of_row w4 (w.heap.size + 1) 1 _ _ (two_cells HR0.out B4.out)
        go_wp2_with fail
        refine bodyPost_ret (v := .tuple #[.agg #[.int .i64 0, .slice none 0 0], .bool false]) (by simp [results, Tryd.results37, go_sem, hr0, hr1]) rfl ⟨⟨.slice none 0 0, by rw [HE.out]; rfl, by rw [HE.out]; exact .inl ⟨rfl, rfl⟩⟩, ?_⟩
        exact (B5.out.setCell (p := ⟨w.heap.size + 1, 0, none⟩) (by simp) _).setCell (p := ⟨w.heap.size + 1, 1, none⟩) (by simp) _
      | cons x0 r =>
        have HE := hide (recAt_some (p := p) HFD.out hp2 HTT.out HUU.out)
        have hx0 := chained_get HCH.out x0 (List.mem_cons_self ..)
        obtain ⟨T0, HT0⟩ : ∃ T0, Hid (T.extract x0.1 x0.2 = T0) := ⟨_, rfl⟩
        rw [HT0.out] at hx0 HE
        have hg0 : L[0]? = some T0.data.toList := by rw [← HL.out, recs_get T (x0 :: r) 0 x0 rfl, HT0.out]
        have hL1 : 1 ≤ L.length := by rw [hLl]; simp
        have hz : ((L.length : Int) == 0) = false := by rw [beq_eq_false_iff_ne]; omega
        obtain ⟨g, cap, hlv⟩ : ∃ g cap, lv = .slice (some ⟨g, 0, none⟩) L.length cap := by
          rcases HO.out.2 with ⟨-, h⟩ | ⟨g, cap, cur, h, _⟩
          · omega
          · exact ⟨g, cap, h⟩
        subst hlv
        have hcell := str_cell HO.out 0 (by omega) _ hg0
        rw [data_back] at hcell
        clear hg0
        have HRB := hide (fun W => specReadBatch_any T0 W (by omega))
        obtain ⟨q, HQ⟩ : ∃ q, Hid (rdSeq T0 = q) := ⟨_, rfl⟩
        obtain ⟨ok, HOK⟩ : ∃ q, Hid (rdOk T0 = q) := ⟨_, rfl⟩
        obtain ⟨cs, HCS⟩ : ∃ q, Hid (rdChanges T0 = q) := ⟨_, rfl⟩
        rw [HQ.out, HOK.out, HCS.out] at HRB
        go_wp2_with fail
        refine (HRB.out _).mono ?_
        rintro e w6 ⟨⟨v6, rfl, r6⟩, b6⟩
        have B6 := hide (B4.out.trans (b6.mono B4.out.size))
        have B7 := hide (HB0.out.trans (B6.out.mono HB0.out.size))
        have h4 : wb.heap.size ≤ w4.heap.size := B4.out.size
        have R6 := hide r6
        clear r6 b6 hcell
        have hr0 : w6.cell? ⟨w.heap.size + 1, 0, none⟩ = some (.int .i64 0) := (cell_of_row w6 _ 0 _ _ (0, 0) (two_cells HR0.out B6.out)).trans rfl
        have hr1 : w6.cell? ⟨w.heap.size + 1, 1, none⟩ = some (.slice none 0 0) := (cell_of_row w6 _ 1 _ _ (0, 0) (two_cells HR0.out B6.out)).trans rfl
        have hrf0 := frozen_of_row w6 (w.heap.size + 1) 0 _ _ (two_cells HR0.out B6.out)
        have hrf1 := frozen_of_row w6 (w.heap.size + 1) 1 _ _ (two_cells HR0.out B6.out)
        obtain ⟨a6, c6, rfl, -⟩ := rowChange_at R6.out
        go_wp2_with fail
        refine bodyPost_ret (v := .tuple #[.agg #[.int .i64 q, .slice a6 cs.length c6], .bool ok]) (by simp [results, Tryd.results37, go_sem, hr0, hr1]) rfl ⟨⟨.slice a6 cs.length c6, by rw [HE.out]; show _ = Ending.returned (.tuple #[.agg #[.int .i64 (rdSeq T0), _], .bool (rdOk T0)]); rw [HQ.out, HOK.out], ?_⟩, ?_⟩
        · rw [HE.out]
          show RowChange _ _ _ (rdChanges T0)
          rw [HCS.out]
          exact rowChange_le (rowChange_grown R6.out (grownBy_store (grownBy_store (World.grownBy.refl _ _) 0 _) 1 _) (fun g hg => by have := (rowChange_lt R6.out g hg).1; simp; omega)) (by omega)
        · exact (B7.out.setCell (p := ⟨w.heap.size + 1, 0, none⟩) (by simp) _).setCell (p := ⟨w.heap.size + 1, 1, none⟩) (by simp) _
    · have HE := hide (recAt_out HFD.out hp)
      have hpo : pos < 0 ∨ (F.text.size : Int) < pos := by omega
      clear hp
      go_wp2_with fail
      refine (l01In_no _ _ _ _ hpo).mono ?_
      rintro e w3 ⟨rfl, rfl⟩
      have hr0 : w3.cell? ⟨w.heap.size + 1, 0, none⟩ = some (.int .i64 0) := (cell_of_row w3 _ 0 _ _ (0, 0) HR2.out).trans rfl
      have hr1 : w3.cell? ⟨w.heap.size + 1, 1, none⟩ = some (.slice none 0 0) := (cell_of_row w3 _ 1 _ _ (0, 0) HR2.out).trans rfl
      have hrf0 := frozen_of_row w3 (w.heap.size + 1) 0 _ _ HR2.out
      have hrf1 := frozen_of_row w3 (w.heap.size + 1) 1 _ _ HR2.out
      go_wp2_with fail
      refine bodyPost_ret (v := .tuple #[.agg #[.int .i64 0, .slice none 0 0], .bool false]) (by simp [results, Tryd.results37, go_sem, hr0, hr1]) rfl ⟨⟨.slice none 0 0, by rw [HE.out]; rfl, by rw [HE.out]; exact .inl ⟨rfl, rfl⟩⟩, ?_⟩
      exact (B3.out.setCell (p := ⟨w.heap.size + 1, 0, none⟩) (by simp) _).setCell (p := ⟨w.heap.size + 1, 1, none⟩) (by simp) _
end Go.Proofs.YtjfagmjajpnacalDoor
