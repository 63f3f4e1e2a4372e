/- The program's soundSegments. -/
import Derived.Test.YtmmchemgegmhhaaGreatDoorEngI2
import Derived.Test.YtmmchemgegmhhaaGreatDoorSegG
import Derived.Test.YtmmchemgegmhhaaGreatDoorAllKeptI
namespace Go.Proofs.YtmmchemgegmhhaaGreatDoor
open Go.RowKit Go.Shelf

theorem buildG_cap {w : World} {B K n cap : Nat} {ao : Option Addr} {l : List SegD} (h : BuildG w B K (.slice ao n cap) l) (h0 : 0 < l.length) : l.length ≤ cap ∧ ∃ g, ao = some ⟨g, 0, none⟩ := by
  obtain ⟨vs, ps, -, -, h2, -, -⟩ := h
  rcases h2.2 with ⟨_, hn⟩ | ⟨g, cap', cur, hv, hB, hC, hle, _, hs, ht⟩
  · omega
  · cases hv
    exact ⟨by omega, g, rfl⟩
/-- Bytes stand behind a segment ahead of the last. -/
theorem whole_no {fs : List FileD} {k : Nat} (hk : k + 1 < (segsL fs).length) (h : ((segsL fs)[k]'(by omega)).torn = true) : wholeB fs = false := by
  unfold wholeB
  rw [List.all_eq_false]
  refine ⟨(segsL fs)[k]'(by omega), ?_, by rw [h]; simp⟩
  rw [List.mem_iff_getElem?]
  exact ⟨k, by rw [List.getElem?_dropLast, if_pos (by omega), List.getElem?_eq_getElem]⟩
theorem whole_yes {fs : List FileD} (h : ∀ j (hj : j + 1 < (segsL fs).length), ((segsL fs)[j]'(by omega)).torn = false) : wholeB fs = true := by
  unfold wholeB
  rw [List.all_eq_true]
  intro s hs
  rw [List.mem_iff_getElem?] at hs
  obtain ⟨j, hj⟩ := hs
  rw [List.getElem?_dropLast] at hj
  split at hj
  · rename_i hlt
    rw [List.getElem?_eq_getElem (by omega), Option.some.injEq] at hj
    rw [← hj, h j (by omega)]
    rfl
  · cases hj

set_option maxRecDepth 100000 in
set_option maxHeartbeats 3200000 in
theorem soundSegments_any (fs : List FileD) (ao : Option Addr) (cap : Nat) (w : World) (hl : fs.length ≤ 1048576) (hfs : FilesAt w ao fs) (hsz : ∀ F ∈ fs, F.name.size ≤ 1048576 ∧ F.text.size ≤ 1048576) (hT : SumTab w) :
    Calls Tryz.prog 130 #[.agg #[.slice ao fs.length cap]] w fun e w' => Below w.heap.size w w' ∧
      ((soundB fs = true ∧ ∃ v, e = .returned (.tuple #[v, .nilIface]) ∧ BuildG w' w.heap.size w.heap.size v (segsL fs)) ∨ (soundB fs = false ∧ ∃ s, e = .returned (.tuple #[.slice none 0 0, .iface 142 (.agg #[.int .i64 1, .string s])]))) := by
  have HF := hide hfs
  have HS := hide hsz
  have HT := hide hT
  have hll := segsL_len fs
  have HSO := hide (fun W hW hT => segmentsOf_any fs ao cap W hl hW hsz hT)
  have HAK := hide (fun W hW => allKept_any fs ao cap W hl hW hsz)
  have HBL := hide (segsL_bl (fs := fs))
  clear hfs hsz hT
  obtain ⟨wb, hwb⟩ : ∃ wb, wb = w.alloc (.cells #[.slice ao fs.length cap] 27) := ⟨_, rfl⟩
  have HB0 : Hid (Below w.heap.size w wb) := by rw [hwb]; exact (Below.refl _ w).alloc (Nat.le_refl _) _
  have hbs : w.heap.size < wb.heap.size := by rw [hwb]; simp
  have hbc : wb.cell? ⟨w.heap.size, 0, none⟩ = some (.slice ao fs.length cap) := by rw [hwb]; exact (cell_of_row _ _ 0 _ _ (0, 0) (heap_alloc_new w _)).trans rfl
  cases hok : segsOk fs with
  | false =>
    have HE : Hid (soundB fs = false) := by show _ = _; unfold soundB seqsRise; rw [hok]; rfl
    rw [hok] at HSO
    clear hok
    go_enter Tryz.func130, Tryz.ntmps130
    go_wp2_with fail
    rw [← hwb]
    clear hwb
    go_wp2_with fail
    refine (HSO.out _ (filesAt_keep HF.out HB0.out) (sumTab_later HB0.out HT.out)).mono ?_
    rintro e w1 ⟨⟨v1, rfl, g1⟩, b1⟩
    obtain ⟨a1, c1, rfl⟩ := buildG_form g1
    have B1 := hide (HB0.out.trans (b1.mono HB0.out.size))
    clear g1 b1
    go_wp2
    go_ret2
    exact ⟨B1.out, .inr ⟨HE.out, _, rfl⟩⟩
  | true =>
    obtain ⟨R, HR⟩ : ∃ R, Hid (riseI (-1) (seqsOf (segsL fs)) = R) := ⟨_, hide rfl⟩
    have HSR := hide (fun v B K W h => seqsRise_any (segsL fs) v B K W hll HBL.out h)
    rw [HR.out] at HSR
    have HE0 : Hid (soundB fs = (R && (allKeptD fs && wholeB fs))) := by show _ = _; unfold soundB seqsRise; rw [hok, HR.out]; rfl
    rw [hok] at HSO
    have h0 : 0 < (segsL fs).length := by
      have h5 := hok
      unfold segsOk at h5
      simp only [Bool.and_eq_true, decide_eq_true_eq] at h5
      unfold segsL
      rw [if_pos hok]
      exact h5.2.2
    clear hok
    cases hr : R with
    | false =>
      rw [hr] at HSR HE0
      have HE : Hid (soundB fs = false) := HE0
      clear hr HE0
      go_enter Tryz.func130, Tryz.ntmps130
      go_wp2_with fail
      rw [← hwb]
      clear hwb
      go_wp2_with fail
      refine (HSO.out _ (filesAt_keep HF.out HB0.out) (sumTab_later HB0.out HT.out)).mono ?_
      rintro e w1 ⟨⟨v1, rfl, g1⟩, b1⟩
      obtain ⟨a1, c1, rfl⟩ := buildG_form g1
      have B1 := hide (HB0.out.trans (b1.mono HB0.out.size))
      have G1 := hide g1
      clear g1 b1
      go_wp2_with fail
      refine (HSR.out _ _ _ _ G1.out).mono ?_
      rintro e w2 ⟨rfl, b2⟩
      have B2 := hide (B1.out.trans (b2.mono B1.out.size))
      clear b2
      go_wp2
      go_ret2
      exact ⟨B2.out, .inr ⟨HE.out, _, rfl⟩⟩
    | true =>
      rw [hr] at HSR HE0
      clear hr
      go_enter Tryz.func130, Tryz.ntmps130
      go_wp2_with fail
      rw [← hwb]
      clear hwb
      go_wp2_with fail
      refine (HSO.out _ (filesAt_keep HF.out HB0.out) (sumTab_later HB0.out HT.out)).mono ?_
      rintro e w1 ⟨⟨v1, rfl, g1⟩, b1⟩
      obtain ⟨a1, c1, rfl⟩ := buildG_form g1
      have BB1 := hide b1
      have G1 := hide g1
      clear g1 b1
      go_wp2_with fail
      refine (HSR.out _ _ _ _ G1.out).mono ?_
      rintro e w2 ⟨rfl, b2⟩
      have BB2 := hide (BB1.out.trans (b2.mono BB1.out.size))
      have B2 := hide (HB0.out.trans (BB2.out.mono HB0.out.size))
      have G2 := hide (buildG_mono (buildG_below G1.out b2) HB0.out.size HB0.out.size)
      have hc2 : w2.cell? ⟨w.heap.size, 0, none⟩ = some (.slice ao fs.length cap) := (BB2.out.cell (p := ⟨w.heap.size, 0, none⟩) hbs).trans hbc
      clear b2 G1
      cases hak : allKeptD fs with
      | false =>
        rw [hak] at HAK HE0
        have HE : Hid (soundB fs = false) := HE0
        clear hak HE0
        go_wp2_with fail
        refine (HAK.out _ (filesAt_keep HF.out B2.out)).mono ?_
        rintro e w3 ⟨rfl, b3⟩
        have B3 := hide (B2.out.trans (b3.mono B2.out.size))
        clear b3
        go_wp2
        go_ret2
        exact ⟨B3.out, .inr ⟨HE.out, _, rfl⟩⟩
      | true =>
        rw [hak] at HAK HE0
        have HE : Hid (soundB fs = wholeB fs) := HE0
        clear hak HE0
        go_wp2_with fail
        refine (HAK.out _ (filesAt_keep HF.out B2.out)).mono ?_
        rintro e w3 ⟨rfl, b3⟩
        have B3 := hide (B2.out.trans (b3.mono B2.out.size))
        have G3 := hide (buildG_below G2.out b3)
        clear b3 G2
        obtain ⟨hcp, gg, hag⟩ := buildG_cap G3.out h0
        subst hag
        obtain ⟨NL, HNL⟩ : ∃ n, Hid ((segsL fs).length = n) := ⟨_, hide rfl⟩
        have hcN : NL ≤ c1 := by rw [← HNL.out]; exact hcp
        have hN0 : 0 < NL := by rw [← HNL.out]; exact h0
        have hN1 : NL ≤ 100 := by rw [← HNL.out]; exact hll
        have hj0 : (0 : Int) ≤ (NL : Int) - 1 := by omega
        have hj1 : (NL : Int) - 1 ≤ (c1 : Int) := by omega
        have hjn : ((NL : Int) - 1).toNat = NL - 1 := by omega
        have hjw : IntKind.i64.wrap ((NL : Int) - 1) = (NL : Int) - 1 := by rw [IntKind.wrap_i64]; omega
        rw [HNL.out]
        clear hcp
        go_wp2_with fail
        go_loopw [33] (fun ii wr => ∃ (k : Nat), ii = .int .i64 k ∧ k ≤ NL - 1 ∧ Hid (∀ j (hj : j < (segsL fs).length), j < k → ((segsL fs)[j]'hj).torn = false) ∧ Hid (Below w3.heap.size w3 wr)) (fun ii _ => NL - 1 - (intOf ii).toNat)
        case atStart => exact ⟨0, rfl, Nat.zero_le _, fun j hj h => absurd h (by omega), Below.refl _ _⟩
        case round =>
          obtain ⟨k, rfl, hk, HK, HB⟩ := hrel
          by_cases hlt : k < NL - 1
          · have hlt' : decide ((k : Int) < ((NL - 1 : Nat) : Int)) = true := by rw [decide_eq_true_eq]; omega
            have hi0 : (0 : Int) ≤ (k : Int) := by omega
            have hi1 : (k : Int) < ((NL - 1 : Nat) : Int) := by omega
            have hkl : k < (segsL fs).length := by rw [HNL.out]; omega
            obtain ⟨g, hg, hgw, hc0, hc1, ⟨a, c, hc2, -⟩, ⟨a', c', hc3, -⟩, hc4, hc5, hc6⟩ := buildG_at (buildG_below G3.out HB.out) k hkl
            cases hg
            obtain ⟨F, HFk⟩ : ∃ F, Hid ((segsL fs)[k] = F) := ⟨_, hide rfl⟩
            rw [HFk.out] at hc0 hc1 hc2 hc3 hc4 hc5 hc6
            cases ht : F.torn with
            | true =>
              rw [ht] at hc6
              have HW : Hid (soundB fs = false) := by show _ = _; rw [HE.out]; exact whole_no (k := k) (by rw [HNL.out]; omega) (by rw [HFk.out]; exact ht)
              have hx6 : (wr.alloc (.cells #[.int .i64 (F.num : Int), .int .i64 (F.frm : Int), .slice a F.bs.length c, .slice a' F.pls.length c', .int .i64 (F.fin : Int), .bool F.right, .bool true] 161)).cell? ⟨wr.heap.size, 6, none⟩ = some (.bool true) := (cell_of_row _ _ 6 _ _ (0, 0) (heap_alloc_new wr _)).trans rfl
              clear ht
              go_wp2
              go_ret2
              exact ⟨B3.out.trans ((HB.out.alloc HB.out.size _).mono B3.out.size), .inr ⟨HW.out, _, rfl⟩⟩
            | false =>
              rw [ht] at hc6
              have HK1 : Hid (∀ j (hj : j < (segsL fs).length), j < k + 1 → ((segsL fs)[j]'hj).torn = false) := by
                intro j hj hjk
                by_cases hje : j < k
                · exact HK.out j hj hje
                · obtain rfl : j = k := by omega
                  rw [HFk.out]
                  exact ht
              have hx6 : (wr.alloc (.cells #[.int .i64 (F.num : Int), .int .i64 (F.frm : Int), .slice a F.bs.length c, .slice a' F.pls.length c', .int .i64 (F.fin : Int), .bool F.right, .bool false] 161)).cell? ⟨wr.heap.size, 6, none⟩ = some (.bool false) := (cell_of_row _ _ 6 _ _ (0, 0) (heap_alloc_new wr _)).trans rfl
              clear ht
              go_wp2
              go_roundw
              case rel => exact ⟨k + 1, by go_num, by omega, HK1, HB.out.alloc HB.out.size _⟩
              case measure => simp [intOf]; omega
          · have hlt' : decide ((k : Int) < ((NL - 1 : Nat) : Int)) = false := by rw [decide_eq_false_iff_not]; omega
            have HW : Hid (soundB fs = true) := by show _ = _; rw [HE.out]; exact whole_yes (fun j hj => HK.out j (by omega) (by rw [HNL.out] at hj; omega))
            have HGF := hide (buildG_below G3.out HB.out)
            rw [HNL.out] at HGF
            go_wp2
            go_ret2
            exact ⟨B3.out.trans (HB.out.mono B3.out.size), .inl ⟨HW.out, _, rfl, HGF.out⟩⟩
end Go.Proofs.YtmmchemgegmhhaaGreatDoor
