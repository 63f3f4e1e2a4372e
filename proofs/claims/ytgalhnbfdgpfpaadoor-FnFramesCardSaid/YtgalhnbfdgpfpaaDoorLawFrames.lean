/- The law on frames: records come back from their frames; of frames cut anywhere just the whole ones do. -/
import Derived.Test.YtgalhnbfdgpfpaaDoorFramesR
import Derived.WalkSmall
namespace Go.Proofs.YtgalhnbfdgpfpaaDoor
open Go.RowKit

set_option maxRecDepth 100000 in
set_option maxHeartbeats 4000000 in
theorem frames_walk (w : World) (ao : Option Addr) (len cap : Nat) (hcode : len ≤ 1048576 → Code w ao len) (hT : SumTab w) :
    Calls Tryd.prog 5 #[.slice ao len cap] w fun e w' => e = .returned (.bool true) ∧ Below w.heap.size w w' := by
  have HT := hide hT
  by_cases hlen : len ≤ 1048576
  · have hbig : decide (1048576 < (len : Int)) = false := by simp; omega
    have HC := hide (hcode hlen)
    have hgl := sumTab_lt hT
    clear hT hcode
    go_enter Tryd.func5, Tryd.ntmps5
    go_wp2_with fail
    refine (big_any _ ao len cap).mono ?_
    rintro e w0 ⟨rfl, rfl⟩
    go_wp2_with fail
    refine (drawPlaces_any _ ao len cap hlen HC.out).mono ?_
    rintro e w1 ⟨vp, zs, rfl, hzl, hzs, hownp, b1⟩
    obtain ⟨gp, capp, rfl⟩ : ∃ gp capp, vp = .slice (some ⟨gp, 0, none⟩) 12 capp := by
      rcases hownp.2 with ⟨h, h'⟩ | ⟨g, c, cur, rfl, _⟩
      · cases h'
      · exact ⟨g, c, rfl⟩
    obtain ⟨z0, hz0, hz0b⟩ : ∃ z : Nat, Hid (w1.cell? ⟨gp, 0, none⟩ = some (.int .i64 (z : Int))) ∧ z < 10000 := by
      have hl : 0 < zs.length := by rw [hzl]; decide
      exact ⟨zs[0], (hownp.cellAt 0 (by decide)).trans (by simp [hl, iv]), hzs _ (List.getElem_mem hl)⟩
    have hgp : gp < w1.heap.size := (hownp.lt gp rfl).2
    have B1 := hide b1
    have s1 := b1.size
    clear b1 hownp hzl hzs
    go_wp2_with fail
    refine (drawHex_text _ ao len cap hlen (code_keep HC.out B1.out)).mono ?_
    rintro e w2 ⟨T, rfl, hTz, b2⟩
    have B2 := hide (B1.out.trans (b2.mono B1.out.size))
    have hz2 : Hid (w2.cell? ⟨gp, 0, none⟩ = some (.int .i64 (z0 : Int))) := (b2.cell (p := ⟨gp, 0, none⟩) hgp).trans hz0.out
    have s2 := b2.size
    clear b2 hz0 B1
    by_cases hin : 1 ≤ T.size ∧ T.size ≤ 900
    · have hd1 : ((T.size : Int) == 0) = false := by rw [beq_eq_false_iff_ne]; omega
      have hd2 : decide (900 < (T.size : Int)) = false := by simp; omega
      obtain ⟨o1, o2⟩ := hin
      go_wp2
      have HR4 := hide (recs3_row (w := w2) T)
      obtain ⟨W4, hW4⟩ : ∃ W4, w2.alloc (.cells #[.string T, .string ⟨#[116, 119, 111]⟩, .string ⟨#[116, 104, 114, 101, 101, 32, 97, 110, 100, 32, 109, 111, 114, 101]⟩] 9) = W4 := ⟨_, rfl⟩
      have hs4 : W4.heap.size = w2.heap.size + 1 := by rw [← hW4]; simp
      have B4 : Hid (Below w2.heap.size w2 W4) := by rw [← hW4]; exact (Below.refl _ _).alloc (Nat.le_refl _) _
      rw [hW4] at HR4 ⊢
      clear hW4 hd1 hd2 hTz
      obtain ⟨hok, hfz⟩ := recs3_ok T o1 o2
      have hts3 : (recs3 T).length = 3 := rfl
      generalize recs3 T = TS at HR4 hok hfz hts3
      have HOK := hide hok
      have hmono := hide (framesL_mono TS)
      have hz4 : Hid (W4.cell? ⟨gp, 0, none⟩ = some (.int .i64 (z0 : Int))) := (B4.out.cell (p := ⟨gp, 0, none⟩) (by show gp < w2.heap.size; omega)).trans hz2.out
      have B04 := hide (B2.out.trans (B4.out.mono B2.out.size))
      have T4 := hide (sumTab_later B04.out HT.out)
      have hg4 : 0 < W4.heap.size := sumTab_lt T4.out
      have hwh := hide (unf_whole TS hok hfz)
      have s4w := B04.out.size
      clear hok B4 hz2
      go_loopw [5, 6, 7] (fun fl en ii wr => ∃ k : Nat, k ≤ 3 ∧ ii = .int .i64 k ∧ fl = .string (file (framesL (TS.take k))) ∧ wr.ownsRow W4.heap.size 3 1 en (endsL TS k).length ((endsL TS k).map iv) ∧ Below W4.heap.size W4 wr) (fun _ _ ii _ => 3 - (intOf ii).toNat)
      case atStart =>
        refine ⟨0, by omega, rfl, rfl, ?_, (Below.refl _ _).alloc (Nat.le_refl _) _⟩
        have := World.ownsRow_lit (e := 3) (size := 1) W4 #[.int .i64 0] 1 (Nat.le_refl _) (by decide) rfl
        rw [hs4] at this ⊢
        exact this
      case round =>
        obtain ⟨k, hk, rfl, rfl, hown, hb⟩ := hrel
        have hbs := hb.size
        have hA : (file (framesL (TS.take k))).size ≤ 20000 := Nat.le_trans (hmono.out k) hfz
        by_cases hlt : k < 3
        · obtain ⟨t, ht⟩ : ∃ t, TS[k]? = some t := ⟨_, List.getElem?_eq_getElem (by omega)⟩
          have htok := HOK.out t (List.mem_of_getElem? ht)
          have hcell : wr.cell? ⟨w2.heap.size, k, none⟩ = some (.string (file t)) := (hb.cell (p := ⟨w2.heap.size, k, none⟩) (by show w2.heap.size < W4.heap.size; omega)).trans (text_cell HR4.out k hlt t ht)
          have hcat := file_cat TS k t ht
          have hE := hide (endsL_succ TS k)
          have hEl := endsL_len TS k
          have hX : (frameB (file t)).size ≤ 20000 := by
            have := hmono.out (k + 1)
            have e := congrArg ByteArray.size hcat
            rw [ByteArray.size_append] at e
            have : (file (framesL (TS.take (k + 1)))).size ≤ 20000 := Nat.le_trans this hfz
            omega
          have hF := hide (fun W hT => frame_yes (file t) W htok.1 htok.2 hT)
          have hA' : (file (framesL (TS.take (k + 1)))).size = (framesL (TS.take (k + 1))).length := rfl
          generalize file (framesL (TS.take k)) = A at hcat hA ⊢
          generalize frameB (file t) = X at hcat hX hF
          obtain ⟨A2, hA2⟩ : ∃ A2, file (framesL (TS.take (k + 1))) = A2 := ⟨_, rfl⟩
          rw [hA2] at hcat hA'
          have HA2 := hide hA2
          have HA' := hide hA'
          clear hA2 hA'
          have hi0 : (0 : Int) ≤ (k : Int) := by omega
          have hi1 : (k : Int) < 3 := by omega
          have HO := hide hown
          have HB := hide hb
          have HTr := hide (sumTab_below hb hg4 T4.out)
          have hEl2 : (endsL TS k).length ≤ 1000000 := by omega
          clear ht htok hown hb hEl
          go_wp2_with (first | (go_at_call 23; refine (hF.out _ HTr.out).mono ?_; rintro e w5 ⟨rfl, b5⟩) | (at_builtin; refine app_int _ W4 W4.heap.size rfl _ _ rfl _ (endsL TS k) rfl (ownsRow_below HO.out b5) rfl hEl2 (HB.out.trans (b5.mono hbs)) (Nat.le_trans hbs b5.size) ?_; intro v' w6 hown6 hb6 hs6))
          go_roundw
          case rel =>
            refine ⟨k + 1, by omega, by go_num, by rw [HA2.out], ?_, hb6⟩
            rw [hE.out, ← HA'.out]
            exact hown6
          case measure => simp [intOf]; omega
        · obtain rfl : k = 3 := by omega
          rw [show TS.take 3 = TS by rw [← hts3, List.take_length]] at hA ⊢
          obtain ⟨ge, cape, rfl⟩ : ∃ ge cape, u6 = .slice (some ⟨ge, 0, none⟩) 4 cape := by
            rcases hown.2 with ⟨h, h'⟩ | ⟨g, c, cur, rfl, _⟩
            · simp [endsL] at h'
            · exact ⟨g, c, by rw [endsL_len]⟩
          rw [endsL_len] at hown
          obtain ⟨hwr, hwe⟩ := hwh.out
          have hwe' : endOf (unf (file (framesL TS))) = (file (framesL TS)).size := hwe
          have HU := hide (fun W hT => unframe_in (file (framesL TS)) W hA hT)
          unfold FramesLeft at HU
          rw [hwr, hwe'] at HU
          obtain ⟨kk, hkk, hrem⟩ : ∃ kk : Nat, kk ≤ (framesL TS).length ∧ (z0 : Int) % (((file (framesL TS)).size : Int) + 1) = (kk : Int) := ⟨z0 % ((framesL TS).length + 1), by have := Nat.mod_lt z0 (show 0 < (framesL TS).length + 1 by omega); omega, rem_nat _ _⟩
          obtain ⟨m, hm, hc1, hc2, hc3, hc4⟩ := unf_cut TS kk HOK.out hkk hfz
          have hKz : (file ((framesL TS).take kk)).size ≤ 20000 := by rw [file_size, List.length_take]; omega
          have HK := hide (fun W hT => unframe_in (file ((framesL TS).take kk)) W hKz hT)
          unfold FramesLeft at HK
          rw [hc1, hc2] at HK
          have hcut := cut_to (file (framesL TS)) kk (kk : Int) (file ((framesL TS).take kk)) rfl hkk (by rw [file_extract]; simp)
          have hml : (TS.take m).length = m := by rw [List.length_take]; omega
          have hkA : kk ≤ (file (framesL TS)).size := hkk
          generalize file ((framesL TS).take kk) = K at hcut HK hKz
          generalize file (framesL TS) = A at hcut hA hkA hrem HU ⊢
          have hne0 : ¬ ((A.size : Int) + 1) = 0 := by omega
          have hHml := hide hml
          clear hc1 hc2 hwe' hkk hml hfz hKz
          have HO := hide hown
          have HB := hide hb
          have HTr := hide (sumTab_below hb hg4 T4.out)
          have HRr := hide (ownsRow_below HR4.out hb)
          clear hown hb hwr hwe hwh
          go_wp2_with fail
          refine (HU.out _ HTr.out).mono ?_
          rintro e w7 ⟨vb, rfl, rb, b7⟩
          have B7 := hide b7
          have RB := hide rb
          have HR7 := hide (ownsRow_below HRr.out b7)
          have HO7 := hide (ownsRow_below HO.out b7)
          have s7 := b7.size
          have B47 := hide (HB.out.trans (b7.mono hbs))
          clear b7 rb HRr HO HU
          rw [hts3] at RB
          go_wp2_with fail
          refine (same_texts vb _ TS _ _ _ (by omega) (by rw [hts3]; exact RB.out) (by rw [hts3]; exact HR7.out)).mono ?_
          rintro e w8 ⟨rfl, q, hw8⟩
          have B8 : Hid (Below w7.heap.size w7 w8) := by rw [hw8]; exact drewN_below w7 q
          have HR8 := hide (ownsRow_below HR7.out B8.out)
          have HO8 := hide (ownsRow_below HO7.out B8.out)
          have s8 := B8.out.size
          have B48 := hide (B47.out.trans (B8.out.mono (by omega)))
          clear hw8 HR7 HO7 RB B7 B47
          have hz8 : w8.cell? ⟨gp, 0, none⟩ = some (.int .i64 (z0 : Int)) := (B48.out.cell (p := ⟨gp, 0, none⟩) (by show gp < W4.heap.size; omega)).trans hz4.out
          have T8 := hide (sumTab_below B48.out hg4 T4.out)
          go_wp2_with fail
          refine (HK.out _ T8.out).mono ?_
          rintro e w9 ⟨vs, rfl, rs, b9⟩
          have HR9 := hide (ownsRow_below HR8.out b9)
          have hO9 := ownsRow_below HO8.out b9
          have s9 := b9.size
          have B49 := hide (B48.out.trans (b9.mono (by omega)))
          have hp := hide (ownsRow_take HR9.out m (by omega))
          have hself : Hid (w9.ownsRow w8.heap.size 9 1 vs m ((TS.take m).map sv)) := by have := rs; rw [hHml.out] at this; exact this
          have hcm := int_cell hO9 m (by omega) _ (endsL_get TS 3 m (by omega))
          have hcm1 : m < 3 → w9.cell? ⟨ge, m + 1, none⟩ = some (.int .i64 ((framesL (TS.take (m + 1))).length : Int)) := fun h => int_cell hO9 (m + 1) (by omega) _ (endsL_get TS 3 (m + 1) (by omega))
          obtain ⟨as9, cs9, rfl⟩ := slice_form hself.out
          have hfin : Hid (Below w0.heap.size w0 w9) := B04.out.trans (B49.out.mono s4w)
          rw [hts3] at hm hc4
          have hEm : Hid (List.map sv (TS.take m) = List.take m (List.map sv TS)) := List.map_take
          clear rs b9 HK HR8 HO8 hO9 B48 hmono HOK
          have hq1 : (((framesL (TS.take m)).length : Int) == ((framesL (TS.take m)).length : Int)) = true := beq_self_eq_true _
          have hq2 : decide (((framesL (TS.take m)).length : Int) ≤ (kk : Int)) = true := by simp; omega
          generalize (framesL (TS.take m)).length = E at hcm hq1 hq2 hc3 ⊢
          have hlast : (m = 3) ∨ (m < 3 ∧ ((m : Int) == 3) = false ∧ decide (kk < (framesL (TS.take (m + 1))).length) = true) := by
            rcases hc4 with h | h
            · exact .inl h
            · by_cases h3 : m = 3
              · exact .inl h3
              · exact .inr ⟨by omega, by simp; omega, by simp; omega⟩
          clear hc4
          have hq3 : decide ((m : Int) ≤ 3) = true := by simp; omega
          have hi0 : (0 : Int) ≤ (m : Int) := by omega
          have hi1 : (m : Int) < 4 := by omega
          rcases hlast with rfl | ⟨h3, hq4, hq5⟩
          · go_wp2_with (first | (go_at_call 25; refine (same_texts _ _ (TS.take 3) _ _ _ (by rw [hHml.out]; omega) (by rw [hHml.out]; exact hself.out) (by rw [hHml.out, hEm.out]; exact hp.out)).mono ?_; rintro e w10 ⟨rfl, q9, rfl⟩))

            go_ret
            exact ⟨rfl, below_drewN hfin.out _⟩
          · have hcm2 := hcm1 h3
            clear hcm1
            go_wp2_with (first | (go_at_call 25; refine (same_texts _ _ (TS.take m) _ _ _ (by rw [hHml.out]; omega) (by rw [hHml.out]; exact hself.out) (by rw [hHml.out, hEm.out]; exact hp.out)).mono ?_; rintro e w10 ⟨rfl, q9, rfl⟩))
            go_ret
            exact ⟨rfl, below_drewN hfin.out _⟩
    · have hd : ((T.size : Int) == 0) = true ∨ (((T.size : Int) == 0) = false ∧ decide (900 < (T.size : Int)) = true) := by
        by_cases h0 : T.size = 0
        · left; rw [beq_iff_eq]; omega
        · right; exact ⟨by rw [beq_eq_false_iff_ne]; omega, by simp; omega⟩
      clear hin
      rcases hd with hd1 | ⟨hd1, hd2⟩
      all_goals
        go_wp2
        have HR4 := hide (recs3_row (w := w2) ⟨#[111, 110, 101]⟩)
        have o1 : 1 ≤ (⟨#[111, 110, 101]⟩ : ByteArray).size := by decide
        have o2 : (⟨#[111, 110, 101]⟩ : ByteArray).size ≤ 900 := by decide
        obtain ⟨W4, hW4⟩ : ∃ W4, w2.alloc (.cells #[.string ⟨#[111, 110, 101]⟩, .string ⟨#[116, 119, 111]⟩, .string ⟨#[116, 104, 114, 101, 101, 32, 97, 110, 100, 32, 109, 111, 114, 101]⟩] 9) = W4 := ⟨_, rfl⟩
        have hs4 : W4.heap.size = w2.heap.size + 1 := by rw [← hW4]; simp
        have B4 : Hid (Below w2.heap.size w2 W4) := by rw [← hW4]; exact (Below.refl _ _).alloc (Nat.le_refl _) _
        rw [hW4] at HR4 ⊢
        clear hW4 hTz hd1
        generalize (⟨#[111, 110, 101]⟩ : ByteArray) = T1 at o1 o2 HR4
        obtain ⟨hok, hfz⟩ := recs3_ok T1 o1 o2
        have hts3 : (recs3 T1).length = 3 := rfl
        generalize recs3 T1 = TS at HR4 hok hfz hts3
        have HOK := hide hok
        have hmono := hide (framesL_mono TS)
        have hz4 : Hid (W4.cell? ⟨gp, 0, none⟩ = some (.int .i64 (z0 : Int))) := (B4.out.cell (p := ⟨gp, 0, none⟩) (by show gp < w2.heap.size; omega)).trans hz2.out
        have B04 := hide (B2.out.trans (B4.out.mono B2.out.size))
        have T4 := hide (sumTab_later B04.out HT.out)
        have hg4 : 0 < W4.heap.size := sumTab_lt T4.out
        have hwh := hide (unf_whole TS hok hfz)
        have s4w := B04.out.size
        clear hok B4 hz2
        go_loopw [5, 6, 7] (fun fl en ii wr => ∃ k : Nat, k ≤ 3 ∧ ii = .int .i64 k ∧ fl = .string (file (framesL (TS.take k))) ∧ wr.ownsRow W4.heap.size 3 1 en (endsL TS k).length ((endsL TS k).map iv) ∧ Below W4.heap.size W4 wr) (fun _ _ ii _ => 3 - (intOf ii).toNat)
        case atStart =>
          refine ⟨0, by omega, rfl, rfl, ?_, (Below.refl _ _).alloc (Nat.le_refl _) _⟩
          have := World.ownsRow_lit (e := 3) (size := 1) W4 #[.int .i64 0] 1 (Nat.le_refl _) (by decide) rfl
          rw [hs4] at this ⊢
          exact this
        case round =>
          obtain ⟨k, hk, rfl, rfl, hown, hb⟩ := hrel
          have hbs := hb.size
          have hA : (file (framesL (TS.take k))).size ≤ 20000 := Nat.le_trans (hmono.out k) hfz
          by_cases hlt : k < 3
          · obtain ⟨t, ht⟩ : ∃ t, TS[k]? = some t := ⟨_, List.getElem?_eq_getElem (by omega)⟩
            have htok := HOK.out t (List.mem_of_getElem? ht)
            have hcell : wr.cell? ⟨w2.heap.size, k, none⟩ = some (.string (file t)) := (hb.cell (p := ⟨w2.heap.size, k, none⟩) (by show w2.heap.size < W4.heap.size; omega)).trans (text_cell HR4.out k hlt t ht)
            have hcat := file_cat TS k t ht
            have hE := hide (endsL_succ TS k)
            have hEl := endsL_len TS k
            have hX : (frameB (file t)).size ≤ 20000 := by
              have := hmono.out (k + 1)
              have e := congrArg ByteArray.size hcat
              rw [ByteArray.size_append] at e
              have : (file (framesL (TS.take (k + 1)))).size ≤ 20000 := Nat.le_trans this hfz
              omega
            have hF := hide (fun W hT => frame_yes (file t) W htok.1 htok.2 hT)
            have hA' : (file (framesL (TS.take (k + 1)))).size = (framesL (TS.take (k + 1))).length := rfl
            generalize file (framesL (TS.take k)) = A at hcat hA ⊢
            generalize frameB (file t) = X at hcat hX hF
            obtain ⟨A2, hA2⟩ : ∃ A2, file (framesL (TS.take (k + 1))) = A2 := ⟨_, rfl⟩
            rw [hA2] at hcat hA'
            have HA2 := hide hA2
            have HA' := hide hA'
            clear hA2 hA'
            have hi0 : (0 : Int) ≤ (k : Int) := by omega
            have hi1 : (k : Int) < 3 := by omega
            have HO := hide hown
            have HB := hide hb
            have HTr := hide (sumTab_below hb hg4 T4.out)
            have hEl2 : (endsL TS k).length ≤ 1000000 := by omega
            clear ht htok hown hb hEl
            go_wp2_with (first | (go_at_call 23; refine (hF.out _ HTr.out).mono ?_; rintro e w5 ⟨rfl, b5⟩) | (at_builtin; refine app_int _ W4 W4.heap.size rfl _ _ rfl _ (endsL TS k) rfl (ownsRow_below HO.out b5) rfl hEl2 (HB.out.trans (b5.mono hbs)) (Nat.le_trans hbs b5.size) ?_; intro v' w6 hown6 hb6 hs6))
            go_roundw
            case rel =>
              refine ⟨k + 1, by omega, by go_num, by rw [HA2.out], ?_, hb6⟩
              rw [hE.out, ← HA'.out]
              exact hown6
            case measure => simp [intOf]; omega
          · obtain rfl : k = 3 := by omega
            rw [show TS.take 3 = TS by rw [← hts3, List.take_length]] at hA ⊢
            obtain ⟨ge, cape, rfl⟩ : ∃ ge cape, u6 = .slice (some ⟨ge, 0, none⟩) 4 cape := by
              rcases hown.2 with ⟨h, h'⟩ | ⟨g, c, cur, rfl, _⟩
              · simp [endsL] at h'
              · exact ⟨g, c, by rw [endsL_len]⟩
            rw [endsL_len] at hown
            obtain ⟨hwr, hwe⟩ := hwh.out
            have hwe' : endOf (unf (file (framesL TS))) = (file (framesL TS)).size := hwe
            have HU := hide (fun W hT => unframe_in (file (framesL TS)) W hA hT)
            unfold FramesLeft at HU
            rw [hwr, hwe'] at HU
            obtain ⟨kk, hkk, hrem⟩ : ∃ kk : Nat, kk ≤ (framesL TS).length ∧ (z0 : Int) % (((file (framesL TS)).size : Int) + 1) = (kk : Int) := ⟨z0 % ((framesL TS).length + 1), by have := Nat.mod_lt z0 (show 0 < (framesL TS).length + 1 by omega); omega, rem_nat _ _⟩
            obtain ⟨m, hm, hc1, hc2, hc3, hc4⟩ := unf_cut TS kk HOK.out hkk hfz
            have hKz : (file ((framesL TS).take kk)).size ≤ 20000 := by rw [file_size, List.length_take]; omega
            have HK := hide (fun W hT => unframe_in (file ((framesL TS).take kk)) W hKz hT)
            unfold FramesLeft at HK
            rw [hc1, hc2] at HK
            have hcut := cut_to (file (framesL TS)) kk (kk : Int) (file ((framesL TS).take kk)) rfl hkk (by rw [file_extract]; simp)
            have hml : (TS.take m).length = m := by rw [List.length_take]; omega
            have hkA : kk ≤ (file (framesL TS)).size := hkk
            generalize file ((framesL TS).take kk) = K at hcut HK hKz
            generalize file (framesL TS) = A at hcut hA hkA hrem HU ⊢
            have hne0 : ¬ ((A.size : Int) + 1) = 0 := by omega
            have hHml := hide hml
            clear hc1 hc2 hwe' hkk hml hfz hKz
            have HO := hide hown
            have HB := hide hb
            have HTr := hide (sumTab_below hb hg4 T4.out)
            have HRr := hide (ownsRow_below HR4.out hb)
            clear hown hb hwr hwe hwh
            go_wp2_with fail
            refine (HU.out _ HTr.out).mono ?_
            rintro e w7 ⟨vb, rfl, rb, b7⟩
            have B7 := hide b7
            have RB := hide rb
            have HR7 := hide (ownsRow_below HRr.out b7)
            have HO7 := hide (ownsRow_below HO.out b7)
            have s7 := b7.size
            have B47 := hide (HB.out.trans (b7.mono hbs))
            clear b7 rb HRr HO HU
            rw [hts3] at RB
            go_wp2_with fail
            refine (same_texts vb _ TS _ _ _ (by omega) (by rw [hts3]; exact RB.out) (by rw [hts3]; exact HR7.out)).mono ?_
            rintro e w8 ⟨rfl, q, hw8⟩
            have B8 : Hid (Below w7.heap.size w7 w8) := by rw [hw8]; exact drewN_below w7 q
            have HR8 := hide (ownsRow_below HR7.out B8.out)
            have HO8 := hide (ownsRow_below HO7.out B8.out)
            have s8 := B8.out.size
            have B48 := hide (B47.out.trans (B8.out.mono (by omega)))
            clear hw8 HR7 HO7 RB B7 B47
            have hz8 : w8.cell? ⟨gp, 0, none⟩ = some (.int .i64 (z0 : Int)) := (B48.out.cell (p := ⟨gp, 0, none⟩) (by show gp < W4.heap.size; omega)).trans hz4.out
            have T8 := hide (sumTab_below B48.out hg4 T4.out)
            go_wp2_with fail
            refine (HK.out _ T8.out).mono ?_
            rintro e w9 ⟨vs, rfl, rs, b9⟩
            have HR9 := hide (ownsRow_below HR8.out b9)
            have hO9 := ownsRow_below HO8.out b9
            have s9 := b9.size
            have B49 := hide (B48.out.trans (b9.mono (by omega)))
            have hp := hide (ownsRow_take HR9.out m (by omega))
            have hself : Hid (w9.ownsRow w8.heap.size 9 1 vs m ((TS.take m).map sv)) := by have := rs; rw [hHml.out] at this; exact this
            have hcm := int_cell hO9 m (by omega) _ (endsL_get TS 3 m (by omega))
            have hcm1 : m < 3 → w9.cell? ⟨ge, m + 1, none⟩ = some (.int .i64 ((framesL (TS.take (m + 1))).length : Int)) := fun h => int_cell hO9 (m + 1) (by omega) _ (endsL_get TS 3 (m + 1) (by omega))
            obtain ⟨as9, cs9, rfl⟩ := slice_form hself.out
            have hfin : Hid (Below w0.heap.size w0 w9) := B04.out.trans (B49.out.mono s4w)
            rw [hts3] at hm hc4
            have hEm : Hid (List.map sv (TS.take m) = List.take m (List.map sv TS)) := List.map_take
            clear rs b9 HK HR8 HO8 hO9 B48 hmono HOK
            have hq1 : (((framesL (TS.take m)).length : Int) == ((framesL (TS.take m)).length : Int)) = true := beq_self_eq_true _
            have hq2 : decide (((framesL (TS.take m)).length : Int) ≤ (kk : Int)) = true := by simp; omega
            generalize (framesL (TS.take m)).length = E at hcm hq1 hq2 hc3 ⊢
            have hlast : (m = 3) ∨ (m < 3 ∧ ((m : Int) == 3) = false ∧ decide (kk < (framesL (TS.take (m + 1))).length) = true) := by
              rcases hc4 with h | h
              · exact .inl h
              · by_cases h3 : m = 3
                · exact .inl h3
                · exact .inr ⟨by omega, by simp; omega, by simp; omega⟩
            clear hc4
            have hq3 : decide ((m : Int) ≤ 3) = true := by simp; omega
            have hi0 : (0 : Int) ≤ (m : Int) := by omega
            have hi1 : (m : Int) < 4 := by omega
            rcases hlast with rfl | ⟨h3, hq4, hq5⟩
            · go_wp2_with (first | (go_at_call 25; refine (same_texts _ _ (TS.take 3) _ _ _ (by rw [hHml.out]; omega) (by rw [hHml.out]; exact hself.out) (by rw [hHml.out, hEm.out]; exact hp.out)).mono ?_; rintro e w10 ⟨rfl, q9, rfl⟩))

              go_ret
              exact ⟨rfl, below_drewN hfin.out _⟩
            · have hcm2 := hcm1 h3
              clear hcm1
              go_wp2_with (first | (go_at_call 25; refine (same_texts _ _ (TS.take m) _ _ _ (by rw [hHml.out]; omega) (by rw [hHml.out]; exact hself.out) (by rw [hHml.out, hEm.out]; exact hp.out)).mono ?_; rintro e w10 ⟨rfl, q9, rfl⟩))
              go_ret
              exact ⟨rfl, below_drewN hfin.out _⟩
  · have hbig : decide (1048576 < (len : Int)) = true := by simp; omega
    clear hT hcode
    go_enter Tryd.func5, Tryd.ntmps5
    go_wp2_with fail
    refine (big_any _ ao len cap).mono ?_
    rintro e w0 ⟨rfl, rfl⟩
    go_wp2
    go_ret
    exact ⟨rfl, Below.refl _ _⟩
end Go.Proofs.YtgalhnbfdgpfpaaDoor
