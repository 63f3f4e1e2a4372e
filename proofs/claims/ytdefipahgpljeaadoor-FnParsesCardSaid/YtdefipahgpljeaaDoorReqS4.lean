/- The specification's ParseRequest, walked. -/
import Derived.Test.YtdefipahgpljeaaDoorReqS3
import Derived.Test.YtdefipahgpljeaaDoorReqI4
namespace Go.Proofs.YtdefipahgpljeaaDoor
open Go.RowKit

theorem specCode_any (a : Int) (c : Nat) (w : World) (h : (a = -2 ∧ c = 2) ∨ (a = -1 ∧ c = 0)) : Calls Tryd.prog 25 #[.int .i64 a] w fun e w' => e = .returned (.int .i64 (c : Int)) ∧ w' = w := by
  rcases h with ⟨rfl, rfl⟩ | ⟨rfl, rfl⟩
  · go_enter Tryd.func25, Tryd.ntmps25
    go_wp2
    go_ret
    exact ⟨rfl, rfl⟩
  · go_enter Tryd.func25, Tryd.ntmps25
    go_wp2
    go_ret
    exact ⟨rfl, rfl⟩
/-- How a head that does not stand there is told. -/
theorem head_code {s : ByteArray} {i lim : Nat} (h : headSt s i lim ≠ 1) : ∃ a : Int, Hid (numRes s i lim = (0, a)) ∧ ((a = -2 ∧ headSt s i lim = 2) ∨ (a = -1 ∧ headSt s i lim = 0)) := by
  have := headSt_le s i lim
  by_cases h2 : headSt s i lim = 2
  · exact ⟨-2, numRes_no h2, .inl ⟨rfl, h2⟩⟩
  · exact ⟨-1, numRes_more (by omega), .inr ⟨rfl, by omega⟩⟩
theorem empty_of {s : ByteArray} (h : s.size = 0) : s = ⟨#[]⟩ := by
  cases s with
  | mk d => congr 1; exact Array.eq_empty_of_size_eq_zero h
theorem head_at {s : ByteArray} {i : Nat} (h1 : i < s.size) (h2 : Wd.bt s i = 36) : headM s i 36 60 = headSt s (i + 1) 60 := by
  have e : oneSt s i 36 = 1 := by unfold oneSt; rw [if_neg (by omega), if_neg (fun h => h h2)]
  unfold headM
  rw [e, if_neg (fun h => h rfl)]
theorem arg_two {s : ByteArray} {i : Nat} (h1 : i < s.size) (h2 : Wd.bt s i = 36) (h3 : headSt s (i + 1) 60 = 1) : argSt s i = crlf s (figE s (i + 1) + 2 + numV s (i + 1)) := by
  unfold argSt
  rw [head_at h1 h2, if_neg (fun h => h h3)]
  by_cases h : s.size < figE s (i + 1) + 2 + numV s (i + 1)
  · rw [if_pos h]
    unfold crlf
    rw [if_pos (by omega)]
  · rw [if_neg h]
theorem arg_head {s : ByteArray} {i : Nat} (h1 : i < s.size) (h2 : Wd.bt s i = 36) (h3 : headSt s (i + 1) 60 ≠ 1) : argSt s i = headSt s (i + 1) 60 := by
  unfold argSt
  rw [head_at h1 h2, if_pos h3]
theorem arg_other {s : ByteArray} {i : Nat} (h1 : i < s.size) (h2 : Wd.bt s i ≠ 36) : argSt s i = 2 := by
  unfold argSt headM oneSt
  rw [if_neg (by omega : ¬ s.size ≤ i), if_pos h2]
  rfl
theorem arg_end {s : ByteArray} {i : Nat} (h1 : s.size ≤ i) : argSt s i = 0 := by
  unfold argSt headM oneSt
  rw [if_pos h1]
  rfl
theorem idx_at (s : ByteArray) (j : Int) (k b : Nat) (hj : j = k) (hlt : k < s.size) (hb : Wd.bt s k = b) : ∀ W : World, (Instr.index 9 (.string s) (.int .i64 j)).run Tryd.prog W = .ok (.int .u8 (b : Int)) W := by
  subst hj
  exact idx_run s k b hlt ((Wd.bt_eq s k hlt).trans hb)
theorem crlf_ways (s : ByteArray) (j : Nat) : (s.size ≤ j ∧ crlf s j = 0) ∨ (j < s.size ∧ Wd.bt s j ≠ 13 ∧ crlf s j = 2) ∨ (j + 1 = s.size ∧ Wd.bt s j = 13 ∧ crlf s j = 0) ∨ (j + 1 < s.size ∧ Wd.bt s j = 13 ∧ Wd.bt s (j + 1) ≠ 10 ∧ crlf s j = 2) ∨ (j + 1 < s.size ∧ Wd.bt s j = 13 ∧ Wd.bt s (j + 1) = 10 ∧ crlf s j = 1) := by
  unfold crlf
  by_cases h1 : s.size ≤ j
  · exact .inl ⟨h1, by rw [if_pos h1]⟩
  rw [if_neg h1]
  by_cases h2 : Wd.bt s j ≠ 13
  · exact .inr (.inl ⟨by omega, h2, by rw [if_pos h2]⟩)
  rw [if_neg h2]
  by_cases h3 : s.size ≤ j + 1
  · exact .inr (.inr (.inl ⟨by omega, by omega, by rw [if_pos h3]⟩))
  rw [if_neg h3]
  by_cases h4 : Wd.bt s (j + 1) ≠ 10
  · exact .inr (.inr (.inr (.inl ⟨by omega, by omega, h4, by rw [if_pos h4]⟩)))
  · exact .inr (.inr (.inr (.inr ⟨by omega, by omega, by omega, by rw [if_neg h4]⟩)))

set_option maxRecDepth 100000 in
set_option maxHeartbeats 4000000 in
theorem specParse_any (s : ByteArray) (w : World) (hz : s.size ≤ 1048576) : Calls Tryd.prog 13 #[.string s] w (ParseLeft s w) := by
  obtain ⟨w1, hw1⟩ : ∃ w1, w.alloc (.cells #[] 9) = w1 := ⟨_, rfl⟩
  have H0 : Hid (RowText w1 w.heap.size (.slice (some ⟨w.heap.size, 0, none⟩) 0 0) []) := by rw [← hw1]; exact row_none w
  have B1 : Hid (Below w.heap.size w w1) := by rw [← hw1]; exact (Below.refl _ _).alloc (Nat.le_refl _) _
  have hs1 : w.heap.size ≤ w1.heap.size := B1.out.size
  by_cases h0 : s.size = 0
  · have hR : Hid (parse s = (0, 0, [])) := by show _ = _; unfold parse; rw [if_pos h0]
    have he := empty_of h0
    subst he
    go_enter Tryd.func13, Tryd.ntmps13
    go_wp2
    go_ret3
    unfold ParseLeft
    rw [hR.out]
    exact ⟨B1.out, _, rfl, H0.out⟩
  · have hse : s.toList.isEmpty = false := by rw [ByteArray.toList_eq, List.isEmpty_eq_false_iff]; intro e; have := congrArg List.length e; rw [Array.length_toList] at this; exact h0 this
    have h0' : 0 < s.size := by omega
    obtain ⟨c, hC, hct, hc256⟩ : ∃ c : Nat, Hid (Wd.bt s 0 = c) ∧ (s[0]'h0').toNat = c ∧ c < 256 := ⟨_, rfl, Wd.bt_eq s 0 h0', Wd.bt_lt s 0⟩
    by_cases hc : c = 42
    · have hc' : ((c : Int) != 42) = false := by simp; omega
      have hR0 : Hid (parse s = if headSt s 1 8 = 1 then rdArgs s (numV s 1) (figE s 1 + 2) [] else (headSt s 1 8, 0, [])) := by
        show _ = _
        unfold parse
        rw [if_neg h0, if_neg (by rw [hC.out]; omega)]
      have HN1 := hide (specNum_any s 1 8 w1 (by omega) hz)
      by_cases hh : headSt s 1 8 = 1
      · rw [numRes_yes hh] at HN1
        have hR : Hid (parse s = rdArgs s (numV s 1) (figE s 1 + 2) []) := by show _ = _; rw [hR0.out, if_pos hh]
        have hhy := headSt_yes hh
        obtain ⟨n, hn, hn8⟩ : ∃ n, Hid (numV s 1 = n) ∧ n ≤ 8 := ⟨_, rfl, hhy.2.1.2.2.2⟩
        obtain ⟨p, hp, hps⟩ : ∃ p, Hid (figE s 1 + 2 = p) ∧ p ≤ s.size := ⟨_, rfl, hhy.2.2.2⟩
        rw [hn.out, hp.out] at hR HN1
        clear hR0 hh hhy hn hp hC
        obtain ⟨R, hRR⟩ : ∃ R, Hid (R = rdArgs s n p []) := ⟨_, rfl⟩
        rw [← hRR.out] at hR
        have hp0 : decide ((p : Int) < 0) = false := by simp
        go_enter Tryd.func13, Tryd.ntmps13
        go_wp2_with fail
        clear hw1
        refine HN1.out.mono ?_
        rintro e w2 ⟨rfl, b2⟩
        have B2 : Hid (Below w.heap.size w w2) := B1.out.trans (b2.mono hs1)
        have H2 : Hid (RowText w2 w.heap.size (.slice (some ⟨w.heap.size, 0, none⟩) 0 0) []) := rowText_below H0.out b2
        have hs2 : w.heap.size ≤ w2.heap.size := B2.out.size
        clear b2 HN1 H0 B1 hs1
        have own0 : Hid ((w2.alloc (.cells #[] 9)).ownsRow w2.heap.size 9 1 (.slice (some ⟨w2.heap.size, 0, none⟩) 0 0) ([] : List ByteArray).length (([] : List ByteArray).map Value.string)) := World.ownsRow_lit w2 #[] 0 (Nat.le_refl _) (Nat.zero_le _) rfl
        have bel0 : Hid (Below w2.heap.size w2 (w2.alloc (.cells #[] 9))) := (Below.refl _ w2).alloc (Nat.le_refl _) _
        go_wp2_with fail
        go_loopg [7, 8, 9] n (fun gg va vo ii wr => ∃ (k q : Nat) (P : List ByteArray), k + gg = n ∧ ii = .int .i64 k ∧ va = .int .i64 q ∧ q ≤ s.size ∧ Hid (P.length = k) ∧ Hid (wr.ownsRow w2.heap.size 9 1 vo P.length (P.map Value.string)) ∧ Hid (R = rdArgs s (n - k) q P) ∧ Hid (Below w2.heap.size w2 wr))
        case atStart => exact ⟨0, p, [], by omega, rfl, rfl, hps, rfl, own0, hRR, bel0⟩
        case round =>
          clear own0 bel0 hRR hps hp0
          obtain ⟨k, q, P, hkg, rfl, rfl, hqs, HPL, HOw, HRd, HB⟩ := hrel
          obtain ⟨wq, hwq⟩ : ∃ wq, wq = wr := ⟨_, rfl⟩
          subst hwq
          obtain ⟨ao, cp, rfl⟩ := slice_form HOw.out
          have hws : w2.heap.size ≤ wq.heap.size := HB.out.size
          have HN : Hid (RowText wq w.heap.size (.slice (some ⟨w.heap.size, 0, none⟩) 0 0) []) := rowText_below H2.out HB.out
          have HBB : Hid (Below w.heap.size w wq) := B2.out.trans (HB.out.mono hs2)
          by_cases hk : k < n
          · have hk' : decide ((k : Int) < (n : Int)) = true := by simp; omega
            have HRn : Hid (∀ {a : Nat}, argSt s q = a → a ≠ 1 → R = (a, 0, [])) := by
              intro a ha hna
              rw [HRd.out, show n - k = (n - (k + 1)) + 1 from by omega, rd_no (by rw [ha]; exact hna), ha]
            by_cases hqe : q = s.size
            · have hqe' : ((q : Int) == (s.size : Int)) = true := by rw [hqe]; exact beq_self_eq_true _
              have hA := hide (HRn.out (arg_end (by omega)) (by omega))
              clear hqe
              go_wp2
              go_ret3
              unfold ParseLeft
              rw [hR.out, hA.out]
              exact ⟨HBB.out, _, rfl, HN.out⟩
            · have hqe' : ((q : Int) == (s.size : Int)) = false := by rw [beq_eq_false_iff_ne]; omega
              have hql : q < s.size := by omega
              obtain ⟨c2, hC2, hct2, hc2⟩ : ∃ c : Nat, Hid (Wd.bt s q = c) ∧ (s[q]'hql).toNat = c ∧ c < 256 := ⟨_, rfl, Wd.bt_eq s q hql, Wd.bt_lt s q⟩
              have hidx := idx_run s q c2 hql hct2
              clear hct2 hqe
              by_cases h36 : c2 = 36
              · have h36' : ((c2 : Int) != 36) = false := by simp; omega
                have HN2 := hide (specNum_any s (q + 1) 60 wq (by omega) hz)
                by_cases hh : headSt s (q + 1) 60 = 1
                · rw [numRes_yes hh] at HN2
                  have hhy := headSt_yes hh
                  have hAS := hide (arg_two hql (by rw [hC2.out]; exact h36) hh)
                  have HRy : Hid (argSt s q = 1 → R = rdArgs s (n - (k + 1)) (figE s (q + 1) + 2 + numV s (q + 1) + 2) (P ++ [s.extract (figE s (q + 1) + 2) (figE s (q + 1) + 2 + numV s (q + 1))])) := by
                    intro ha
                    rw [HRd.out, show n - k = (n - (k + 1)) + 1 from by omega, rd_yes ha]
                  obtain ⟨z, hzz, hz60⟩ : ∃ z, Hid (numV s (q + 1) = z) ∧ z ≤ 60 := ⟨_, rfl, hhy.2.1.2.2.2⟩
                  obtain ⟨x, hx, hxs⟩ : ∃ x, Hid (figE s (q + 1) + 2 = x) ∧ x ≤ s.size := ⟨_, rfl, hhy.2.2.2⟩
                  rw [hzz.out, hx.out] at HN2 hAS HRy
                  clear hh hhy hzz hx hC2 h36
                  have hx0 : decide ((x : Int) < 0) = false := by simp
                  go_wp2_with fail
                  refine HN2.out.mono ?_
                  rintro e w3 ⟨rfl, b3⟩
                  have B3 := hide b3
                  have hs3 : wq.heap.size ≤ w3.heap.size := b3.size
                  clear b3 HN2
                  obtain ⟨bad, hbad⟩ : ∃ bad : Bool, Hid (bad = decide (crlf s (x + z) = 2)) := ⟨_, rfl⟩
                  go_upto_region 20 with fail
                  go_cut [93] from 62 to 93 (fun v wx => v = .bool bad ∧ w3 = wx)
                  case first =>
                    clear HN HBB H2 B2 hR HOw HB HRd HRn HRy hAS B3 hidx HPL
                    rcases crlf_ways s (x + z) with ⟨h1, hcr⟩ | ⟨h1, h2, hcr⟩ | ⟨h1, h2, hcr⟩ | ⟨h1, h2, h3, hcr⟩ | ⟨h1, h2, h3, hcr⟩
                    · have g1 : decide ((z : Int) < (s.size : Int) - (x : Int)) = false := by simp; omega
                      have g2 : decide ((z : Int) + 1 < (s.size : Int) - (x : Int)) = false := by simp; omega
                      go_wp2_with fail
                      go_meet
                      case rel => exact ⟨by rw [hbad.out, hcr]; rfl, rfl⟩
                    · have g1 : decide ((z : Int) < (s.size : Int) - (x : Int)) = true := by simp; omega
                      obtain ⟨b, hb, hb256⟩ : ∃ b : Nat, Hid (Wd.bt s (x + z) = b) ∧ b < 256 := ⟨_, rfl, Wd.bt_lt _ _⟩
                      have hi1 := idx_at s ((x : Int) + (z : Int)) (x + z) b (by omega) h1 hb.out
                      have hb' : ((b : Int) != 13) = true := by rw [hb.out] at h2; simp; omega
                      clear h2
                      go_wp2_with fail
                      go_meet
                      case rel => exact ⟨by rw [hbad.out, hcr]; rfl, rfl⟩
                    · have g1 : decide ((z : Int) < (s.size : Int) - (x : Int)) = true := by simp; omega
                      have g2 : decide ((z : Int) + 1 < (s.size : Int) - (x : Int)) = false := by simp; omega
                      obtain ⟨b, hb, hb256⟩ : ∃ b : Nat, Hid (Wd.bt s (x + z) = b) ∧ b < 256 := ⟨_, rfl, Wd.bt_lt _ _⟩
                      have hi1 := idx_at s ((x : Int) + (z : Int)) (x + z) b (by omega) (by omega) hb.out
                      have hb' : ((b : Int) != 13) = false := by rw [hb.out] at h2; simp; omega
                      clear h2 h1
                      go_wp2_with fail
                      go_meet
                      case rel => exact ⟨by rw [hbad.out, hcr]; rfl, rfl⟩
                    · have g1 : decide ((z : Int) < (s.size : Int) - (x : Int)) = true := by simp; omega
                      have g2 : decide ((z : Int) + 1 < (s.size : Int) - (x : Int)) = true := by simp; omega
                      obtain ⟨b, hb, hb256⟩ : ∃ b : Nat, Hid (Wd.bt s (x + z) = b) ∧ b < 256 := ⟨_, rfl, Wd.bt_lt _ _⟩
                      obtain ⟨d, hd, hd256⟩ : ∃ b : Nat, Hid (Wd.bt s (x + z + 1) = b) ∧ b < 256 := ⟨_, rfl, Wd.bt_lt _ _⟩
                      have hi1 := idx_at s ((x : Int) + (z : Int)) (x + z) b (by omega) (by omega) hb.out
                      have hi2 := idx_at s ((x : Int) + (z : Int) + 1) (x + z + 1) d (by omega) (by omega) hd.out
                      have hb' : ((b : Int) != 13) = false := by rw [hb.out] at h2; simp; omega
                      have hd' : ((d : Int) != 10) = true := by rw [hd.out] at h3; simp; omega
                      clear h2 h3
                      go_wp2_with fail
                      go_meet
                      case rel => exact ⟨by rw [hbad.out, hcr]; rfl, rfl⟩
                    · have g1 : decide ((z : Int) < (s.size : Int) - (x : Int)) = true := by simp; omega
                      have g2 : decide ((z : Int) + 1 < (s.size : Int) - (x : Int)) = true := by simp; omega
                      obtain ⟨b, hb, hb256⟩ : ∃ b : Nat, Hid (Wd.bt s (x + z) = b) ∧ b < 256 := ⟨_, rfl, Wd.bt_lt _ _⟩
                      obtain ⟨d, hd, hd256⟩ : ∃ b : Nat, Hid (Wd.bt s (x + z + 1) = b) ∧ b < 256 := ⟨_, rfl, Wd.bt_lt _ _⟩
                      have hi1 := idx_at s ((x : Int) + (z : Int)) (x + z) b (by omega) (by omega) hb.out
                      have hi2 := idx_at s ((x : Int) + (z : Int) + 1) (x + z + 1) d (by omega) (by omega) hd.out
                      have hb' : ((b : Int) != 13) = false := by rw [hb.out] at h2; simp; omega
                      have hd' : ((d : Int) != 10) = false := by rw [hd.out] at h3; simp; omega
                      clear h2 h3
                      go_wp2_with fail
                      go_meet
                      case rel => exact ⟨by rw [hbad.out, hcr]; rfl, rfl⟩
                  case rest =>
                    obtain ⟨rfl, rfl⟩ := hcut
                    have HB3 : Hid (Below w.heap.size w w3) := HBB.out.trans (B3.out.mono HBB.out.size)
                    have HN3 : Hid (RowText w3 w.heap.size (.slice (some ⟨w.heap.size, 0, none⟩) 0 0) []) := rowText_below HN.out B3.out
                    clear HN HBB hidx
                    cases bad
                    case true =>
                      have hA := hide (HRn.out (hAS.out.trans (of_decide_eq_true hbad.out.symm)) (by omega))
                      clear HRn HRy hbad
                      go_wp2
                      go_ret3
                      unfold ParseLeft
                      rw [hR.out, hA.out]
                      exact ⟨HB3.out, _, rfl, HN3.out⟩
                    case false =>
                      have hn2 := of_decide_eq_false hbad.out.symm
                      clear hbad
                      by_cases hfit : x + z + 1 < s.size
                      · have g3 : decide ((s.size : Int) - (x : Int) < (z : Int) + 2) = false := by simp; omega
                        have hcr : crlf s (x + z) = 1 := by
                          rcases crlf_ways s (x + z) with ⟨h1, hcr⟩ | ⟨h1, h2, hcr⟩ | ⟨h1, h2, hcr⟩ | ⟨h1, h2, h3, hcr⟩ | ⟨h1, h2, h3, hcr⟩ <;> omega
                        have HA := hide (HRy.out (hAS.out.trans hcr))
                        obtain ⟨X, hX⟩ : ∃ X, Hid (s.extract x (x + z) = X) := ⟨_, rfl⟩
                        rw [hX.out] at HA
                        have hcX := cut_at s x (x + z) x ((x : Int) + (z : Int)) X rfl (by omega) (by omega) (by omega) hX.out
                        have hPl : P.length ≤ 1048576 := by rw [HPL.out]; omega
                        clear hn2 hcr HRn HRy hAS HRd
                        go_wp2_with (at_builtin; refine app_txt _ w2.heap.size (by rfl) _ _ (by rfl) _ P X (by rfl) ((ownsRow_below HOw.out B3.out).alloc _) w3.heap.size (by simp [Act.eval]) (heap_alloc_new w3 _) hPl (by simp; omega) ?_; intro g5 cap5 w5 ho5 hb5 hgr5 hg5 hgl5; have HO5 := hide ho5; have HB5 := hide hb5; clear ho5 hb5 hgr5 hg5 hgl5)
                        go_roundg (n - (k + 1))
                        case rel => exact ⟨k + 1, x + z + 2, P ++ [X], by omega, by go_num, by go_num, by omega, by show _ = _; rw [List.length_append, HPL.out]; rfl, HO5, HA, ((HB.out.trans (B3.out.mono hws)).alloc (by omega) _).trans HB5.out⟩
                        case measure => omega
                      · have g3 : decide ((s.size : Int) - (x : Int) < (z : Int) + 2) = true := by simp; omega
                        have hcr : crlf s (x + z) = 0 := by
                          rcases crlf_ways s (x + z) with ⟨h1, hcr⟩ | ⟨h1, h2, hcr⟩ | ⟨h1, h2, hcr⟩ | ⟨h1, h2, h3, hcr⟩ | ⟨h1, h2, h3, hcr⟩ <;> omega
                        have hA := hide (HRn.out (hAS.out.trans hcr) (by omega))
                        clear HRn HRy hn2 hcr
                        go_wp2
                        go_ret3
                        unfold ParseLeft
                        rw [hR.out, hA.out]
                        exact ⟨HB3.out, _, rfl, HN3.out⟩
                · obtain ⟨a, ha, hac⟩ := head_code hh
                  rw [ha.out] at HN2
                  have hA := hide (HRn.out (arg_head hql (by rw [hC2.out]; exact h36) hh) hh)
                  have ha0 : decide (a < 0) = true := by simp; omega
                  have HCd := hide (fun W => specCode_any a _ W hac)
                  clear h36 hh ha
                  have hab : -2 ≤ a ∧ a ≤ -1 := by omega
                  clear hac
                  go_wp2_with fail
                  refine HN2.out.mono ?_
                  rintro e w3 ⟨rfl, b3⟩
                  have B3 := hide b3
                  clear b3 HN2
                  go_wp2_with fail
                  refine (HCd.out _).mono ?_
                  rintro e w4 ⟨rfl, rfl⟩
                  go_wp2
                  go_ret3
                  unfold ParseLeft
                  rw [hR.out, hA.out]
                  exact ⟨HBB.out.trans (B3.out.mono HBB.out.size), _, rfl, rowText_below HN.out B3.out⟩
              · have h36' : ((c2 : Int) != 36) = true := by simp; omega
                have hA := hide (HRn.out (arg_other hql (by rw [hC2.out]; exact h36)) (by omega))
                clear h36
                go_wp2
                go_ret3
                unfold ParseLeft
                rw [hR.out, hA.out]
                exact ⟨HBB.out, _, rfl, HN.out⟩
          · have hk' : decide ((k : Int) < (n : Int)) = false := by simp; omega
            have hA : Hid (R = (1, q, P)) := by show _ = _; rw [HRd.out, show n - k = 0 from by omega]; rfl
            go_wp2
            go_ret3
            unfold ParseLeft
            rw [hR.out, hA.out]
            exact ⟨HBB.out, _, rfl, rowText_le (rowText_own HOw.out) hs2⟩
      · obtain ⟨a, ha, hac⟩ := head_code hh
        rw [ha.out] at HN1
        have hR : Hid (parse s = (headSt s 1 8, 0, [])) := by show _ = _; rw [hR0.out, if_neg hh]
        have ha0 : decide (a < 0) = true := by simp; omega
        have HCd := hide (fun W => specCode_any a _ W hac)
        have hab : -2 ≤ a ∧ a ≤ -1 := by omega
        clear hac hR0 hh ha hC
        go_enter Tryd.func13, Tryd.ntmps13
        go_wp2_with fail
        clear hw1
        refine HN1.out.mono ?_
        rintro e w3 ⟨rfl, b3⟩
        have B3 := hide b3
        clear b3 HN1
        go_wp2_with fail
        refine (HCd.out _).mono ?_
        rintro e w4 ⟨rfl, rfl⟩
        go_wp2
        go_ret3
        unfold ParseLeft
        rw [hR.out]
        exact ⟨B1.out.trans (B3.out.mono hs1), _, rfl, rowText_below H0.out B3.out⟩
    · have hc' : ((c : Int) != 42) = true := by simp; omega
      have hR : Hid (parse s = lineRq s) := by show _ = _; unfold parse; rw [if_neg h0, if_pos (by rw [hC.out]; exact hc)]
      have HL := hide (specLine_any s w1 hz)
      clear hC hc
      go_enter Tryd.func13, Tryd.ntmps13
      go_wp2_with fail
      clear hw1
      refine HL.out.mono ?_
      rintro e w3 ⟨b3, v, rfl, hv⟩
      have B3 := hide b3
      have HV := hide hv
      clear b3 hv HL
      go_wp2
      go_ret3
      unfold ParseLeft
      rw [hR.out]
      exact ⟨B1.out.trans (B3.out.mono hs1), _, rfl, rowText_le HV.out hs1⟩
end Go.Proofs.YtdefipahgpljeaaDoor
