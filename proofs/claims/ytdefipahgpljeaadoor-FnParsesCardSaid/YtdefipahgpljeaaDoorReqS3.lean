/- The specification's reader of a line, walked. -/
import Derived.Test.YtdefipahgpljeaaDoorReqS2
import Derived.Deep.Cut
import Derived.Deep.CutRange
namespace Go.Proofs.YtdefipahgpljeaaDoor
open Go.RowKit

/-- What is left of a call that tells a request. -/
def RqLeft (r : Nat × Nat × List ByteArray) (w : World) (e : Ending) (w' : World) : Prop :=
  Below w.heap.size w w' ∧ ∃ v, e = .returned (.tuple #[v, .int .i64 (r.2.1 : Int), .int .i64 (r.1 : Int)]) ∧ RowText w' w.heap.size v r.2.2
theorem cut_to9 (s : ByteArray) (b : Nat) (bi : Int) (R : ByteArray) (hb : bi = b) (h2 : b ≤ s.size) (hR : s.extract 0 b = R) : ∀ W : World, (Instr.slice 9 (.string s) none (some (.int .i64 bi)) none).run Tryd.prog W = .ok (.string R) W := by
  intro W
  subst hb hR
  rw [run_slice_string_to_if W 9 s .i64 (b : Int) Tryd.underlying9, if_pos ⟨by omega, by omega⟩, Int.toNat_natCast]
theorem row_none (w : World) : RowText (w.alloc (.cells #[] 9)) w.heap.size (.slice (some ⟨w.heap.size, 0, none⟩) 0 0) [] := .inr ⟨w.heap.size, 0, #[], rfl, Nat.le_refl _, heap_alloc_new w _, Nat.le_refl _, fun j hj => absurd hj (by simp)⟩
theorem lineOk_many {s : ByteArray} (h : 8 < (Wd.words (lineTx s)).length) : lineOk s = false := by
  unfold lineOk lineWs
  rw [decide_eq_false (by omega)]
  rfl
theorem lineOk_long {s : ByteArray} {x : List UInt8} (h : x ∈ Wd.words (lineTx s)) (hx : 60 < x.length) : lineOk s = false := by
  unfold lineOk lineWs
  rw [show (Wd.words (lineTx s)).all (fun x => decide (x.length ≤ 60)) = false from List.all_eq_false.2 ⟨x, h, by simp; omega⟩]
  exact Bool.and_false _
theorem lineOk_yes {s : ByteArray} (h : (Wd.words (lineTx s)).length ≤ 8) (hx : ∀ x ∈ Wd.words (lineTx s), x.length ≤ 60) : lineOk s = true := by
  unfold lineOk lineWs
  rw [decide_eq_true h, show (Wd.words (lineTx s)).all (fun x => decide (x.length ≤ 60)) = true from List.all_eq_true.2 (fun x hx' => decide_eq_true (hx x hx'))]
  rfl

theorem word_end_ex (T : ByteArray) (i : Nat) (hi : i < T.size) (hne : Wd.bt T i ≠ 32) : ∃ k, i < k ∧ k ≤ T.size ∧ Hid ((∀ j, i ≤ j → j < k → Wd.bt T j ≠ 32) ∧ (k < T.size → Wd.bt T k = 32)) := by
  have key : ∀ d k, k + d = T.size → i < k → (∀ j, i ≤ j → j < k → Wd.bt T j ≠ 32) → ∃ k, i < k ∧ k ≤ T.size ∧ (∀ j, i ≤ j → j < k → Wd.bt T j ≠ 32) ∧ (k < T.size → Wd.bt T k = 32) := by
    intro d
    induction d with
    | zero => intro k h1 h2 h3; exact ⟨k, h2, by omega, h3, fun h => by omega⟩
    | succ d ih =>
      intro k h1 h2 h3
      by_cases h : Wd.bt T k = 32
      · exact ⟨k, h2, by omega, h3, fun _ => h⟩
      · refine ih (k + 1) (by omega) (by omega) (fun j h4 h5 => ?_)
        by_cases e : j = k
        · subst e; exact h
        · exact h3 j h4 (by omega)
  obtain ⟨k, h1, h2, h3⟩ := key (T.size - (i + 1)) (i + 1) (by omega) (by omega) (fun j h4 h5 => by rw [show j = i from by omega]; exact hne)
  exact ⟨k, h1, h2, h3⟩

set_option maxRecDepth 100000 in
set_option maxHeartbeats 4000000 in
theorem specLine_any (s : ByteArray) (w : World) (hz : s.size ≤ 1048576) : Calls Tryd.prog 23 #[.string s] w (RqLeft (lineRq s) w) := by
  obtain ⟨w1, hw1⟩ : ∃ w1, w.alloc (.cells #[] 9) = w1 := ⟨_, rfl⟩
  have H0 : Hid (RowText w1 w.heap.size (.slice (some ⟨w.heap.size, 0, none⟩) 0 0) []) := by rw [← hw1]; exact row_none w
  have B1 : Hid (Below w.heap.size w w1) := by rw [← hw1]; exact (Below.refl _ _).alloc (Nat.le_refl _) _
  have hs1 : w.heap.size ≤ w1.heap.size := B1.out.size
  go_enter Tryd.func23, Tryd.ntmps23
  go_wp2_with fail
  clear hw1
  go_loopg [6] s.size (fun gg ii wr => ∃ k : Nat, k + gg = s.size ∧ ii = .int .i64 k ∧ Hid (lfK s k = lfE s) ∧ w1 = wr)
  case atStart => exact ⟨0, by omega, rfl, lfK_zero s, rfl⟩
  case round =>
    obtain ⟨k, hkg, rfl, HE, rfl⟩ := hrel
    by_cases hlt : k < s.size
    · have hlt' : decide ((k : Int) < (s.size : Int)) = true := by simp; omega
      have hltn : decide (k < s.size) = true := by simp; omega
      obtain ⟨c, hC, hct, hc256⟩ : ∃ c : Nat, Hid (Wd.bt s k = c) ∧ (s[k]'hlt).toNat = c ∧ c < 256 := ⟨_, rfl, Wd.bt_eq s k hlt, Wd.bt_lt s k⟩
      by_cases hc : c = 10
      · have hc' : ((c : Int) != 10) = false := by simp; omega
        have hn : Hid (lfE s = k) := HE.out.symm.trans (lfK_lf hlt (by rw [hC.out]; exact hc))
        clear hc HE
        by_cases h80 : 80 < k
        · have h80' : decide (80 < (k : Int)) = true := by simp; omega
          have hR : Hid (lineRq s = (2, 0, [])) := by show _ = _; unfold lineRq; rw [hn.out, if_pos h80]
          go_wp2
          go_ret3
          rw [hR.out]
          exact ⟨B1.out, _, rfl, H0.out⟩
        · have h80' : decide (80 < (k : Int)) = false := by simp; omega
          have hks : ((k : Int) == (s.size : Int)) = false := by rw [beq_eq_false_iff_ne]; omega
          have hR : Hid (lineRq s = if lineOk s = true then (1, k + 1, (lineWs s).map tx) else (2, 0, [])) := by show _ = _; unfold lineRq; rw [hn.out, if_neg h80, if_neg (by omega)]
          obtain ⟨T0, hT0, hT0z⟩ : ∃ T0 : ByteArray, Hid (s.extract 0 k = T0) ∧ Hid (T0.size = k) := ⟨_, rfl, by show _ = _; rw [ByteArray.size_extract]; omega⟩
          have hcut0 := cut_to9 s k k T0 rfl (by omega) hT0.out
          have hT0e : Hid (s.extract 0 (lfE s) = T0) := by show _ = _; rw [hn.out]; exact hT0.out
          obtain ⟨T, hT, hTz⟩ : ∃ T, Hid (lineTx s = T) ∧ T.size ≤ 80 := ⟨_, rfl, by have := lineTx_size s; rw [hn.out] at this; omega⟩
          have hway : ∃ tr : Bool, (tr = true ∧ ∃ q b : Nat, ∃ hq : q < T0.size, T0.size = q + 1 ∧ (T0[q]'hq).toNat = b ∧ ((b : Int) == 13) = true ∧ Hid (T0.extract 0 q = T)) ∨ (tr = false ∧ Hid (T0 = T) ∧ ((∃ q b : Nat, ∃ hq : q < T0.size, T0.size = q + 1 ∧ (T0[q]'hq).toNat = b ∧ ((b : Int) == 13) = false) ∨ T0.size = 0)) := by
            by_cases h0 : 0 < T0.size
            · have hq : T0.size - 1 < T0.size := by omega
              have hb := Wd.bt_eq T0 (T0.size - 1) hq
              by_cases h13 : Wd.bt T0 (T0.size - 1) = 13
              · refine ⟨true, .inl ⟨rfl, T0.size - 1, _, hq, by omega, rfl, by rw [hb, h13]; rfl, ?_⟩⟩
                show _ = _
                rw [← hT.out, lineTx_yes (s := s) (by rw [hT0e.out]; exact h0) (by rw [hT0e.out]; exact h13), hT0e.out]
              · refine ⟨false, .inr ⟨rfl, ?_, .inl ⟨T0.size - 1, _, hq, by omega, rfl, by rw [hb, beq_eq_false_iff_ne]; omega⟩⟩⟩
                show _ = _
                rw [← hT.out, lineTx_no (s := s) (by rw [hT0e.out]; exact fun h => h13 h.2), hT0e.out]
            · refine ⟨false, .inr ⟨rfl, ?_,   .inr (by omega)⟩⟩
              show _ = _
              rw [← hT.out, lineTx_no (s := s) (by rw [hT0e.out]; exact fun h => h0 h.1), hT0e.out]
          obtain ⟨tr, hway⟩ := hway
          have hz0 : T0.size ≤ 80 := by rw [hT0z.out]; omega
          clear hT0e hT0 hn hC hT0z
          go_upto_region 10 with fail
          clear hlt' hltn hct
          go_cut [45] from 35 (fun v45 wx => v45 = .bool tr ∧ w1 = wx)
          case first =>
            clear hcut0 H0 B1 hR
            rcases hway with ⟨rfl, q, b, hq, hTq, hbt, hb13, _⟩ | ⟨rfl, _, ⟨q, b, hq, hTq, hbt, hb13⟩ | hTq⟩
            · go_wp2_with fail
              go_meet
              case rel => exact ⟨rfl, rfl⟩
            · go_wp2_with fail
              go_meet
              case rel => exact ⟨rfl, rfl⟩
            · go_wp2_with fail
              go_meet
              case rel => exact ⟨rfl, rfl⟩
          case rest =>
            obtain ⟨rfl, rfl⟩ := hcut
            clear hcut0
            go_upto_if 45 with fail
            go_cut [7] from 35 (fun v7 wx => v7 = .string T ∧ w1 = wx)
            case first =>
              clear H0 B1 hR
              rcases hway with ⟨rfl, q, b, hq, hTq, _, _, hcut⟩ | ⟨rfl, hTT, _⟩
              · have hcut1 := cut_to9 T0 q q T rfl (by omega) hcut.out
                go_wp2_with fail
                go_meet
                case rel => exact ⟨rfl, rfl⟩
              · go_wp2_with fail
                go_meet
                case rel => exact ⟨by rw [hTT.out], rfl⟩
            case rest =>
              obtain ⟨rfl, rfl⟩ := hcut
              clear hway hz0
              have own0 : Hid ((w1.alloc (.cells #[] 9)).ownsRow w1.heap.size 9 1 (.slice (some ⟨w1.heap.size, 0, none⟩) 0 0) ([] : List ByteArray).length (([] : List ByteArray).map Value.string)) := World.ownsRow_lit w1 #[] 0 (Nat.le_refl _) (Nat.zero_le _) rfl
              have bel0 : Hid (Below w1.heap.size w1 (w1.alloc (.cells #[] 9))) := (Below.refl _ w1).alloc (Nat.le_refl _) _
              go_wp2_with fail
              go_loopg [8, 9] T.size (fun gg vo ii wr => ∃ (i : Nat) (P : List ByteArray), i + gg = T.size ∧ ii = .int .i64 i ∧ P.length ≤ 8 ∧ Hid (∀ x ∈ P, x.size ≤ 60) ∧ Hid (wr.ownsRow w1.heap.size 9 1 vo P.length (P.map Value.string)) ∧ Hid (Tld T i P) ∧ Hid (Below w1.heap.size w1 wr))
              case atStart => exact ⟨0, [], by omega, rfl, by simp, fun x hx => absurd hx (by simp), own0, by show Tld _ _ _; unfold Tld; simp [Wd.words], bel0⟩
              case round =>
                clear own0 bel0
                obtain ⟨i, P, hig, rfl, hP8, HP60, HOw, HTl, HB⟩ := hrel
                obtain ⟨wq, hwq⟩ : ∃ wq, wq = wr := ⟨_, rfl⟩
                subst hwq
                obtain ⟨ao, cp, rfl⟩ := slice_form HOw.out
                have hws : w1.heap.size ≤ wq.heap.size := HB.out.size
                have HN : Hid (RowText wq w.heap.size (.slice (some ⟨w.heap.size, 0, none⟩) 0 0) []) := rowText_below H0.out HB.out
                have HBB : Hid (Below w.heap.size w wq) := B1.out.trans (HB.out.mono hs1)
                by_cases hi : i < T.size
                · have hi' : decide ((i : Int) < (T.size : Int)) = true := by simp; omega
                  obtain ⟨c2, hC2, hct2, hc2⟩ : ∃ c : Nat, Hid (Wd.bt T i = c) ∧ (T[i]'hi).toNat = c ∧ c < 256 := ⟨_, rfl, Wd.bt_eq T i hi, Wd.bt_lt T i⟩
                  have hidx := idx_run T i c2 hi hct2
                  clear hct2
                  by_cases h32 : c2 = 32
                  · have h32' : ((c2 : Int) == 32) = true := by rw [h32]; rfl
                    have HT2 := hide (tld_blank HTl.out hi (by rw [hC2.out]; exact h32))
                    clear h32
                    go_wp2_with fail
                    go_roundg (T.size - (i + 1))
                    case rel => exact ⟨i + 1, P, by omega, by go_num, hP8, HP60, HOw, HT2, HB⟩
                    case measure => omega
                  · have h32' : ((c2 : Int) == 32) = false := by rw [beq_eq_false_iff_ne]; omega
                    have hne : Hid (Wd.bt T i ≠ 32) := by show _ ≠ _; rw [hC2.out]; exact h32
                    obtain ⟨ke, hke0, hke, HKE⟩ := word_end_ex T i hi hne.out
                    have HKN := hide HKE.out.1
                    have HKD := hide HKE.out.2
                    clear HKE
                    go_wp2_with fail
                    go_loopg [10] (ke - i) (fun gg kk wr => ∃ k2 : Nat, k2 + gg = ke ∧ i ≤ k2 ∧ kk = .int .i64 k2 ∧ wq = wr)
                    case atStart => exact ⟨i, by omega, Nat.le_refl _, rfl, rfl⟩
                    case round =>
                      obtain ⟨k2, hk2, hik2, rfl, rfl⟩ := hrel
                      obtain ⟨more, hmore⟩ : ∃ more : Bool, Hid (more = decide (k2 < ke)) := ⟨_, rfl⟩
                      go_upto_region 18 with fail
                      go_cut [72] from 63 to 74 (fun v wx => v = .bool more ∧ wq = wx)
                      case first =>
                        clear HN HBB H0 B1 hR HTl HOw HB HP60
                        by_cases hl2 : k2 < T.size
                        · have hl2' : decide ((k2 : Int) < (T.size : Int)) = true := by simp; omega
                          obtain ⟨c3, hC3, hct3, hc3⟩ : ∃ c : Nat, Hid (Wd.bt T k2 = c) ∧ (T[k2]'hl2).toNat = c ∧ c < 256 := ⟨_, rfl, Wd.bt_eq T k2 hl2, Wd.bt_lt T k2⟩
                          have hidx3 := idx_run T k2 c3 hl2 hct3
                          clear hct3
                          by_cases hkk : k2 < ke
                          · have hn32 : ((c3 : Int) != 32) = true := by have := HKN.out k2 hik2 hkk; rw [hC3.out] at this; simp; omega
                            go_wp2_with fail
                            go_meet
                            case rel => exact ⟨by rw [hmore.out, decide_eq_true hkk], rfl⟩
                          · have hn32 : ((c3 : Int) != 32) = false := by have := HKD.out (by omega); rw [show ke = k2 from by omega, hC3.out] at this; simp; omega
                            go_wp2_with fail
                            go_meet
                            case rel => exact ⟨by rw [hmore.out, decide_eq_false hkk], rfl⟩
                        · have hl2' : decide ((k2 : Int) < (T.size : Int)) = false := by simp; omega
                          go_wp2_with fail
                          go_meet
                          case rel => exact ⟨by rw [hmore.out, decide_eq_false (by omega)], rfl⟩
                      case rest =>
                      obtain ⟨rfl, rfl⟩ := hcut
                      cases more
                      case true =>
                        have hkk : k2 < ke := of_decide_eq_true hmore.out.symm
                        go_wp2_with fail
                        go_roundg (ke - (k2 + 1))
                        case rel => exact ⟨k2 + 1, by omega, by omega, by go_num, rfl⟩
                        case measure => omega
                      obtain rfl : k2 = ke := by have := of_decide_eq_false hmore.out.symm; omega
                      clear hmore
                      have HW := hide (tld_word HTl.out hke0 hke HKN.out HKD.out)
                      obtain ⟨X, hX, hXz⟩ : ∃ X, Hid (T.extract i k2 = X) ∧ Hid (X.size = k2 - i) := ⟨_, rfl, by show _ = _; rw [ByteArray.size_extract]; omega⟩
                      rw [hX.out] at HW
                      by_cases h8 : P.length = 8
                      · have h8' : ((P.length : Int) == 8) = true := by rw [h8]; rfl
                        have hRR : Hid (lineRq s = (2, 0, [])) := by show _ = _; rw [hR.out, if_neg]; rw [lineOk_many (by rw [hT.out]; have := HW.out.2.2; omega)]; simp
                        clear h8
                        go_wp2
                        go_ret3
                        rw [hRR.out]
                        exact ⟨HBB.out, _, rfl, HN.out⟩
                      · have h8' : ((P.length : Int) == 8) = false := by rw [beq_eq_false_iff_ne]; omega
                        by_cases h60 : 60 < k2 - i
                        · have h60' : decide (60 < (k2 : Int) - (i : Int)) = true := by simp; omega
                          have hRR : Hid (lineRq s = (2, 0, [])) := by show _ = _; rw [hR.out, if_neg]; rw [lineOk_long (x := X.data.toList) (by rw [hT.out]; exact HW.out.2.1) (by rw [Array.length_toList]; show 60 < X.size; rw [hXz.out]; exact h60)]; simp
                          go_wp2
                          go_ret3
                          rw [hRR.out]
                          exact ⟨HBB.out, _, rfl, HN.out⟩
                        · have h60' : decide (60 < (k2 : Int) - (i : Int)) = false := by simp; omega
                          have hcX := cut_at T i k2 i k2 X rfl rfl (by omega) hke hX.out
                          go_wp2_with (at_builtin; refine app_txt _ w1.heap.size (by rfl) _ _ (by rfl) _ P X (by rfl) (HOw.out.alloc _) wq.heap.size (by simp [Act.eval]) (heap_alloc_new wq _) (by omega) (by simp; omega) ?_; intro g5 cap5 w5 ho5 hb5 hgr5 hg5 hgl5; have HO5 := hide ho5; have HB5 := hide hb5; clear ho5 hb5 hgr5 hg5 hgl5)
                          go_roundg (T.size - k2)
                          case rel =>
                            refine ⟨k2, P ++ [X], by omega, rfl, by simp; omega, fun x hx => ?_, HO5, HW.out.1, (HB.out.alloc hws _).trans HB5.out⟩
                            rcases List.mem_append.1 hx with h | h
                            · exact HP60.out x h
                            · rw [List.mem_singleton.1 h, hXz.out]; omega
                          case measure => omega
                · have hi' : decide ((i : Int) < (T.size : Int)) = false := by simp; omega
                  obtain rfl : i = T.size := by omega
                  have hPw := hide (tld_done HTl.out)
                  have hRR : Hid (lineRq s = (1, k + 1, P)) := by
                    show _ = _
                    rw [hR.out, if_pos, hPw.out, lineWs, hT.out]
                    refine lineOk_yes ?_ ?_
                    · rw [hT.out]; have := congrArg List.length hPw.out; rw [List.length_map] at this; omega
                    · intro x hx
                      rw [hT.out] at hx
                      have := HP60.out (tx x) (by rw [hPw.out]; exact List.mem_map_of_mem hx)
                      simpa [tx, ByteArray.size] using this
                  go_wp2
                  go_ret3
                  rw [hRR.out]
                  exact ⟨HBB.out, _, rfl, rowText_le (rowText_own HOw.out) hs1⟩
      · have hc' : ((c : Int) != 10) = true := by simp; omega
        have HE2 := hide ((lfK_more hlt (by rw [hC.out]; exact hc)).trans HE.out)
        go_wp2_with fail
        go_roundg (s.size - (k + 1))
        case rel => exact ⟨k + 1, by omega, by go_num, HE2, rfl⟩
        case measure => omega
    · have hlt' : decide ((k : Int) < (s.size : Int)) = false := by simp; omega
      have hltn : decide (k < s.size) = false := by simp; omega
      have hn : Hid (lfE s = k) := HE.out.symm.trans (lfK_end (by omega))
      have hks : ((k : Int) == (s.size : Int)) = true := by rw [beq_iff_eq]; omega
      by_cases h80 : 80 < k
      · have h80' : decide (80 < (k : Int)) = true := by simp; omega
        have hR : Hid (lineRq s = (2, 0, [])) := by show _ = _; unfold lineRq; rw [hn.out, if_pos h80]
        go_wp2
        go_ret3
        rw [hR.out]
        exact ⟨B1.out, _, rfl, H0.out⟩
      · have h80' : decide (80 < (k : Int)) = false := by simp; omega
        have hR : Hid (lineRq s = (0, 0, [])) := by show _ = _; unfold lineRq; rw [hn.out, if_neg h80, if_pos (by omega)]
        go_wp2
        go_ret3
        rw [hR.out]
        exact ⟨B1.out, _, rfl, H0.out⟩
end Go.Proofs.YtdefipahgpljeaaDoor
