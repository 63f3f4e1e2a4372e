/- The law on numbers: what is written is read back. -/
import Derived.Test.YtaalegphjemknaaDoorNumP
import Derived.Test.YtaalegphjemknaaDoorVarI
import Derived.Test.YtaalegphjemknaaDoorReadI
import Derived.Test.YtaalegphjemknaaDoorShortI
import Derived.Test.YtaalegphjemknaaDoorRShortI
import Derived.Test.YtaalegphjemknaaDoorDraw5
import Derived.Test.YtaalegphjemknaaDoorTurnQ
import Derived.WalkSmall
namespace Go.Proofs.YtaalegphjemknaaDoor
open Go.RowKit

theorem var_facts (n : Nat) (hn : n ≤ 1000000000) : ∃ Y Z : ByteArray, (⟨#[120]⟩ : ByteArray) ++ (⟨(Wd.varF 5 n).toArray⟩ : ByteArray) = Y ∧ Y.size ≤ 6 ∧ Y ++ (⟨#[121]⟩ : ByteArray) = Z ∧ Z.size ≤ 1048576 ∧ Hid (Wd.rvI Z 1 = some (n, (Wd.varF 5 n).length + 1)) := by
  have hl := Wd.varF_length 5 n
  have e1 : (⟨#[120]⟩ : ByteArray) ++ (⟨(Wd.varF 5 n).toArray⟩ : ByteArray) = ⟨([120] ++ Wd.varF 5 n).toArray⟩ := cat_list [120] _
  have e2 : (⟨([120] ++ Wd.varF 5 n).toArray⟩ : ByteArray) ++ (⟨#[121]⟩ : ByteArray) = ⟨([120] ++ Wd.varF 5 n ++ [121]).toArray⟩ := cat_list _ [121]
  refine ⟨_, _, rfl, by rw [e1]; show ([120] ++ Wd.varF 5 n).length ≤ 6; simp; omega, rfl, ?_, ?_⟩
  · rw [e1, e2]; show ([120] ++ Wd.varF 5 n ++ [121]).length ≤ 1048576; simp; omega
  · show _ = _
    rw [e1, e2, rvI_at [120] [121] n hn 1 rfl, Nat.add_comm]
    rfl

theorem short_facts (T : ByteArray) (h : T.size ≤ 300) : ∃ A : ByteArray, (⟨(Wd.varF 5 T.size).toArray⟩ : ByteArray) ++ T = A ∧ A.size = (Wd.varF 5 T.size).length + T.size ∧
    Hid (Wd.rvI A 0 = some (T.size, (Wd.varF 5 T.size).length)) ∧ Hid (A.extract (Wd.varF 5 T.size).length ((Wd.varF 5 T.size).length + T.size) = T) := by
  have e1 : (⟨(Wd.varF 5 T.size).toArray⟩ : ByteArray) ++ T = ⟨(Wd.varF 5 T.size ++ T.data.toList).toArray⟩ := by
    apply ByteArray.ext
    simp
  have hsz : (⟨(Wd.varF 5 T.size ++ T.data.toList).toArray⟩ : ByteArray).size = (Wd.varF 5 T.size).length + T.size := by
    show (Wd.varF 5 T.size ++ T.data.toList).length = _
    rw [List.length_append, Array.length_toList]
    rfl
  refine ⟨_, rfl, by rw [e1, hsz], ?_, ?_⟩
  · show _ = _
    have := rvI_at [] T.data.toList T.size (by omega) 0 rfl
    rw [e1]
    simpa using this
  · show _ = _
    rw [e1]
    apply ByteArray.ext
    apply Array.toList_inj.1
    rw [ByteArray.data_extract]
    simp only [Array.toList_extract, List.extract_eq_take_drop]
    rw [List.drop_left, Nat.add_sub_cancel_left]
    exact List.take_of_length_le (by rw [Array.length_toList]; exact Nat.le_refl _)

theorem hex_facts (T : ByteArray) (h : T.size ≤ 300) : ∃ X : ByteArray, (⟨(Wd.hexF T T.size).toArray⟩ : ByteArray) = X ∧ X.size ≤ 40000 ∧ X.size % 2 = 0 ∧ Hid (∀ p, p < X.size → Wd.isFig X 16 p) ∧ Hid ((⟨(Wd.unF X (X.size / 2)).toArray⟩ : ByteArray) = T) := by
  have hl : (⟨(Wd.hexF T T.size).toArray⟩ : ByteArray).size = 2 * T.size := Wd.hexF_length T T.size
  exact ⟨_, rfl, by rw [hl]; omega, by rw [hl]; omega, hex_figs T T.size, unhex_hex T⟩

set_option maxRecDepth 100000 in
set_option maxHeartbeats 4000000 in
theorem numbers_walk (w : World) (ao : Option Addr) (len cap : Nat) (hcode : Code w ao len) (hT : Lib.TabIs Tryd.prog w "internal/strconv.uint64pow10" .u64 Lib.pow10Tab) :
    Calls Tryd.prog 3 #[.slice ao len cap] w fun e w' => e = .returned (.bool true) ∧ Below w.heap.size w w' := by
  have HT := hide hT
  have HC := hide hcode
  clear hT hcode
  by_cases hlen : len ≤ 1048576
  · have hbig : decide (1048576 < (len : Int)) = false := by simp; omega
    go_enter Tryd.func3, Tryd.ntmps3
    go_wp2_with fail
    refine (big_any _ ao len cap).mono ?_
    rintro e w0 ⟨rfl, rfl⟩
    go_wp2_with fail
    refine (drawVar_any _ ao len cap hlen HC.out).mono ?_
    rintro e w2 ⟨z, rfl, hz0, hz1, b2⟩
    have B2 := hide b2
    clear b2
    by_cases hin : 0 ≤ z ∧ z ≤ 1000000000
    · obtain ⟨N, rfl⟩ := Int.eq_ofNat_of_zero_le hin.1
      have hN : N ≤ 1000000000 := by omega
      have hl0 : decide ((N : Int) < 0) = false := by simp
      have hl1 : decide (1000000000 < (N : Int)) = false := by simp; omega
      clear hin hz0 hz1
      obtain ⟨Y, Z, hY, hYs, hZ, hZs, HR⟩ := var_facts N hN
      have HV5 := hide (Wd.varF_length 5 N)
      have HG := hide (dec_good N hN)
      go_wp2_with fail
      refine (implVar_yes N _ hN).mono ?_
      rintro e w3 ⟨rfl, b3⟩
      have B3 := hide (B2.out.trans (b3.mono B2.out.size))
      clear b3
      generalize Wd.varF 5 N = V at hY hYs HR HV5 ⊢
      have hV5 : V.length ≤ 5 := HV5.out
      clear HV5
      go_wp2_with fail
      refine (implRead_some Z 1 _ N (V.length + 1) hZs HR.out).mono ?_
      rintro e w4 ⟨rfl, rfl⟩
      clear hY hYs hZ hZs HR
      go_wp2_with fail
      refine (implDec_any (N : Int) _ (by omega) (by omega) (tab_later B3.out HT.out)).mono ?_
      rintro e w5 ⟨rfl, b5⟩
      have B5 := hide (B3.out.trans (b5.mono B3.out.size))
      clear b5
      go_wp2_with fail
      refine (implDec_yes ⟨(Wd.decS (N : Int)).toArray⟩ _ HG.out.1).mono ?_
      rintro e w6 ⟨rfl, b6⟩
      rw [HG.out.2]
      have B6 := hide (B5.out.trans (b6.mono B5.out.size))
      clear b6 HG
      go_wp2_with fail
      refine (drawHex_any _ ao len cap hlen (code_keep HC.out B6.out)).mono ?_
      rintro e w7 ⟨l, rfl, hl, b7⟩
      have B7 := hide (B6.out.trans (b7.mono B6.out.size))
      clear b7
      by_cases hl3 : l.length ≤ 300
      · have hl3' : decide (300 < (l.length : Int)) = false := by simp; omega
        obtain ⟨T, hT, hTs⟩ : ∃ T : ByteArray, (⟨l.toArray⟩ : ByteArray) = T ∧ T.size ≤ 300 := ⟨_, rfl, hl3⟩
        have hl4' : decide (300 < (T.size : Int)) = false := by simp; omega
        rw [hT]
        clear hT hl
        obtain ⟨A, hA, hAsz, HA, HAx⟩ := short_facts T hTs
        have hAs : A.size ≤ 1048576 := by have := Wd.varF_length 5 T.size; omega
        have HL5 := hide (Wd.varF_length 5 T.size)
        go_wp2_with fail
        refine (implShort_yes T _ (by omega)).mono ?_
        rintro e w8 ⟨rfl, b8⟩
        have B8 := hide (B7.out.trans (b8.mono B7.out.size))
        clear b8
        rw [hA]
        clear hA
        generalize (Wd.varF 5 T.size).length = VL at hAsz HA HAx HL5
        go_wp2_with fail
        refine (implRShort_yes A 0 _ T.size VL hAs HA.out (by omega) (by omega)).mono ?_
        rintro e w9 ⟨rfl, b9⟩
        rw [HAx.out]
        have B9 := hide (B8.out.trans (b9.mono B8.out.size))
        clear b9 HA HAx
        go_wp2_with fail
        refine (implHex_yes T _ (by omega)).mono ?_
        rintro e w10 ⟨rfl, b10⟩
        have B10 := hide (B9.out.trans (b10.mono B9.out.size))
        clear b10
        obtain ⟨X, hX, hX4, hX2, HXf, HXu⟩ := hex_facts T hTs
        rw [hX]
        clear hX
        go_wp2_with fail
        refine (implUnhex_yes X _ hX4 hX2 HXf.out).mono ?_
        rintro e w11 ⟨rfl, b11⟩
        rw [HXu.out]
        have B11 := hide (B10.out.trans (b11.mono B10.out.size))
        clear b11 HXf HXu hX4 hX2
        have hself : (T.toList == T.toList) = true := beq_self_eq_true _
        have hnext : ((VL : Int) + (T.size : Int) == (A.size : Int)) = true := by rw [hAsz]; simp
        clear hAsz
        go_wp2
        go_ret
        exact ⟨rfl, B11.out⟩
      · have hl3' : decide (300 < (l.length : Int)) = true := by simp; omega
        obtain ⟨T, hT, hTs⟩ : ∃ T : ByteArray, (⟨#[97, 98, 99]⟩ : ByteArray) = T ∧ T.size ≤ 300 := ⟨_, rfl, by decide⟩
        obtain ⟨A, hA, hAsz, HA, HAx⟩ := short_facts T hTs
        have hAs : A.size ≤ 1048576 := by have := Wd.varF_length 5 T.size; omega
        have HL5 := hide (Wd.varF_length 5 T.size)
        go_wp2_with fail
        refine (implShort_yes T _ (by omega)).mono ?_
        rintro e w8 ⟨rfl, b8⟩
        have B8 := hide (B7.out.trans (b8.mono B7.out.size))
        clear b8
        rw [hA]
        clear hA
        generalize (Wd.varF 5 T.size).length = VL at hAsz HA HAx HL5
        go_wp2_with fail
        refine (implRShort_yes A 0 _ T.size VL hAs HA.out (by omega) (by omega)).mono ?_
        rintro e w9 ⟨rfl, b9⟩
        rw [HAx.out]
        have B9 := hide (B8.out.trans (b9.mono B8.out.size))
        clear b9 HA HAx
        go_wp2_with fail
        refine (implHex_yes T _ (by omega)).mono ?_
        rintro e w10 ⟨rfl, b10⟩
        have B10 := hide (B9.out.trans (b10.mono B9.out.size))
        clear b10
        obtain ⟨X, hX, hX4, hX2, HXf, HXu⟩ := hex_facts T hTs
        rw [hX]
        clear hX
        go_wp2_with fail
        refine (implUnhex_yes X _ hX4 hX2 HXf.out).mono ?_
        rintro e w11 ⟨rfl, b11⟩
        rw [HXu.out]
        have B11 := hide (B10.out.trans (b11.mono B10.out.size))
        clear b11 HXf HXu hX4 hX2
        have hself : (T.toList == T.toList) = true := beq_self_eq_true _
        have hnext : ((VL : Int) + (T.size : Int) == (A.size : Int)) = true := by rw [hAsz]; simp
        clear hAsz
        go_wp2
        go_ret
        exact ⟨rfl, B11.out⟩
    · have hlo : (decide (z < 0) || decide (1000000000 < z)) = true := by simp; omega
      obtain ⟨N, hNe, hN⟩ : ∃ N : Nat, (12345 : Int) = (N : Int) ∧ N ≤ 1000000000 := ⟨12345, rfl, by decide⟩
      by_cases hneg : z < 0
      · have hl0 : decide (z < 0) = true := by simp; omega
        clear hin hlo hz0 hz1
        obtain ⟨Y, Z, hY, hYs, hZ, hZs, HR⟩ := var_facts N hN
        have HV5 := hide (Wd.varF_length 5 N)
        have HG := hide (dec_good N hN)
        go_wp2_with fail
        refine (implVar_yes N _ hN).mono ?_
        rintro e w3 ⟨rfl, b3⟩
        have B3 := hide (B2.out.trans (b3.mono B2.out.size))
        clear b3
        generalize Wd.varF 5 N = V at hY hYs HR HV5 ⊢
        have hV5 : V.length ≤ 5 := HV5.out
        clear HV5
        go_wp2_with fail
        refine (implRead_some Z 1 _ N (V.length + 1) hZs HR.out).mono ?_
        rintro e w4 ⟨rfl, rfl⟩
        clear hY hYs hZ hZs HR
        go_wp2_with fail
        refine (implDec_any (N : Int) _ (by omega) (by omega) (tab_later B3.out HT.out)).mono ?_
        rintro e w5 ⟨rfl, b5⟩
        have B5 := hide (B3.out.trans (b5.mono B3.out.size))
        clear b5
        go_wp2_with fail
        refine (implDec_yes ⟨(Wd.decS (N : Int)).toArray⟩ _ HG.out.1).mono ?_
        rintro e w6 ⟨rfl, b6⟩
        rw [HG.out.2]
        have B6 := hide (B5.out.trans (b6.mono B5.out.size))
        clear b6 HG
        go_wp2_with fail
        refine (drawHex_any _ ao len cap hlen (code_keep HC.out B6.out)).mono ?_
        rintro e w7 ⟨l, rfl, hl, b7⟩
        have B7 := hide (B6.out.trans (b7.mono B6.out.size))
        clear b7
        by_cases hl3 : l.length ≤ 300
        · have hl3' : decide (300 < (l.length : Int)) = false := by simp; omega
          obtain ⟨T, hT, hTs⟩ : ∃ T : ByteArray, (⟨l.toArray⟩ : ByteArray) = T ∧ T.size ≤ 300 := ⟨_, rfl, hl3⟩
          have hl4' : decide (300 < (T.size : Int)) = false := by simp; omega
          rw [hT]
          clear hT hl
          obtain ⟨A, hA, hAsz, HA, HAx⟩ := short_facts T hTs
          have hAs : A.size ≤ 1048576 := by have := Wd.varF_length 5 T.size; omega
          have HL5 := hide (Wd.varF_length 5 T.size)
          go_wp2_with fail
          refine (implShort_yes T _ (by omega)).mono ?_
          rintro e w8 ⟨rfl, b8⟩
          have B8 := hide (B7.out.trans (b8.mono B7.out.size))
          clear b8
          rw [hA]
          clear hA
          generalize (Wd.varF 5 T.size).length = VL at hAsz HA HAx HL5
          go_wp2_with fail
          refine (implRShort_yes A 0 _ T.size VL hAs HA.out (by omega) (by omega)).mono ?_
          rintro e w9 ⟨rfl, b9⟩
          rw [HAx.out]
          have B9 := hide (B8.out.trans (b9.mono B8.out.size))
          clear b9 HA HAx
          go_wp2_with fail
          refine (implHex_yes T _ (by omega)).mono ?_
          rintro e w10 ⟨rfl, b10⟩
          have B10 := hide (B9.out.trans (b10.mono B9.out.size))
          clear b10
          obtain ⟨X, hX, hX4, hX2, HXf, HXu⟩ := hex_facts T hTs
          rw [hX]
          clear hX
          go_wp2_with fail
          refine (implUnhex_yes X _ hX4 hX2 HXf.out).mono ?_
          rintro e w11 ⟨rfl, b11⟩
          rw [HXu.out]
          have B11 := hide (B10.out.trans (b11.mono B10.out.size))
          clear b11 HXf HXu hX4 hX2
          have hself : (T.toList == T.toList) = true := beq_self_eq_true _
          have hnext : ((VL : Int) + (T.size : Int) == (A.size : Int)) = true := by rw [hAsz]; simp
          clear hAsz
          go_wp2
          go_ret
          exact ⟨rfl, B11.out⟩
        · have hl3' : decide (300 < (l.length : Int)) = true := by simp; omega
          obtain ⟨T, hT, hTs⟩ : ∃ T : ByteArray, (⟨#[97, 98, 99]⟩ : ByteArray) = T ∧ T.size ≤ 300 := ⟨_, rfl, by decide⟩
          obtain ⟨A, hA, hAsz, HA, HAx⟩ := short_facts T hTs
          have hAs : A.size ≤ 1048576 := by have := Wd.varF_length 5 T.size; omega
          have HL5 := hide (Wd.varF_length 5 T.size)
          go_wp2_with fail
          refine (implShort_yes T _ (by omega)).mono ?_
          rintro e w8 ⟨rfl, b8⟩
          have B8 := hide (B7.out.trans (b8.mono B7.out.size))
          clear b8
          rw [hA]
          clear hA
          generalize (Wd.varF 5 T.size).length = VL at hAsz HA HAx HL5
          go_wp2_with fail
          refine (implRShort_yes A 0 _ T.size VL hAs HA.out (by omega) (by omega)).mono ?_
          rintro e w9 ⟨rfl, b9⟩
          rw [HAx.out]
          have B9 := hide (B8.out.trans (b9.mono B8.out.size))
          clear b9 HA HAx
          go_wp2_with fail
          refine (implHex_yes T _ (by omega)).mono ?_
          rintro e w10 ⟨rfl, b10⟩
          have B10 := hide (B9.out.trans (b10.mono B9.out.size))
          clear b10
          obtain ⟨X, hX, hX4, hX2, HXf, HXu⟩ := hex_facts T hTs
          rw [hX]
          clear hX
          go_wp2_with fail
          refine (implUnhex_yes X _ hX4 hX2 HXf.out).mono ?_
          rintro e w11 ⟨rfl, b11⟩
          rw [HXu.out]
          have B11 := hide (B10.out.trans (b11.mono B10.out.size))
          clear b11 HXf HXu hX4 hX2
          have hself : (T.toList == T.toList) = true := beq_self_eq_true _
          have hnext : ((VL : Int) + (T.size : Int) == (A.size : Int)) = true := by rw [hAsz]; simp
          clear hAsz
          go_wp2
          go_ret
          exact ⟨rfl, B11.out⟩
      · have hl0 : decide (z < 0) = false := by simp; omega
        have hl1 : decide (1000000000 < z) = true := by simp; omega
        clear hin hlo hz0 hz1
        obtain ⟨Y, Z, hY, hYs, hZ, hZs, HR⟩ := var_facts N hN
        have HV5 := hide (Wd.varF_length 5 N)
        have HG := hide (dec_good N hN)
        go_wp2_with fail
        refine (implVar_yes N _ hN).mono ?_
        rintro e w3 ⟨rfl, b3⟩
        have B3 := hide (B2.out.trans (b3.mono B2.out.size))
        clear b3
        generalize Wd.varF 5 N = V at hY hYs HR HV5 ⊢
        have hV5 : V.length ≤ 5 := HV5.out
        clear HV5
        go_wp2_with fail
        refine (implRead_some Z 1 _ N (V.length + 1) hZs HR.out).mono ?_
        rintro e w4 ⟨rfl, rfl⟩
        clear hY hYs hZ hZs HR
        go_wp2_with fail
        refine (implDec_any (N : Int) _ (by omega) (by omega) (tab_later B3.out HT.out)).mono ?_
        rintro e w5 ⟨rfl, b5⟩
        have B5 := hide (B3.out.trans (b5.mono B3.out.size))
        clear b5
        go_wp2_with fail
        refine (implDec_yes ⟨(Wd.decS (N : Int)).toArray⟩ _ HG.out.1).mono ?_
        rintro e w6 ⟨rfl, b6⟩
        rw [HG.out.2]
        have B6 := hide (B5.out.trans (b6.mono B5.out.size))
        clear b6 HG
        go_wp2_with fail
        refine (drawHex_any _ ao len cap hlen (code_keep HC.out B6.out)).mono ?_
        rintro e w7 ⟨l, rfl, hl, b7⟩
        have B7 := hide (B6.out.trans (b7.mono B6.out.size))
        clear b7
        by_cases hl3 : l.length ≤ 300
        · have hl3' : decide (300 < (l.length : Int)) = false := by simp; omega
          obtain ⟨T, hT, hTs⟩ : ∃ T : ByteArray, (⟨l.toArray⟩ : ByteArray) = T ∧ T.size ≤ 300 := ⟨_, rfl, hl3⟩
          have hl4' : decide (300 < (T.size : Int)) = false := by simp; omega
          rw [hT]
          clear hT hl
          obtain ⟨A, hA, hAsz, HA, HAx⟩ := short_facts T hTs
          have hAs : A.size ≤ 1048576 := by have := Wd.varF_length 5 T.size; omega
          have HL5 := hide (Wd.varF_length 5 T.size)
          go_wp2_with fail
          refine (implShort_yes T _ (by omega)).mono ?_
          rintro e w8 ⟨rfl, b8⟩
          have B8 := hide (B7.out.trans (b8.mono B7.out.size))
          clear b8
          rw [hA]
          clear hA
          generalize (Wd.varF 5 T.size).length = VL at hAsz HA HAx HL5
          go_wp2_with fail
          refine (implRShort_yes A 0 _ T.size VL hAs HA.out (by omega) (by omega)).mono ?_
          rintro e w9 ⟨rfl, b9⟩
          rw [HAx.out]
          have B9 := hide (B8.out.trans (b9.mono B8.out.size))
          clear b9 HA HAx
          go_wp2_with fail
          refine (implHex_yes T _ (by omega)).mono ?_
          rintro e w10 ⟨rfl, b10⟩
          have B10 := hide (B9.out.trans (b10.mono B9.out.size))
          clear b10
          obtain ⟨X, hX, hX4, hX2, HXf, HXu⟩ := hex_facts T hTs
          rw [hX]
          clear hX
          go_wp2_with fail
          refine (implUnhex_yes X _ hX4 hX2 HXf.out).mono ?_
          rintro e w11 ⟨rfl, b11⟩
          rw [HXu.out]
          have B11 := hide (B10.out.trans (b11.mono B10.out.size))
          clear b11 HXf HXu hX4 hX2
          have hself : (T.toList == T.toList) = true := beq_self_eq_true _
          have hnext : ((VL : Int) + (T.size : Int) == (A.size : Int)) = true := by rw [hAsz]; simp
          clear hAsz
          go_wp2
          go_ret
          exact ⟨rfl, B11.out⟩
        · have hl3' : decide (300 < (l.length : Int)) = true := by simp; omega
          obtain ⟨T, hT, hTs⟩ : ∃ T : ByteArray, (⟨#[97, 98, 99]⟩ : ByteArray) = T ∧ T.size ≤ 300 := ⟨_, rfl, by decide⟩
          obtain ⟨A, hA, hAsz, HA, HAx⟩ := short_facts T hTs
          have hAs : A.size ≤ 1048576 := by have := Wd.varF_length 5 T.size; omega
          have HL5 := hide (Wd.varF_length 5 T.size)
          go_wp2_with fail
          refine (implShort_yes T _ (by omega)).mono ?_
          rintro e w8 ⟨rfl, b8⟩
          have B8 := hide (B7.out.trans (b8.mono B7.out.size))
          clear b8
          rw [hA]
          clear hA
          generalize (Wd.varF 5 T.size).length = VL at hAsz HA HAx HL5
          go_wp2_with fail
          refine (implRShort_yes A 0 _ T.size VL hAs HA.out (by omega) (by omega)).mono ?_
          rintro e w9 ⟨rfl, b9⟩
          rw [HAx.out]
          have B9 := hide (B8.out.trans (b9.mono B8.out.size))
          clear b9 HA HAx
          go_wp2_with fail
          refine (implHex_yes T _ (by omega)).mono ?_
          rintro e w10 ⟨rfl, b10⟩
          have B10 := hide (B9.out.trans (b10.mono B9.out.size))
          clear b10
          obtain ⟨X, hX, hX4, hX2, HXf, HXu⟩ := hex_facts T hTs
          rw [hX]
          clear hX
          go_wp2_with fail
          refine (implUnhex_yes X _ hX4 hX2 HXf.out).mono ?_
          rintro e w11 ⟨rfl, b11⟩
          rw [HXu.out]
          have B11 := hide (B10.out.trans (b11.mono B10.out.size))
          clear b11 HXf HXu hX4 hX2
          have hself : (T.toList == T.toList) = true := beq_self_eq_true _
          have hnext : ((VL : Int) + (T.size : Int) == (A.size : Int)) = true := by rw [hAsz]; simp
          clear hAsz
          go_wp2
          go_ret
          exact ⟨rfl, B11.out⟩
  · have hbig : decide (1048576 < (len : Int)) = true := by simp; omega
    go_enter Tryd.func3, Tryd.ntmps3
    go_wp2_with fail
    refine (big_any _ ao len cap).mono ?_
    rintro e w0 ⟨rfl, rfl⟩
    go_wp2
    go_ret
    exact ⟨rfl, Below.refl _ _⟩
end Go.Proofs.YtaalegphjemknaaDoor
