/- The law FnHints: a drawn right directory comes back from its hint; drawn bytes that are one are the bytes of it. -/
import Derived.Test.YtijmlgdeeodehabDoorHds
import Derived.Test.YtijmlgdeeodehabDoorHintI1
import Derived.Test.YtijmlgdeeodehabDoorHintJ
import Derived.Test.YtijmlgdeeodehabDoorDraws
namespace Go.Proofs.YtijmlgdeeodehabDoor
open Go.RowKit

theorem hint_again {t : ByteArray} (h : hintOk t = true) : hintD (hintDir t) = t := by
  unfold hintDir
  rw [if_pos h]
  unfold hintOk at h
  simp only [Bool.and_eq_true, decide_eq_true_eq] at h
  exact h.2.2
theorem hintDir_keys (t : ByteArray) : ∀ A ∈ hintDir t, A.key.size ≤ 1048576 := by
  intro A hA
  cases h : hintOk t with
  | false => unfold hintDir at hA; rw [h] at hA; exact absurd hA List.not_mem_nil
  | true =>
    have hd : dirOkD (hintDir t) = true := by
      have h' := h
      unfold hintOk at h'
      simp only [Bool.and_eq_true] at h'
      unfold hintDir
      rw [if_pos h]
      exact h'.2.1
    have := (dirOkD_all hd).2 A hA
    omega
theorem hint_empty : hintOk ⟨#[]⟩ = false ∧ hintDir ⟨#[]⟩ = [] := hint_no (fun h => by unfold unsOk at h; simp only [decide_eq_true_eq] at h; exact absurd h.1 (by decide))

theorem txtk (a : ByteArray) : (a.toList == a.toList) = true := beq_self_eq_true _
set_option maxRecDepth 100000 in
set_option maxHeartbeats 8000000 in
theorem hints_walk (w : World) (ao : Option Addr) (len cap : Nat) (hcode : len ≤ 1048576 → Code w ao len) (hT : SumTab w) :
    Calls Tryd.prog 4 #[.slice ao len cap] w fun e w' => e = .returned (.bool true) ∧ Below w.heap.size w w' := by
  have HT := hide hT
  clear hT
  by_cases hlen : len ≤ 1048576
  case neg =>
    have hbig : decide (1048576 < (len : Int)) = true := by simp; omega
    go_enter Tryd.func4, Tryd.ntmps4
    go_wp2_with fail
    refine (big_any _ ao len cap).mono ?_
    rintro e w0 ⟨rfl, rfl⟩
    go_wp2
    go_ret
    exact ⟨rfl, Below.refl _ _⟩
  have hbig : decide (1048576 < (len : Int)) = false := by simp; omega
  have HC := hide (hcode hlen)
  clear hcode
  go_enter Tryd.func4, Tryd.ntmps4
  go_wp2_with fail
  refine (big_any _ ao len cap).mono ?_
  rintro e w0 ⟨rfl, hw0⟩
  obtain rfl := hw0.symm
  go_wp2_with fail
  refine (drawHintText_any _ ao len cap hlen HC.out).mono ?_
  rintro e w1 ⟨a1, c1, L, rfl, s1, hl, hk, b1⟩
  have S1 := hide s1
  have HK := hide hk
  have B1 := hide b1
  have T1 := hide (sumTab_later B1.out HT.out)
  clear s1 hk b1
  have HI := hide (fun W hW hT => implHintText_any L a1 c1 W hl hW (fun A hA => by have := HK.out A hA; omega) hT)
  have HS := hide (fun W hW => specHintText_any L a1 c1 W hl hW (fun A hA => by have := HK.out A hA; omega))
  have hxz := hintD_size L
  have HR := hide (fun W hT => implReadHint_any (hintD L) W (by omega) hT)
  have HT2 : Hid (dirOkD L = true → hintOk (hintD L) = true ∧ hintDir (hintD L) = L) := fun h => hint_back h
  have HT3 : Hid (dirOkD L = false → hintOk (hintD L) = false ∧ hintDir (hintD L) = []) := fun h => by
    have : hintD L = ⟨#[]⟩ := by unfold hintD; rw [h]; rfl
    rw [this]
    exact hint_empty
  have FIN : Hid (∀ W : World, Below w.heap.size w W → SumTab W) := fun W hW => sumTab_later hW HT.out
  generalize hintD L = X at HI HS HR HT2 HT3 hxz
  cases hok : dirOkD L with
  | true =>
    obtain ⟨k1, k2⟩ := HT2.out hok
    rw [hok] at HI HS
    rw [k1, k2] at HR
    clear hok k1 k2 HT2 HT3
    have hq3 : (!((L.length : Int) == (L.length : Int))) = false := by simp
    go_wp2_with fail
    refine (HI.out _ S1.out T1.out).mono ?_
    rintro e w2 ⟨rfl, b2⟩
    have B2 := hide (B1.out.trans (b2.mono B1.out.size))
    have S2 := hide (spotsAt_keep S1.out b2)
    clear b2
    go_wp2_with fail
    refine (HR.out _ (FIN.out _ B2.out)).mono ?_
    rintro e w3 ⟨⟨v3, rfl, r3⟩, b3⟩
    obtain ⟨a3, c3, rfl, hr3⟩ := rowSpot_at r3
    have R3 := hide hr3
    have S3 := hide (spotsAt_keep S2.out b3)
    have B3 := hide (B2.out.trans (b3.mono B2.out.size))
    clear b3 r3 hr3
    go_wp2_with fail
    refine (HS.out _ S3.out).mono ?_
    rintro e w4 ⟨rfl, b4⟩
    have R4 := hide (spotsAt_keep R3.out b4)
    have S4 := hide (spotsAt_keep S3.out b4)
    have B4 := hide (B3.out.trans (b4.mono B3.out.size))
    clear b4
    go_wp2_with fail
    go_loopw [10] (fun vi wr => ∃ i : Nat, vi = .int .i64 (i : Int) ∧ i ≤ L.length ∧ Hid (Below w4.heap.size w4 wr)) (fun vi _ => L.length - (intOf vi).toNat)
    case atStart => exact ⟨0, rfl, Nat.zero_le _, Below.refl _ _⟩
    case round =>
      obtain ⟨i, rfl, hi, HBW⟩ := hrel
      by_cases hlt : i < L.length
      · have hlt' : decide ((i : Int) < (L.length : Int)) = true := by simp; omega
        have hi0 : (0 : Int) ≤ (i : Int) := by omega
        have hi1 : (i : Int) < (L.length : Int) := by omega
        obtain ⟨b, off, rfl, hbw, hd0, hd1, hd2, hd3⟩ := spotsAt_keep R4.out HBW.out i hlt
        obtain ⟨b', off', rfl, hbw', he0, he1, he2, he3⟩ := spotsAt_keep S4.out HBW.out i hlt
        have htk := txtk L[i].key
        have hcmp : ∀ z : Int, (z == z) = true := fun z => beq_self_eq_true z
        generalize L[i] = A at hd0 hd1 hd2 hd3 he0 he1 he2 he3 htk
        go_wp2_with fail
        go_quiet (fail)
        go_wp2_with fail
        go_roundw
        case rel => exact ⟨i + 1, by go_num, by omega, HBW.out.trans ((drewN_below _ _).mono HBW.out.size)⟩
        case measure => simp [intOf]; omega
      · have hlt' : decide ((i : Int) < (L.length : Int)) = false := by simp; omega
        have B4 := hide (B4.out.trans (HBW.out.mono B4.out.size))
        go_wp2_with fail
        refine (drawReadHint_any _ ao len cap hlen (code_keep HC.out B4.out)).mono ?_
        rintro e w5 ⟨t, rfl, ht, b5⟩
        have B5 := hide (B4.out.trans (b5.mono B4.out.size))
        clear b5
        have CR := hide (fun W hT => implReadHint_any t W (by omega) hT)
        have CS := hide (fun W => specReadHint_any t W (by omega))
        have hdl := hintDir_len t
        have HDK := hide (hintDir_keys t)
        have HAG : Hid (hintOk t = true → hintD (hintDir t) = t) := fun h => hint_again h
        go_wp2_with fail
        refine (CR.out _ (FIN.out _ B5.out)).mono ?_
        rintro e w6 ⟨⟨v6, rfl, r6⟩, b6⟩
        obtain ⟨a6, c6, rfl, hr6⟩ := rowSpot_at r6
        have R6 := hide hr6
        have B6 := hide (B5.out.trans (b6.mono B5.out.size))
        clear b6 r6 hr6
        go_wp2_with fail
        refine (CS.out _).mono ?_
        rintro e w7 ⟨⟨v7, rfl, r7⟩, b7⟩
        obtain ⟨a7, c7, rfl, -⟩ := rowSpot_at r7
        have R7 := hide (spotsAt_keep R6.out b7)
        have B7 := hide (B6.out.trans (b7.mono B6.out.size))
        clear b7 r7
        have CH := hide (implHintText_any (hintDir t) a6 c6 w7 (by omega) R7.out HDK.out (FIN.out _ B7.out))
        generalize hintDir t = D at CH hdl HDK HAG R6 R7
        generalize hintD D = Y at CH HAG
        go_wp2_with fail
        refine CH.out.mono ?_
        rintro e w8 ⟨rfl, b8⟩
        have B8 := hide (B7.out.trans (b8.mono B7.out.size))
        clear b8
        cases hk : hintOk t with
        | true =>
          have hY : Y = t := HAG.out hk
          have hYt : (Y.toList == t.toList) = true := by rw [hY]; exact beq_self_eq_true _
          go_wp2
          go_ret
          exact ⟨rfl, B8.out⟩
        | false =>
          go_wp2
          go_ret
          exact ⟨rfl, B8.out⟩
  | false =>
    obtain ⟨k1, k2⟩ := HT3.out hok
    rw [hok] at HI HS
    rw [k1, k2] at HR
    clear hok k1 k2 HT2 HT3
    go_wp2_with fail
    refine (HI.out _ S1.out T1.out).mono ?_
    rintro e w2 ⟨rfl, b2⟩
    have B2 := hide (B1.out.trans (b2.mono B1.out.size))
    have S2 := hide (spotsAt_keep S1.out b2)
    clear b2
    go_wp2_with fail
    refine (HR.out _ (FIN.out _ B2.out)).mono ?_
    rintro e w3 ⟨⟨v3, rfl, r3⟩, b3⟩
    obtain ⟨a3, c3, rfl, hr3⟩ := rowSpot_at r3
    have R3 := hide hr3
    have S3 := hide (spotsAt_keep S2.out b3)
    have B3 := hide (B2.out.trans (b3.mono B2.out.size))
    clear b3 r3 hr3
    go_wp2_with fail
    refine (HS.out _ S3.out).mono ?_
    rintro e w4 ⟨rfl, b4⟩
    have R4 := hide (spotsAt_keep R3.out b4)
    have S4 := hide (spotsAt_keep S3.out b4)
    have B4 := hide (B3.out.trans (b4.mono B3.out.size))
    clear b4
    go_wp2_with fail
    go_loopw [10] (fun vi wr => vi = .int .i64 0 ∧ wr = w4) (fun _ _ => 0)
    case atStart => exact ⟨rfl, rfl⟩
    case round =>
      obtain ⟨rfl, hwr⟩ := hrel
      subst hwr
      go_wp2_with fail
      refine (drawReadHint_any _ ao len cap hlen (code_keep HC.out B4.out)).mono ?_
      rintro e w5 ⟨t, rfl, ht, b5⟩
      have B5 := hide (B4.out.trans (b5.mono B4.out.size))
      clear b5
      have CR := hide (fun W hT => implReadHint_any t W (by omega) hT)
      have CS := hide (fun W => specReadHint_any t W (by omega))
      have hdl := hintDir_len t
      have HDK := hide (hintDir_keys t)
      have HAG : Hid (hintOk t = true → hintD (hintDir t) = t) := fun h => hint_again h
      go_wp2_with fail
      refine (CR.out _ (FIN.out _ B5.out)).mono ?_
      rintro e w6 ⟨⟨v6, rfl, r6⟩, b6⟩
      obtain ⟨a6, c6, rfl, hr6⟩ := rowSpot_at r6
      have R6 := hide hr6
      have B6 := hide (B5.out.trans (b6.mono B5.out.size))
      clear b6 r6 hr6
      go_wp2_with fail
      refine (CS.out _).mono ?_
      rintro e w7 ⟨⟨v7, rfl, r7⟩, b7⟩
      obtain ⟨a7, c7, rfl, -⟩ := rowSpot_at r7
      have R7 := hide (spotsAt_keep R6.out b7)
      have B7 := hide (B6.out.trans (b7.mono B6.out.size))
      clear b7 r7
      have CH := hide (implHintText_any (hintDir t) a6 c6 w7 (by omega) R7.out HDK.out (FIN.out _ B7.out))
      generalize hintDir t = D at CH hdl HDK HAG R6 R7
      generalize hintD D = Y at CH HAG
      go_wp2_with fail
      refine CH.out.mono ?_
      rintro e w8 ⟨rfl, b8⟩
      have B8 := hide (B7.out.trans (b8.mono B7.out.size))
      clear b8
      cases hk : hintOk t with
      | true =>
        have hY : Y = t := HAG.out hk
        have hYt : (Y.toList == t.toList) = true := by rw [hY]; exact beq_self_eq_true _
        go_wp2
        go_ret
        exact ⟨rfl, B8.out⟩
      | false =>
        go_wp2
        go_ret
        exact ⟨rfl, B8.out⟩
end Go.Proofs.YtijmlgdeeodehabDoor
