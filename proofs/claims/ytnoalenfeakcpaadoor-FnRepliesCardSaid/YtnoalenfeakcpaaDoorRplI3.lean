/- The program's reader of replies: texts with their length, arrays, replies. -/
import Derived.Test.YtnoalenfeakcpaaDoorRplI2
namespace Go.Proofs.YtnoalenfeakcpaaDoor
open Go.RowKit

/-- The number on the line from a place on. -/
def numO (s : ByteArray) (i : Nat) : Option Int := if s.size ≤ crE s i then none else valI (s.extract i (crE s i))
theorem numO_bnd {s : ByteArray} {i : Nat} {v : Int} (h : numO s i = some v) : crE s i < s.size ∧ -9223372036854775808 ≤ v ∧ v ≤ 9223372036854775807 := by
  unfold numO at h
  split at h
  · cases h
  · refine ⟨by omega, ?_⟩
    unfold valI at h
    split at h
    · rename_i u hu
      split at h
      · obtain rfl : u = v := by simpa using h
        exact Lib.atoiAll_bounds hu
      · cases h
    · cases h
    · cases h

set_option maxRecDepth 100000 in
theorem numberR_yes (w0 w : World) (g : Nat) (s : ByteArray) (i : Nat) (v : Int) (hz : s.size ≤ 1048576) (hi : i ≤ s.size) (hn : numO s i = some v) (hv : RVars w0) (h : RS w0 w g s i) :
    Calls Tryd.prog 39 #[.pointer (some ⟨g, 0, none⟩)] w fun e w' => e = .returned (.tuple #[.int .i64 v, .bool true]) ∧ RS w0 w' g s (crE s i + 2) := by
  have he := (numO_bnd hn).1
  have hV : valI (s.extract i (crE s i)) = some v := by unfold numO at hn; rw [if_neg (by omega)] at hn; exact hn
  have HU := hide (upTo_yes w0 w g s i hz hi he hv h)
  have HW := hide (fun W (hW : RVars W) => whole_some (s.extract i (crE s i)) v W (by rw [ByteArray.size_extract]; have := crE_le s i; omega) hV hW)
  have HV := hide hv
  generalize s.extract i (crE s i) = T at HU HW
  clear hV hn he hv h
  go_enter Tryd.func39, Tryd.ntmps39
  go_wp2_with fail
  refine (HU.out).mono ?_
  rintro e w1 ⟨rfl, hp1⟩
  have HP1 := hide hp1
  clear hp1
  go_wp2_with fail
  refine (HW.out _ (rvars_from HP1.out HV.out)).mono ?_
  rintro e w2 ⟨rfl, b2⟩
  have HP2 := hide (rs_below HP1.out b2)
  clear b2
  go_wp2
  go_ret2
  exact ⟨rfl, HP2.out⟩
set_option maxRecDepth 100000 in
theorem numberR_no (w0 w : World) (g : Nat) (s : ByteArray) (i : Nat) (hz : s.size ≤ 1048576) (hi : i ≤ s.size) (hn : numO s i = none) (hv : RVars w0) (h : RS w0 w g s i) :
    Calls Tryd.prog 39 #[.pointer (some ⟨g, 0, none⟩)] w fun e w' => e = .returned (.tuple #[.int .i64 0, .bool false]) ∧ ∃ j, j ≤ s.size ∧ RS w0 w' g s j := by
  by_cases he : s.size ≤ crE s i
  · have HU := hide (upTo_no w0 w g s i hz hi he hv h)
    generalize s.extract i s.size = T at HU
    clear hn he hv h
    go_enter Tryd.func39, Tryd.ntmps39
    go_wp2_with fail
    refine (HU.out).mono ?_
    rintro e w1 ⟨rfl, hp1⟩
    have HP1 := hide hp1
    clear hp1
    go_wp2
    go_ret2
    exact ⟨rfl, i, hi, HP1.out⟩
  · have hV : valI (s.extract i (crE s i)) = none := by unfold numO at hn; rw [if_neg he] at hn; exact hn
    have HU := hide (upTo_yes w0 w g s i hz hi (by omega) hv h)
    have HW := hide (fun W (hW : RVars W) => whole_none (s.extract i (crE s i)) W (by rw [ByteArray.size_extract]; have := crE_le s i; omega) hV hW)
    have HV := hide hv
    have hle : crE s i + 2 ≤ s.size := by have := (crE_facts (show crE s i < s.size by omega)).2.1; omega
    generalize s.extract i (crE s i) = T at HU HW
    clear hV hn he hv h
    go_enter Tryd.func39, Tryd.ntmps39
    go_wp2_with fail
    refine (HU.out).mono ?_
    rintro e w1 ⟨rfl, hp1⟩
    have HP1 := hide hp1
    clear hp1
    go_wp2_with fail
    refine (HW.out _ (rvars_from HP1.out HV.out)).mono ?_
    rintro e w2 ⟨rfl, b2⟩
    have HP2 := hide (rs_below HP1.out b2)
    clear b2
    go_wp2
    go_ret2
    exact ⟨rfl, _, hle, HP2.out⟩

/-- What the reader leaves: whether the thing stands there, and then the place behind it. -/
def RPost (w0 : World) (g : Nat) (s : ByteArray) (o : Option Nat) (e : Ending) (w' : World) : Prop :=
  (∃ j, o = some j ∧ j ≤ s.size ∧ e = .returned (.bool true) ∧ RS w0 w' g s j) ∨ (o = none ∧ e = .returned (.bool false) ∧ ∃ j, j ≤ s.size ∧ RS w0 w' g s j)
theorem rpost_yes {w0 w' : World} {g : Nat} {s : ByteArray} {o : Option Nat} {j : Nat} (ho : o = some j) (hj : j ≤ s.size) (h : RS w0 w' g s j) : RPost w0 g s o (.returned (.bool true)) w' := .inl ⟨j, ho, hj, rfl, h⟩
theorem rpost_no {w0 w' : World} {g : Nat} {s : ByteArray} {o : Option Nat} {j : Nat} (ho : o = none) (hj : j ≤ s.size) (h : RS w0 w' g s j) : RPost w0 g s o (.returned (.bool false)) w' := .inr ⟨ho, rfl, j, hj, h⟩

def bulkR (s : ByteArray) (i : Nat) : Option Nat := match numO s i with | none => none | some v => if v < -1 then none else if v = -1 then some (crE s i + 2) else bulkE s (crE s i + 2) v.toNat

set_option maxRecDepth 100000 in
set_option maxHeartbeats 1000000 in
theorem bulkR_any (w0 w : World) (g : Nat) (s : ByteArray) (i : Nat) (hz : s.size ≤ 1048576) (hi : i ≤ s.size) (hv : RVars w0) (h : RS w0 w g s i) :
    Calls Tryd.prog 40 #[.pointer (some ⟨g, 0, none⟩)] w (RPost w0 g s (bulkR s i)) := by
  cases hn : numO s i with
  | none =>
    have HN := hide (numberR_no w0 w g s i hz hi hn hv h)
    have HR : Hid (bulkR s i = none) := by show _ = _; unfold bulkR; rw [hn]
    clear hn hv h
    generalize bulkR s i = R at HR
    go_enter Tryd.func40, Tryd.ntmps40
    go_wp2_with fail
    refine (HN.out).mono ?_
    rintro e w1 ⟨rfl, j, hj, hp1⟩
    have HP1 := hide hp1
    clear hp1
    go_wp2
    go_ret
    exact rpost_no HR.out hj HP1.out
  | some v =>
    have hb := numO_bnd hn
    have HN := hide (numberR_yes w0 w g s i v hz hi hn hv h)
    have hg2 := (crE_facts hb.1).2.1
    obtain ⟨p, hp⟩ : ∃ p, Hid (crE s i + 2 = p) := ⟨_, rfl⟩
    have hps : p ≤ s.size := by rw [← hp.out]; omega
    have HR : Hid (bulkR s i = if v < -1 then none else if v = -1 then some p else bulkE s p v.toNat) := by show _ = _; unfold bulkR; rw [hn, ← hp.out]
    rw [hp.out] at HN
    have hb1 := hb.2.1
    have hb2 := hb.2.2
    clear hn hv h hb hg2 hp
    generalize bulkR s i = R at HR
    by_cases h1 : v < -1
    · have h1' : decide (v < -1) = true := by simp; omega
      have HR2 : Hid (R = none) := by show _ = _; rw [HR.out, if_pos h1]
      go_enter Tryd.func40, Tryd.ntmps40
      go_wp2_with fail
      refine (HN.out).mono ?_
      rintro e w1 ⟨rfl, hp1⟩
      have HP1 := hide hp1
      clear hp1
      go_wp2
      go_ret
      exact rpost_no HR2.out hps HP1.out
    have h1' : decide (v < -1) = false := by simp; omega
    by_cases h2 : v = -1
    · have h2' : (v == -1) = true := by simpa using h2
      have HR2 : Hid (R = some p) := by show _ = _; rw [HR.out, if_neg h1, if_pos h2]
      clear h2
      go_enter Tryd.func40, Tryd.ntmps40
      go_wp2_with fail
      refine (HN.out).mono ?_
      rintro e w1 ⟨rfl, hp1⟩
      have HP1 := hide hp1
      clear hp1
      go_wp2
      go_ret
      exact rpost_yes HR2.out hps HP1.out
    have h2' : (v == -1) = false := by simpa using h2
    have HR2 : Hid (R = bulkE s p v.toNat) := by show _ = _; rw [HR.out, if_neg h1, if_neg h2]
    obtain ⟨n, rfl⟩ := Int.eq_ofNat_of_zero_le (show 0 ≤ v by omega)
    rw [show ((n : Nat) : Int).toNat = n from rfl] at HR2
    clear HR h1 h2
    by_cases h3 : s.size < p + n
    · have HR3 : Hid (R = none) := by show _ = _; rw [HR2.out]; unfold bulkE; rw [if_neg (by omega)]
      have h3' := hide h3
      clear h3
      go_enter Tryd.func40, Tryd.ntmps40
      go_wp2_with fail
      refine (HN.out).mono ?_
      rintro e w1 ⟨rfl, hp1⟩
      have HT := hide (takeR_no w0 w1 g s p n hz hps (by have := h3'.out; omega) hp1)
      clear hp1
      go_wp2_with fail
      refine (HT.out).mono ?_
      rintro e w2 ⟨rfl, hp2⟩
      have HP2 := hide hp2
      clear hp2
      go_wp2
      go_ret
      exact rpost_no HR3.out hps HP2.out
    have hpn : p + n ≤ s.size := by omega
    clear h3
    obtain ⟨X, HX⟩ : ∃ X, Hid (s.extract p (p + n) = X) := ⟨_, rfl⟩
    by_cases h4 : s.size < p + n + 2
    · have HR3 : Hid (R = none) := by show _ = _; rw [HR2.out]; unfold bulkE; rw [if_neg (by omega)]
      have h4' := hide h4
      clear h4
      go_enter Tryd.func40, Tryd.ntmps40
      go_wp2_with fail
      refine (HN.out).mono ?_
      rintro e w1 ⟨rfl, hp1⟩
      have HT := hide (takeR_yes w0 w1 g s p n hz hpn hp1)
      rw [HX.out] at HT
      clear hp1
      go_wp2_with fail
      refine (HT.out).mono ?_
      rintro e w2 ⟨rfl, hp2⟩
      have HT2 := hide (takeR_no w0 w2 g s (p + n) 2 hz hpn (by have := h4'.out; omega) hp2)
      clear hp2
      go_wp2_with fail
      refine (HT2.out).mono ?_
      rintro e w3 ⟨rfl, hp3⟩
      have HP3 := hide hp3
      clear hp3
      go_wp2
      go_ret
      exact rpost_no HR3.out hpn HP3.out
    have hpn2 : p + n + 2 ≤ s.size := by omega
    clear h4
    obtain ⟨Y, HY⟩ : ∃ Y, Hid (s.extract (p + n) (p + n + 2) = Y) := ⟨_, rfl⟩
    have hYz : Y.size = 2 := by rw [← HY.out, ByteArray.size_extract]; omega
    have hY0 : Wd.bt Y 0 = Wd.bt s (p + n) := by rw [← HY.out, bt_ex s _ _ 0 (by omega) hpn2, Nat.add_zero]
    have hY1 : Wd.bt Y 1 = Wd.bt s (p + n + 1) := by rw [← HY.out, bt_ex s _ _ 1 (by omega) hpn2]
    obtain ⟨b, hb, HQ⟩ : ∃ b : Bool, ((Y.toList == [13, 10]) = b) ∧ Hid (R = if b = true then some (p + n + 2) else none) := by
      refine ⟨_, rfl, ?_⟩
      show _ = _
      rw [HR2.out]
      unfold bulkE
      by_cases hc : Wd.bt s (p + n) = 13 ∧ Wd.bt s (p + n + 1) = 10
      · have e : Y = ⟨#[13, 10]⟩ := by
          refine bt_ext hYz fun q hq => ?_
          have hq' : q < 2 := hq
          rcases (show q = 0 ∨ q = 1 by omega) with rfl | rfl
          · rw [hY0, hc.1]; rfl
          · rw [hY1, hc.2]; rfl
        rw [if_pos ⟨hpn2, hc⟩, e, ByteArray.toList_eq]
        rfl
      · have e : ¬ (Y.toList == [13, 10]) = true := by
          intro e
          rw [beq_iff_eq, ByteArray.toList_eq] at e
          have e2 : Y = ⟨#[13, 10]⟩ := ByteArray.ext (Array.toList_inj.1 e)
          refine hc ⟨?_, ?_⟩
          · rw [← hY0, e2]; rfl
          · rw [← hY1, e2]; rfl
        rw [if_neg (fun hh => hc hh.2), if_neg e]
    clear hYz hY0 hY1
    go_enter Tryd.func40, Tryd.ntmps40
    go_wp2_with fail
    refine (HN.out).mono ?_
    rintro e w1 ⟨rfl, hp1⟩
    have HT := hide (takeR_yes w0 w1 g s p n hz hpn hp1)
    rw [HX.out] at HT
    clear hp1
    go_wp2_with fail
    refine (HT.out).mono ?_
    rintro e w2 ⟨rfl, hp2⟩
    have HT2 := hide (takeR_yes w0 w2 g s (p + n) 2 hz hpn2 hp2)
    rw [HY.out] at HT2
    clear hp2
    go_wp2_with fail
    refine (HT2.out).mono ?_
    rintro e w3 ⟨rfl, hp3⟩
    have HP3 := hide hp3
    clear hp3
    go_wp2
    go_ret
    cases b with
    | true => exact rpost_yes HQ.out hpn2 HP3.out
    | false => exact rpost_no HQ.out hpn2 HP3.out

/-- An array of replies: F tells where a reply in it ends (nothing may stand in it: none). -/
def arrR (s : ByteArray) (F : Option (Nat → Option Nat)) (i : Nat) : Option Nat := match numO s i with | none => none | some v => if v < 0 then none else match F with | none => none | some f => rpN f v.toNat (crE s i + 2)

set_option maxRecDepth 100000 in
set_option maxHeartbeats 1000000 in
theorem arrayR_any (w0 w : World) (g : Nat) (s : ByteArray) (i a : Nat) (F : Option (Nat → Option Nat)) (hz : s.size ≤ 1048576) (hi : i ≤ s.size) (ha : a ≤ 4) (hF : F = none ↔ a = 4)
    (IH : ∀ f, F = some f → ∀ W j, j ≤ s.size → RS w0 W g s j → Calls Tryd.prog 25 #[.pointer (some ⟨g, 0, none⟩), .int .i64 ((a : Int) + 1)] W (RPost w0 g s (f j))) (hv : RVars w0) (h : RS w0 w g s i) :
    Calls Tryd.prog 41 #[.pointer (some ⟨g, 0, none⟩), .int .i64 (a : Int)] w (RPost w0 g s (arrR s F i)) := by
  cases hn : numO s i with
  | none =>
    have HN := hide (numberR_no w0 w g s i hz hi hn hv h)
    have HR : Hid (arrR s F i = none) := by show _ = _; unfold arrR; rw [hn]
    clear hn hv h IH
    generalize arrR s F i = R at HR
    go_enter Tryd.func41, Tryd.ntmps41
    go_wp2_with fail
    refine (HN.out).mono ?_
    rintro e w1 ⟨rfl, j, hj, hp1⟩
    have HP1 := hide hp1
    clear hp1
    go_wp2
    go_ret
    exact rpost_no HR.out hj HP1.out
  | some v =>
    have hb := numO_bnd hn
    have HN := hide (numberR_yes w0 w g s i v hz hi hn hv h)
    have hg2 := (crE_facts hb.1).2.1
    obtain ⟨p, hp⟩ : ∃ p, Hid (crE s i + 2 = p) := ⟨_, rfl⟩
    have hps : p ≤ s.size := by rw [← hp.out]; omega
    have HR : Hid (arrR s F i = if v < 0 then none else match F with | none => none | some f => rpN f v.toNat p) := by show _ = _; unfold arrR; rw [hn, ← hp.out]
    rw [hp.out] at HN
    have hb1 := hb.2.1
    have hb2 := hb.2.2
    clear hn hv h hb hg2 hp
    generalize arrR s F i = R at HR
    by_cases h1 : v < 0
    · have h1' : decide (v < 0) = true := by simp; omega
      have HR2 : Hid (R = none) := by show _ = _; rw [HR.out, if_pos h1]
      clear IH
      go_enter Tryd.func41, Tryd.ntmps41
      go_wp2_with fail
      refine (HN.out).mono ?_
      rintro e w1 ⟨rfl, hp1⟩
      have HP1 := hide hp1
      clear hp1
      go_wp2
      go_ret
      exact rpost_no HR2.out hps HP1.out
    have h1' : decide (v < 0) = false := by simp; omega
    cases hFF : F with
    | none =>
      have h4 : ((a : Int) == 4) = true := by have := hF.1 hFF; simp; omega
      have HR2 : Hid (R = none) := by show _ = _; rw [HR.out, if_neg h1, hFF]
      clear IH hF
      go_enter Tryd.func41, Tryd.ntmps41
      go_wp2_with fail
      refine (HN.out).mono ?_
      rintro e w1 ⟨rfl, hp1⟩
      have HP1 := hide hp1
      clear hp1
      go_wp2
      go_ret
      exact rpost_no HR2.out hps HP1.out
    | some f =>
      have h4n : a ≠ 4 := fun e => by have := hF.2 e; rw [hFF] at this; cases this
      have h4 : ((a : Int) == 4) = false := by simp; omega
      obtain ⟨n, rfl⟩ := Int.eq_ofNat_of_zero_le (show 0 ≤ v by omega)
      have HR2 : Hid (rpN f n p = R) := by show _ = _; rw [HR.out, if_neg h1, hFF]; rfl
      have HI := hide (IH f hFF)
      clear IH hF HR hFF
      go_enter Tryd.func41, Tryd.ntmps41
      go_wp2_with fail
      refine (HN.out).mono ?_
      rintro e w1 ⟨rfl, hp1⟩
      have HP1 := hide hp1
      clear hp1
      go_wp2_with fail
      go_loopw [23] (fun ii wr => ∃ k j : Nat, ii = .int .i64 k ∧ k ≤ n ∧ j ≤ s.size ∧ Hid (rpN f (n - k) j = R) ∧ Hid (RS w0 wr g s j)) (fun ii _ => n - (intOf ii).toNat)
      case atStart => exact ⟨0, p, rfl, Nat.zero_le _, hps, HR2, HP1⟩
      case round =>
        obtain ⟨k, j, rfl, hk, hj, HA, HP⟩ := hrel
        by_cases hlt : k < n
        · have hlt' : decide ((k : Int) < (n : Int)) = true := by simp; omega
          have HA2 : Hid (R = match f j with | none => none | some q => rpN f (n - (k + 1)) q) := by
            show _ = _
            rw [← HA.out, show n - k = (n - (k + 1)) + 1 by omega, rpN]
            cases f j <;> rfl
          go_wp2_with fail
          refine (HI.out _ j hj HP.out).mono ?_
          rintro e w2 (⟨q, hq, hqs, rfl, hp2⟩ | ⟨hq, rfl, q, hqs, hp2⟩)
          · have HP2 := hide hp2
            have HA3 : Hid (rpN f (n - (k + 1)) q = R) := by show _ = _; rw [HA2.out, hq]
            clear hp2 hq
            go_wp2_with fail
            go_roundw
            case rel => exact ⟨k + 1, q, by go_num, by omega, hqs, HA3, HP2⟩
            case measure => simp [intOf]; omega
          · have HP2 := hide hp2
            have HA3 : Hid (R = none) := by show _ = _; rw [HA2.out, hq]
            clear hp2 hq
            go_wp2
            go_ret
            exact rpost_no HA3.out hqs HP2.out
        · have hlt' : decide ((k : Int) < (n : Int)) = false := by simp; omega
          have HA2 : Hid (R = some j) := by show _ = _; rw [← HA.out, show n - k = 0 by omega, rpN]
          go_wp2
          go_ret
          exact rpost_yes HA2.out hj HP.out
end Go.Proofs.YtnoalenfeakcpaaDoor
