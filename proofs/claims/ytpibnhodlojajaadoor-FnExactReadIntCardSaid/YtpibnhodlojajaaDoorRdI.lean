/- ReadInt: the program's and the specification's. -/
import Derived.Test.YtpibnhodlojajaaDoorRdP
namespace Go.Proofs.YtpibnhodlojajaaDoor
open Go.RowKit

def inLim (v : Int) : Bool := decide (-1000000000 ≤ v) && decide (v ≤ 1000000000)
theorem inLimits_any (v : Int) (w : World) : Calls Tryd.prog 19 #[.int .i64 v] w fun e w' => e = .returned (.bool (inLim v)) ∧ w' = w := by
  unfold inLim
  by_cases h1 : -1000000000 ≤ v
  · by_cases h2 : v ≤ 1000000000
    · have h1' : decide (-1000000000 ≤ v) = true := decide_eq_true h1
      have h2' : decide (v ≤ 1000000000) = true := decide_eq_true h2
      rw [h1', h2']
      go_enter Tryd.func19, Tryd.ntmps19
      go_wp2
      go_ret
      exact ⟨rfl, rfl⟩
    · have h1' : decide (-1000000000 ≤ v) = true := decide_eq_true h1
      have h2' : decide (v ≤ 1000000000) = false := decide_eq_false h2
      rw [h1', h2']
      go_enter Tryd.func19, Tryd.ntmps19
      go_wp2
      go_ret
      exact ⟨rfl, rfl⟩
  · have h1' : decide (-1000000000 ≤ v) = false := decide_eq_false h1
    rw [h1']
    go_enter Tryd.func19, Tryd.ntmps19
    go_wp2
    go_ret
    exact ⟨rfl, rfl⟩
set_option maxRecDepth 100000 in
set_option maxHeartbeats 1000000 in
theorem implReadInt_any (l : ByteArray) (w : World) (hz : l.size ≤ 1048576) (hv : RVars w) : Calls Tryd.prog 6 #[.string l] w fun e w' => e = .returned (riV (valS l)) ∧ Below w.heap.size w w' := by
  have HS := hide (valI_range l)
  obtain ⟨R, HR⟩ : ∃ R, Hid (valS l = R) := ⟨_, rfl⟩
  rw [HR.out] at HS ⊢
  cases hI : valI l with
  | none =>
    have HC := hide (whole_none l w hz hI hv)
    have HRR : Hid (R = none) := by show _ = _; rw [HS.out, hI]
    clear hI hv HS
    go_enter Tryd.func6, Tryd.ntmps6
    go_wp2_with fail
    refine HC.out.mono ?_
    rintro e w1 ⟨rfl, b1⟩
    go_wp2
    go_ret2
    exact ⟨by rw [HRR.out]; rfl, b1⟩
  | some v =>
    have HC := hide (whole_some l v w hz hI hv)
    have HRR : Hid (R = if -1000000000 ≤ v ∧ v ≤ 1000000000 then some v else none) := by show _ = _; rw [HS.out, hI]
    have HIN := hide (fun W => inLimits_any v W)
    have HRI : Hid (R = if inLim v = true then some v else none) := by
      show _ = _
      rw [HRR.out]
      unfold inLim
      simp
    clear hI hv HS HRR
    generalize inLim v = q at HIN HRI
    cases q with
    | true =>
      go_enter Tryd.func6, Tryd.ntmps6
      go_wp2_with fail
      refine HC.out.mono ?_
      rintro e w1 ⟨rfl, b1⟩
      go_wp2_with fail
      refine (HIN.out _).mono ?_
      rintro e w2 ⟨rfl, rfl⟩
      go_wp2
      go_ret2
      exact ⟨by rw [HRI.out]; rfl, b1⟩
    | false =>
      go_enter Tryd.func6, Tryd.ntmps6
      go_wp2_with fail
      refine HC.out.mono ?_
      rintro e w1 ⟨rfl, b1⟩
      go_wp2_with fail
      refine (HIN.out _).mono ?_
      rintro e w2 ⟨rfl, rfl⟩
      go_wp2
      go_ret2
      exact ⟨by rw [HRI.out]; rfl, b1⟩

set_option maxRecDepth 100000 in
set_option maxHeartbeats 1000000 in
theorem specReadInt_any (l : ByteArray) (w : World) (hz : l.size ≤ 1048576) : Calls Tryd.prog 5 #[.string l] w fun e w' => e = .returned (riV (valS l)) ∧ Below w.heap.size w w' := by
  obtain ⟨R, HR⟩ : ∃ R, Hid (valS l = R) := ⟨_, rfl⟩
  rw [HR.out]
  have plain : (∀ h : 1 < l.size, Wd.bt l 0 ≠ 45) → Hid (R = (decV l).map fun (n : Nat) => (n : Int)) := by
    intro h
    show _ = _
    rw [← HR.out]
    unfold valS
    cases hd : decV l with
    | some n => rfl
    | none => simp only; rw [if_neg (fun hh => h hh.1 hh.2.1)]; rfl
  have HC := hide (fun W => specRead_any l W hz)
  by_cases h1 : 1 < l.size
  · have h1' : decide (1 < (l.size : Int)) = true := by simp; omega
    obtain ⟨b, hB, hbt, hb256⟩ : ∃ b : Nat, Hid (Wd.bt l 0 = b) ∧ (l[0]'(by omega)).toNat = b ∧ b < 256 := ⟨_, rfl, Wd.bt_eq l 0 (by omega), Wd.bt_lt l 0⟩
    have hidx := idx_run l 0 b (by omega) hbt
    rw [show (((0 : Nat) : Int)) = 0 from rfl] at hidx
    by_cases h2 : b = 45
    · have h2' : ((b : Int) == 45) = true := by simp; omega
      have hm := decV_minus (l := l) (by rw [hB.out]; exact h2)
      have hsl : ∀ W : World, (Instr.slice 9 (.string l) (some (.int .i64 1)) none none).run Tryd.prog W = .ok (.string (l.extract 1 l.size)) W := fun W => by
        rw [run_slice_string_from_if W 9 l .i64 1 Tryd.underlying9, if_pos ⟨by omega, by omega⟩]
        rfl
      have HT := hide (fun W => specRead_any (l.extract 1 l.size) W (by rw [ByteArray.size_extract]; omega))
      have HRR : Hid (R = match decV (l.extract 1 l.size) with | some n => (if n = 0 then none else some (-(n : Int))) | none => none) := by
        show _ = _
        rw [← HR.out]
        unfold valS
        rw [hm]
        simp only
        by_cases h3 : l = ⟨#[45, 48]⟩
        · rw [if_neg (fun h => h.2.2 h3), h3]
          have : decV ((⟨#[45, 48]⟩ : ByteArray).extract 1 (⟨#[45, 48]⟩ : ByteArray).size) = some 0 := by decide
          rw [this]
          rfl
        · rw [if_pos ⟨h1, by rw [hB.out]; exact h2, h3⟩]
          cases hd : decV (l.extract 1 l.size) with
          | none => rfl
          | some n =>
            simp only
            by_cases hn : n = 0
            · subst hn
              exact absurd (tail_text h1 (by rw [hB.out]; exact h2) hd) h3
            · rw [if_neg hn]
      cases hd : decV (l.extract 1 l.size) with
      | none =>
        rw [hd] at HT HRR
        generalize l.extract 1 l.size = T at HT hsl
        clear h2 hm hd
        go_enter Tryd.func5, Tryd.ntmps5
        go_wp2_with fail
        refine (HT.out _).mono ?_
        rintro e w1 ⟨rfl, b1⟩
        go_wp2
        go_ret2
        exact ⟨by rw [HRR.out]; rfl, b1⟩
      | some n =>
        have hn9 := (decV_text hd).2.1
        rw [hd] at HT HRR
        simp only at HRR
        generalize l.extract 1 l.size = T at HT hsl
        clear h2 hm hd
        by_cases hn : n = 0
        · rw [if_pos hn] at HRR
          have hn' : ((n : Int) == 0) = true := by simp; omega
          clear hn
          go_enter Tryd.func5, Tryd.ntmps5
          go_wp2_with fail
          refine (HT.out _).mono ?_
          rintro e w1 ⟨rfl, b1⟩
          go_wp2
          go_ret2
          exact ⟨by rw [HRR.out]; rfl, b1⟩
        · rw [if_neg hn] at HRR
          have hn' : ((n : Int) == 0) = false := by rw [beq_eq_false_iff_ne]; omega
          clear hn
          go_enter Tryd.func5, Tryd.ntmps5
          go_wp2_with fail
          refine (HT.out _).mono ?_
          rintro e w1 ⟨rfl, b1⟩
          go_wp2
          go_ret2
          exact ⟨by rw [HRR.out]; rfl, b1⟩
    · have h2' : ((b : Int) == 45) = false := by simp; omega
      have HRR := plain (fun _ h => h2 (by rw [← hB.out]; exact h))
      clear h2 plain
      cases hd : decV l with
      | none =>
        rw [hd] at HC HRR
        clear hd
        go_enter Tryd.func5, Tryd.ntmps5
        go_wp2_with fail
        refine (HC.out _).mono ?_
        rintro e w1 ⟨rfl, b1⟩
        go_wp2
        go_ret2
        exact ⟨by rw [HRR.out]; rfl, b1⟩
      | some n =>
        rw [hd] at HC HRR
        clear hd
        go_enter Tryd.func5, Tryd.ntmps5
        go_wp2_with fail
        refine (HC.out _).mono ?_
        rintro e w1 ⟨rfl, b1⟩
        go_wp2
        go_ret2
        exact ⟨by rw [HRR.out]; rfl, b1⟩
  · have h1' : decide (1 < (l.size : Int)) = false := by simp; omega
    have HRR := plain (fun h => absurd h h1)
    clear plain
    cases hd : decV l with
    | none =>
      rw [hd] at HC HRR
      clear hd
      go_enter Tryd.func5, Tryd.ntmps5
      go_wp2_with fail
      refine (HC.out _).mono ?_
      rintro e w1 ⟨rfl, b1⟩
      go_wp2
      go_ret2
      exact ⟨by rw [HRR.out]; rfl, b1⟩
    | some n =>
      rw [hd] at HC HRR
      clear hd
      go_enter Tryd.func5, Tryd.ntmps5
      go_wp2_with fail
      refine (HC.out _).mono ?_
      rintro e w1 ⟨rfl, b1⟩
      go_wp2
      go_ret2
      exact ⟨by rw [HRR.out]; rfl, b1⟩

set_option maxRecDepth 100000 in
set_option maxHeartbeats 1000000 in
theorem lawReadInt (l : ByteArray) (w : World) (_hz : l.size ≤ maxLen) (hv : RVars w) : Calls Tryd.prog 3 #[.string l] w fun e w' => e = .returned (.bool true) ∧ Below w.heap.size w w' := by
  by_cases hbig : 1048576 < l.size
  · have hb' : decide (1048576 < (l.size : Int)) = true := by simp; omega
    clear hv hbig
    go_enter Tryd.func3, Tryd.ntmps3
    go_wp2
    go_ret
    exact ⟨rfl, Below.refl _ _⟩
  · have hb' : decide (1048576 < (l.size : Int)) = false := by simp; omega
    have SP := hide (fun W => specReadInt_any l W (by omega))
    have IM := hide (fun W (h : RVars W) => implReadInt_any l W (by omega) h)
    have HV := hide hv
    obtain ⟨R, HR⟩ : ∃ R, Hid (valS l = R) := ⟨_, rfl⟩
    rw [HR.out] at SP IM
    obtain ⟨n, k, hr⟩ : ∃ (n : Int) (k : Bool), riV R = .tuple #[.int .i64 n, .bool k] := by
      cases R with
      | none => exact ⟨_, _, rfl⟩
      | some v => exact ⟨_, _, rfl⟩
    rw [hr] at SP IM
    have h1 : (n == n) = true := beq_self_eq_true _
    have h2 : (k == k) = true := beq_self_eq_true _
    clear hr hv hbig
    go_enter Tryd.func3, Tryd.ntmps3
    go_wp2_with fail
    refine (SP.out _).mono ?_
    rintro e w1 ⟨rfl, b1⟩
    have HV1 := hide (rvars_below HV.out b1)
    have B1 := hide b1
    clear b1
    go_wp2_with fail
    refine (IM.out _ HV1.out).mono ?_
    rintro e w2 ⟨rfl, b2⟩
    go_wp2
    go_ret
    exact ⟨rfl, B1.out.trans (b2.mono B1.out.size)⟩
end Go.Proofs.YtpibnhodlojajaaDoor
