/- The specification's reader of replies: lines, and numbers on them. -/
import Derived.Test.YtnoalenfeakcpaaDoorRplP
import Derived.Test.YtnoalenfeakcpaaDoorReadDec
import Derived.Test.YtnoalenfeakcpaaDoorCutAt
namespace Go.Proofs.YtnoalenfeakcpaaDoor
open Go.RowKit

instance (s : ByteArray) : Decidable (Wd.good s) := by unfold Wd.good Wd.digs; infer_instance
/-- The number whose decimal text a line is. -/
def decV (l : ByteArray) : Option Nat := if Wd.good l then some (Wd.numF l l.size) else none
/-- The same, and numbers below nought. -/
def valS (l : ByteArray) : Option Int :=
  match decV l with
  | some n => some (n : Int)
  | none => if 1 < l.size ∧ Wd.bt l 0 = 45 ∧ l ≠ ⟨#[45, 48]⟩ then (match decV (l.extract 1 l.size) with | some n => some (-(n : Int)) | none => none) else none
theorem decV_minus {l : ByteArray} (h : Wd.bt l 0 = 45) : decV l = none := by
  unfold decV
  rw [if_neg]
  intro hg
  have := (hg.2.2.1 0 (by have := hg.1; omega)).1
  omega
theorem decV_text {l : ByteArray} {n : Nat} (h : decV l = some n) : l = ⟨(Wd.decS (n : Int)).toArray⟩ ∧ n ≤ 1000000000 ∧ l.size ≤ 10 := by
  unfold decV at h
  split at h
  · rename_i hg
    simp at h
    subst h
    have e := (Wd.dec_canon l hg.2.2.1 hg.2.1).2 ⟨hg.1, hg.2.2.2.1⟩
    exact ⟨by rw [e], hg.2.2.2.2, hg.2.1⟩
  · cases h
theorem tail_text {l : ByteArray} {n : Nat} (hz : 1 < l.size) (h0 : Wd.bt l 0 = 45) (h : decV (l.extract 1 l.size) = some n) : l = ⟨(45 :: Wd.decS (n : Int)).toArray⟩ := by
  have e := (decV_text h).1
  have hs : (l.extract 1 l.size).size = l.size - 1 := by rw [ByteArray.size_extract]; omega
  have hc : (⟨(45 :: Wd.decS (n : Int)).toArray⟩ : ByteArray) = ⟨#[45]⟩ ++ l.extract 1 l.size := by rw [e]; exact (cat_list [45] _).symm
  rw [hc]
  have h1 : (⟨#[45]⟩ : ByteArray).size = 1 := rfl
  refine bt_ext (by rw [ByteArray.size_append]; omega) fun p hp => ?_
  rw [ByteArray.size_append] at hp
  by_cases hp0 : p = 0
  · subst hp0
    rw [bt_left (by decide), h0]
    rfl
  · obtain ⟨q, rfl⟩ : ∃ q, p = (⟨#[45]⟩ : ByteArray).size + q := ⟨p - 1, by omega⟩
    rw [bt_right (by omega), bt_ex l 1 l.size q (by omega) (by omega)]
    rfl
theorem val_ways (l : ByteArray) : (∃ n : Nat, decV l = some n ∧ valS l = some (n : Int) ∧ l ≠ ⟨#[45, 49]⟩) ∨ (decV l = none ∧ ∃ n : Nat, 1 ≤ n ∧ valS l = some (-(n : Int)) ∧ (n = 1 ↔ l = ⟨#[45, 49]⟩)) ∨ (decV l = none ∧ valS l = none ∧ l ≠ ⟨#[45, 49]⟩) := by
  unfold valS
  cases hd : decV l with
  | some n =>
    refine .inl ⟨n, rfl, rfl, fun e => ?_⟩
    rw [decV_minus (by rw [e]; rfl)] at hd
    cases hd
  | none =>
    simp only
    by_cases hc : 1 < l.size ∧ Wd.bt l 0 = 45 ∧ l ≠ ⟨#[45, 48]⟩
    · rw [if_pos hc]
      cases ht : decV (l.extract 1 l.size) with
      | some n =>
        have e := tail_text hc.1 hc.2.1 ht
        refine .inr (.inl ⟨by trivial, n, ?_, rfl, ?_⟩)
        · rcases Nat.eq_zero_or_pos n with h0 | h0
          · subst h0
            exact absurd e hc.2.2
          · exact h0
        · constructor
          · rintro rfl
            exact e
          · intro h1
            have hx : l.extract 1 l.size = ⟨#[49]⟩ := by rw [h1]; rfl
            rw [hx] at ht
            have : decV ⟨#[49]⟩ = some 1 := by decide
            rw [this] at ht
            simpa using ht.symm
      | none =>
        refine .inr (.inr ⟨by trivial, rfl, fun e => ?_⟩)
        rw [e] at ht
        have : decV ((⟨#[45, 49]⟩ : ByteArray).extract 1 (⟨#[45, 49]⟩ : ByteArray).size) = some 1 := by decide
        rw [this] at ht
        cases ht
    · rw [if_neg hc]
      refine .inr (.inr ⟨by trivial, rfl, fun e => hc ?_⟩)
      rw [e]
      decide

/-- What l12Line tells. -/
def crI (s : ByteArray) (i : Nat) : Int := if crE s i < s.size then (crE s i : Int) else -1
set_option maxRecDepth 100000 in
set_option maxHeartbeats 1000000 in
theorem l12Line_any (s : ByteArray) (i : Nat) (w : World) (hz : s.size ≤ 1048576) (hi : i ≤ s.size) :
    Calls Tryd.prog 34 #[.string s, .int .i64 (i : Int)] w fun e w' => e = .returned (.int .i64 (crI s i)) ∧ w' = w := by
  obtain ⟨R, HR⟩ : ∃ R, Hid (crI s i = R) := ⟨_, rfl⟩
  rw [HR.out]
  go_enter Tryd.func34, Tryd.ntmps34
  go_wp2
  go_loop [5] (fun ii => ∃ k : Nat, i ≤ k ∧ k ≤ s.size ∧ ii = .int .i64 k ∧ Hid (crI s k = R)) (fun ii => s.size - (intOf ii).toNat)
  case atStart => exact ⟨i, Nat.le_refl _, hi, rfl, HR⟩
  case round =>
    obtain ⟨k, hk1, hk2, rfl, HK⟩ := hrel
    by_cases hlt : k + 1 < s.size
    · have hlt' : decide ((k : Int) + 1 < (s.size : Int)) = true := by simp; omega
      obtain ⟨b, hB, hbt, hb256⟩ : ∃ b : Nat, Hid (Wd.bt s k = b) ∧ (s[k]'(by omega)).toNat = b ∧ b < 256 := ⟨_, rfl, Wd.bt_eq s k (by omega), Wd.bt_lt s k⟩
      obtain ⟨c, hC, hct, hc256⟩ : ∃ c : Nat, Hid (Wd.bt s (k + 1) = c) ∧ (s[k + 1]'hlt).toNat = c ∧ c < 256 := ⟨_, rfl, Wd.bt_eq s (k + 1) hlt, Wd.bt_lt s (k + 1)⟩
      have hidx := idx_run s k b (by omega) hbt
      have hidx2 : ∀ W : World, (Instr.index 9 (.string s) (.int .i64 ((k : Int) + 1))).run Tryd.prog W = .ok (.int .u8 c) W := fun W => by
        have := idx_run s (k + 1) c hlt hct W
        rw [show (((k + 1 : Nat) : Int)) = (k : Int) + 1 by omega] at this
        exact this
      have go : ¬ (b = 13 ∧ c = 10) → Hid (crI s (k + 1) = R) := fun hn => by
        show _ = _
        rw [← HK.out]
        unfold crI
        rw [(crE_next (fun hh => hn ⟨by rw [← hB.out]; exact hh.2.1, by rw [← hC.out]; exact hh.2.2⟩) : crE s k = crE s (k + 1))]
      by_cases h1 : b = 13
      · have h1' : ((b : Int) == 13) = true := by simp; omega
        by_cases h2 : c = 10
        · have h2' : ((c : Int) == 10) = true := by simp; omega
          have HRk : Hid (R = k) := by show _ = _; rw [← HK.out]; unfold crI; rw [crE_here hlt (by rw [hB.out]; exact h1) (by rw [hC.out]; exact h2), if_pos (by omega)]
          clear h1 h2 go
          go_wp2
          go_ret
          rw [HRk.out]
          exact ⟨rfl, rfl⟩
        · have h2' : ((c : Int) == 10) = false := by simp; omega
          have HN := go (fun h => h2 h.2)
          clear h1 h2 go
          go_wp2
          go_round
          case rel => exact ⟨k + 1, by omega, by omega, by go_num, HN⟩
          case measure => simp [intOf]; omega
      · have h1' : ((b : Int) == 13) = false := by simp; omega
        have HN := go (fun h => h1 h.1)
        clear h1 go
        go_wp2
        go_round
        case rel => exact ⟨k + 1, by omega, by omega, by go_num, HN⟩
        case measure => simp [intOf]; omega
    · have hlt' : decide ((k : Int) + 1 < (s.size : Int)) = false := by simp; omega
      have HRk : Hid (R = -1) := by show _ = _; rw [← HK.out]; unfold crI; rw [crE_none (fun p h1 h2 => by omega), if_neg (by omega)]
      go_wp2
      go_ret
      rw [HRk.out]
      exact ⟨rfl, rfl⟩

/-- What l12Whole tells. -/
def decI (l : ByteArray) : Int := match decV l with | some n => (n : Int) | none => -1
set_option maxRecDepth 100000 in
theorem l12Whole_any (l : ByteArray) (w : World) (hz : l.size ≤ 1048576) : Calls Tryd.prog 36 #[.string l] w fun e w' => e = .returned (.int .i64 (decI l)) ∧ Below w.heap.size w w' := by
  by_cases hg : Wd.good l
  · have HC := hide (specDec_in l w hg.2.1)
    have HR : Hid (decI l = (Wd.numF l l.size : Int)) := by show _ = _; unfold decI decV; rw [if_pos hg]
    have HG := hide hg
    clear hg
    generalize Wd.numF l l.size = N at HC HR
    rw [HR.out]
    go_enter Tryd.func36, Tryd.ntmps36
    go_wp2_with fail
    refine (HC.out).mono ?_
    rintro e w1 ⟨b1, ⟨-, rfl⟩ | ⟨hn, -⟩⟩
    · go_wp2
      go_ret
      exact ⟨rfl, b1⟩
    · exact absurd HG.out hn
  · have HR : Hid (decI l = -1) := by show _ = _; unfold decI decV; rw [if_neg hg]
    have HC : Hid (Calls Tryd.prog 54 #[.string l] w fun e w' => Below w.heap.size w w' ∧ e = .returned (.tuple #[.int .i64 0, .bool false])) := by
      by_cases h10 : 10 < l.size
      · exact (specDec_long l w hz h10).mono (fun e w' h => ⟨h.2 ▸ Below.refl _ _, h.1⟩)
      · refine (specDec_in l w (by omega)).mono ?_
        rintro e w' ⟨b, ⟨h, -⟩ | ⟨-, h⟩⟩
        · exact absurd h hg
        · exact ⟨b, h⟩
    clear hg
    rw [HR.out]
    go_enter Tryd.func36, Tryd.ntmps36
    go_wp2_with fail
    refine (HC.out).mono ?_
    rintro e w1 ⟨b1, rfl⟩
    go_wp2
    go_ret
    exact ⟨rfl, b1⟩

theorem decI_bnd (l : ByteArray) : -1 ≤ decI l ∧ decI l ≤ 1000000000 := by
  unfold decI
  cases h : decV l with
  | none => simp
  | some n => have := (decV_text h).2.1; simp; omega
theorem decI_some (l : ByteArray) : decide (0 ≤ decI l) = (decV l).isSome := by
  unfold decI
  cases decV l <;> simp

set_option maxRecDepth 100000 in
set_option maxHeartbeats 1000000 in
theorem l12Int_any (l : ByteArray) (w : World) (hz : l.size ≤ 1048576) : Calls Tryd.prog 35 #[.string l] w fun e w' => e = .returned (.bool (valS l).isSome) ∧ Below w.heap.size w w' := by
  by_cases h1 : 1 < l.size
  · have h1' : decide (1 < (l.size : Int)) = true := by simp; omega
    obtain ⟨b, hB, hbt, hb256⟩ : ∃ b : Nat, Hid (Wd.bt l 0 = b) ∧ (l[0]'(by omega)).toNat = b ∧ b < 256 := ⟨_, rfl, Wd.bt_eq l 0 (by omega), Wd.bt_lt l 0⟩
    have hidx := idx_run l 0 b (by omega) hbt
    rw [show (((0 : Nat) : Int)) = 0 from rfl] at hidx
    by_cases h2 : b = 45
    · have h2' : ((b : Int) == 45) = true := by simp; omega
      have hm := decV_minus (l := l) (by rw [hB.out]; exact h2)
      by_cases h3 : l = ⟨#[45, 48]⟩
      · have h3' : (l.toList == [45, 48]) = true := by rw [h3, ByteArray.toList_eq]; exact beq_self_eq_true _
        have HR : Hid ((valS l).isSome = false) := by show _ = _; unfold valS; rw [hm]; simp only; rw [if_neg (fun h => h.2.2 h3)]; rfl
        clear h2 h3 hm
        go_enter Tryd.func35, Tryd.ntmps35
        go_wp2
        go_ret
        rw [HR.out]
        exact ⟨rfl, Below.refl _ _⟩
      · have h3' : (l.toList == [45, 48]) = false := by
          have := txt_ne h3
          rw [ByteArray.toList_eq (bs := ⟨#[45, 48]⟩)] at this
          exact this
        have HR : Hid ((valS l).isSome = decide (0 ≤ decI (l.extract 1 l.size))) := by
          show _ = _
          rw [decI_some]
          unfold valS
          rw [hm]
          simp only
          rw [if_pos ⟨h1, by rw [hB.out]; exact h2, h3⟩]
          cases decV (l.extract 1 l.size) <;> rfl
        have hsl : ∀ W : World, (Instr.slice 9 (.string l) (some (.int .i64 1)) none none).run Tryd.prog W = .ok (.string (l.extract 1 l.size)) W := fun W => by
          rw [run_slice_string_from_if W 9 l .i64 1 Tryd.underlying9, if_pos ⟨by omega, by omega⟩]
          rfl
        have HC := hide (fun W => l12Whole_any (l.extract 1 l.size) W (by rw [ByteArray.size_extract]; omega))
        rw [HR.out]
        generalize l.extract 1 l.size = T at HC hsl
        generalize decI T = D at HC
        clear h2 h3 hm HR
        go_enter Tryd.func35, Tryd.ntmps35
        go_wp2_with fail
        refine (HC.out _).mono ?_
        rintro e w1 ⟨rfl, b1⟩
        go_wp2
        go_ret
        exact ⟨rfl, b1⟩
    · have h2' : ((b : Int) == 45) = false := by simp; omega
      have HR : Hid ((valS l).isSome = decide (0 ≤ decI l)) := by
        show _ = _
        rw [decI_some]
        unfold valS
        cases hd : decV l with
        | some n => rfl
        | none => simp only; rw [if_neg (fun h => h2 (by rw [← hB.out]; exact h.2.1))]; rfl
      have HC := hide (fun W => l12Whole_any l W hz)
      rw [HR.out]
      generalize decI l = D at HC
      clear h2 HR
      go_enter Tryd.func35, Tryd.ntmps35
      go_wp2_with fail
      refine (HC.out _).mono ?_
      rintro e w1 ⟨rfl, b1⟩
      go_wp2
      go_ret
      exact ⟨rfl, b1⟩
  · have h1' : decide (1 < (l.size : Int)) = false := by simp; omega
    have HR : Hid ((valS l).isSome = decide (0 ≤ decI l)) := by
      show _ = _
      rw [decI_some]
      unfold valS
      cases hd : decV l with
      | some n => rfl
      | none => simp only; rw [if_neg (fun h => h1 h.1)]; rfl
    have HC := hide (fun W => l12Whole_any l W hz)
    rw [HR.out]
    generalize decI l = D at HC
    clear HR
    go_enter Tryd.func35, Tryd.ntmps35
    go_wp2_with fail
    refine (HC.out _).mono ?_
    rintro e w1 ⟨rfl, b1⟩
    go_wp2
    go_ret
    exact ⟨rfl, b1⟩
end Go.Proofs.YtnoalenfeakcpaaDoor
