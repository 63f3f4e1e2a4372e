/- The number that a decimal text tells: the program's reader, and the law on ReadDecimal. -/
import Derived.Test.YtdefipahgpljeaaDoorReadDec
namespace Go.Proofs.YtdefipahgpljeaaDoor
open Go.RowKit

theorem val_dig (x : Nat) : (0 ≤ Wd.valI x ∧ Wd.valI x < 10) ↔ (48 ≤ x ∧ x ≤ 57) := by
  unfold Wd.valI
  by_cases h2 : 48 ≤ x ∧ x ≤ 57
  · rw [if_pos h2]; omega
  · rw [if_neg h2]
    by_cases h3 : 97 ≤ x ∧ x ≤ 102
    · rw [if_pos h3]; omega
    · rw [if_neg h3]; omega
theorem val_of_dig (x : Nat) (h : 48 ≤ x ∧ x ≤ 57) : Wd.valI x = (x : Int) - 48 := by unfold Wd.valI; rw [if_pos h]
theorem digs_iff (s : ByteArray) (k : Nat) : Wd.digs s k ↔ ∀ p, p < k → Wd.isFig s ((10 : Nat) : Int) p :=
  ⟨fun h p hp => (val_dig _).2 (h p hp), fun h p hp => (val_dig _).1 (h p hp)⟩

theorem implDec_empty (w : World) : Calls Tryd.prog 62 #[.string ⟨#[]⟩] w fun e w' => e = .returned (.tuple #[.int .i64 0, .bool false]) ∧ w' = w := by
  go_enter Tryd.func62, Tryd.ntmps62
  go_wp2
  go_ret2
  exact ⟨rfl, rfl⟩

theorem notEmpty (s : ByteArray) (h : s.size ≠ 0) : s.toList.isEmpty = false := by
  rw [ByteArray.toList_eq]
  cases hl : s.data.toList with
  | nil => exact absurd (by have := congrArg List.length hl; simpa using this) h
  | cons a l => rfl

theorem implDec_long (s : ByteArray) (w : World) (ws : s.size ≤ 1048576) (h : 10 < s.size) :
    Calls Tryd.prog 62 #[.string s] w fun e w' => e = .returned (.tuple #[.int .i64 0, .bool false]) ∧ w' = w := by
  have he := notEmpty s (by omega)
  go_enter Tryd.func62, Tryd.ntmps62
  go_wp2
  go_ret2
  exact ⟨rfl, rfl⟩

theorem implDec_nought (s : ByteArray) (w : World) (h1 : 1 < s.size) (h : s.size ≤ 10) (hb : Wd.bt s 0 = 48) :
    Calls Tryd.prog 62 #[.string s] w fun e w' => e = .returned (.tuple #[.int .i64 0, .bool false]) ∧ w' = w := by
  have he := notEmpty s (by omega)
  have h1' : decide (10 < (s.size : Int)) = false := by simp; omega
  have h0 : 0 < s.size := by omega
  have hbt : (s[0]'h0).toNat = 48 := (Wd.bt_eq s 0 h0).trans hb
  have hl1 : decide (1 < (s.size : Int)) = true := by simp; omega
  clear hb
  go_enter Tryd.func62, Tryd.ntmps62
  go_wp2
  go_ret2
  exact ⟨rfl, rfl⟩

theorem implDec_bad (s : ByteArray) (w : World) (h0 : s.size ≠ 0) (h : s.size ≤ 10) (hb : s.size = 1 ∨ Wd.bt s 0 ≠ 48) (hno : ¬ Wd.digs s s.size) :
    Calls Tryd.prog 62 #[.string s] w fun e w' => e = .returned (.tuple #[.int .i64 0, .bool false]) ∧ Below w.heap.size w w' := by
  have he := notEmpty s h0
  have hpos : 0 < s.size := by omega
  have h1' : decide (10 < (s.size : Int)) = false := by simp; omega
  have H := hide (fun hx => hno ((digs_iff s s.size).2 hx))
  clear hno
  obtain ⟨b, hB, hbt, hb256⟩ : ∃ b : Nat, Hid (Wd.bt s 0 = b) ∧ (s[0]'hpos).toNat = b ∧ b < 256 := ⟨_, rfl, Wd.bt_eq s 0 hpos, Wd.bt_lt s 0⟩
  rw [hB.out] at hb
  by_cases hb48 : b = 48
  · have hb1 : ((b : Int) == 48) = true := by simp; omega
    have hl1 : decide (1 < (s.size : Int)) = false := by simp; omega
    clear hb hb48
    go_enter Tryd.func62, Tryd.ntmps62
    go_wp2_with (go_at_call 74; refine (figs_no s 10 _ (by omega) (by omega) H.out).mono ?_; rintro e w1 ⟨rfl, hb1⟩)
    go_ret2
    exact ⟨rfl, hb1⟩
  · have hb1 : ((b : Int) == 48) = false := by simp; omega
    clear hb hb48
    go_enter Tryd.func62, Tryd.ntmps62
    go_wp2_with (go_at_call 74; refine (figs_no s 10 _ (by omega) (by omega) H.out).mono ?_; rintro e w1 ⟨rfl, hb1⟩)
    go_ret2
    exact ⟨rfl, hb1⟩

/-- What the reader answers of figures alone. -/
def decAns (s : ByteArray) : Value := if Wd.numF s s.size ≤ 1000000000 then .tuple #[.int .i64 (Wd.numF s s.size), .bool true] else .tuple #[.int .i64 0, .bool false]

set_option maxRecDepth 100000 in
set_option maxHeartbeats 1000000 in
theorem implDec_loop (s : ByteArray) (w : World) (h0 : s.size ≠ 0) (h : s.size ≤ 10) (hb : s.size = 1 ∨ Wd.bt s 0 ≠ 48) (hd : Wd.digs s s.size) :
    Calls Tryd.prog 62 #[.string s] w fun e w' => e = .returned (decAns s) ∧ Below w.heap.size w w' := by
  have he := notEmpty s h0
  have hpos : 0 < s.size := by omega
  have h1' : decide (10 < (s.size : Int)) = false := by simp; omega
  have HD := hide hd
  have H := hide ((digs_iff s s.size).1 hd)
  clear hd
  obtain ⟨b, hB, hbt, hb256⟩ : ∃ b : Nat, Hid (Wd.bt s 0 = b) ∧ (s[0]'hpos).toNat = b ∧ b < 256 := ⟨_, rfl, Wd.bt_eq s 0 hpos, Wd.bt_lt s 0⟩
  rw [hB.out] at hb
  have hcase : (((b : Int) == 48) = true ∧ decide (1 < (s.size : Int)) = false) ∨ (((b : Int) == 48) = false) := by
    by_cases hb48 : b = 48
    · left; exact ⟨by simp; omega, by simp; omega⟩
    · right; simp; omega
  clear hb
  rcases hcase with ⟨hb1, hl1⟩ | hb1
  all_goals
    go_enter Tryd.func62, Tryd.ntmps62
    go_wp2_with (go_at_call 74; refine (figs_row s 10 _ (by omega) (by omega) H.out).mono ?_; rintro e w1 ⟨a, cap, rfl, HA, hbw⟩)
    go_loop [6, 33] (fun n i => ∃ k M : Nat, k ≤ s.size ∧ i = .int .i64 k ∧ n = .int .i64 M ∧ Hid (Wd.numF s k = M) ∧ M ≤ 9999999999) (fun _ i => s.size - (intOf i).toNat)
    case atStart => exact ⟨0, 0, Nat.zero_le _, rfl, rfl, rfl, by omega⟩
    case round =>
      obtain ⟨k, M, hk, rfl, rfl, HM, hM⟩ := hrel
      by_cases hlt : k < s.size
      · obtain ⟨g, rfl, hg, hrow⟩ := HA.out (by omega)
        have hx := HD.out k hlt
        obtain ⟨y, hY, hy9⟩ : ∃ y : Nat, Hid (Wd.bt s k - 48 = y) ∧ y ≤ 9 := ⟨_, rfl, by omega⟩
        have hcell := vals_cell hrow k hlt (H.out k hlt).1
        rw [val_of_dig _ hx, show ((Wd.bt s k : Nat) : Int) - 48 = (y : Int) from by have := hY.out; omega] at hcell
        clear hx hrow
        have hnum : Wd.numF s (k + 1) = 10 * M + y := by rw [Wd.numF, HM.out, hY.out]
        have hbd := Wd.numF_bound s (k + 1) (by omega) (fun p hp => HD.out p (by omega))
        rw [hnum] at hbd
        have HN := hide hnum
        clear hnum
        go_wp2
        go_round
        case rel => exact ⟨k + 1, 10 * M + y, by omega, by go_num, by go_num, HN, hbd⟩
        case measure => simp [intOf]; omega
      · have hks : Hid (k = s.size) := by show _ = _; omega
        by_cases h5 : M ≤ 1000000000
        · have h5' : decide (1000000000 < (M : Int)) = false := by simp; omega
          have hans : Hid (decAns s = .tuple #[.int .i64 M, .bool true]) := by show _ = _; unfold decAns; rw [← hks.out, HM.out, if_pos h5]
          go_wp2
          go_ret2
          rw [hans.out]
          exact ⟨rfl, hbw⟩
        · have h5' : decide (1000000000 < (M : Int)) = true := by simp; omega
          have hans : Hid (decAns s = .tuple #[.int .i64 0, .bool false]) := by show _ = _; unfold decAns; rw [← hks.out, HM.out, if_neg h5]
          go_wp2
          go_ret2
          rw [hans.out]
          exact ⟨rfl, hbw⟩

theorem specDec_yes (s : ByteArray) (w : World) (hg : Wd.good s) :
    Calls Tryd.prog 39 #[.string s] w fun e w' => e = .returned (.tuple #[.int .i64 (Wd.numF s s.size), .bool true]) ∧ Below w.heap.size w w' := by
  refine (specDec_in s w hg.2.1).mono ?_
  rintro e w' ⟨hb, ⟨_, he⟩ | ⟨hno, _⟩⟩
  · exact ⟨he, hb⟩
  · exact absurd hg hno
theorem specDec_no (s : ByteArray) (w : World) (ws : s.size ≤ 1048576) (hno : ¬ Wd.good s) :
    Calls Tryd.prog 39 #[.string s] w fun e w' => e = .returned (.tuple #[.int .i64 0, .bool false]) ∧ Below w.heap.size w w' := by
  by_cases h : 10 < s.size
  · exact (specDec_long s w ws h).mono fun e w' ⟨he, hw⟩ => ⟨he, hw ▸ Below.refl _ _⟩
  · refine (specDec_in s w (by omega)).mono ?_
    rintro e w' ⟨hb, ⟨hg, _⟩ | ⟨_, he⟩⟩
    · exact absurd hg hno
    · exact ⟨he, hb⟩
theorem implDec_yes (s : ByteArray) (w : World) (hg : Wd.good s) :
    Calls Tryd.prog 62 #[.string s] w fun e w' => e = .returned (.tuple #[.int .i64 (Wd.numF s s.size), .bool true]) ∧ Below w.heap.size w w' := by
  have := implDec_loop s w hg.1 hg.2.1 hg.2.2.2.1 hg.2.2.1
  rw [show decAns s = _ from if_pos hg.2.2.2.2] at this
  exact this
theorem implDec_no (s : ByteArray) (w : World) (ws : s.size ≤ 1048576) (hno : ¬ Wd.good s) :
    Calls Tryd.prog 62 #[.string s] w fun e w' => e = .returned (.tuple #[.int .i64 0, .bool false]) ∧ Below w.heap.size w w' := by
  have still : ∀ {e : Ending} {w' : World}, (e = .returned (.tuple #[.int .i64 0, .bool false]) ∧ w' = w) → (e = .returned (.tuple #[.int .i64 0, .bool false]) ∧ Below w.heap.size w w') := fun ⟨he, hw⟩ => ⟨he, hw ▸ Below.refl _ _⟩
  by_cases h0 : s.size = 0
  · have e0 : s = ⟨#[]⟩ := ByteArray.ext (Array.eq_empty_of_size_eq_zero h0)
    subst e0
    exact (implDec_empty w).mono fun e w' h => still h
  · by_cases h : 10 < s.size
    · exact (implDec_long s w ws h).mono fun e w' h => still h
    · by_cases hb : s.size = 1 ∨ Wd.bt s 0 ≠ 48
      · by_cases hd : Wd.digs s s.size
        · have := implDec_loop s w h0 (by omega) hb hd
          rw [show decAns s = _ from if_neg (fun hn => hno ⟨h0, by omega, hd, hb, hn⟩)] at this
          exact this
        · exact implDec_bad s w h0 (by omega) hb hd
      · exact (implDec_nought s w (by omega) (by omega) (by omega)).mono fun e w' h => still h

end Go.Proofs.YtdefipahgpljeaaDoor
