/- The text whose figures these are: the reader of the program and that of the specification answer the same. -/
import Derived.Test.YtpkgnpckolhjgahFigs
namespace Go.Proofs.Ytpkgnpckolhjgah
open Go.RowKit

theorem value_any (x : Nat) (w : World) (h : x < 256) :
    Calls Try.prog 13 #[.int .u8 (x : Int)] w fun e w' => e = .returned (.int .i64 (Wd.valI x)) ∧ w' = w := by
  by_cases h1 : 48 ≤ x
  · have h1' : decide ((48 : Int) ≤ (x : Int)) = true := by simp; omega
    by_cases h2 : x ≤ 57
    · have h2' : decide ((x : Int) ≤ 57) = true := by simp; omega
      have e1 : Hid (Wd.valI x = (x : Int) - 48) := by show _ = _; unfold Wd.valI; rw [if_pos ⟨h1, h2⟩]
      go_enter Try.func13, Try.ntmps13
      go_wp2
      go_ret
      rw [e1.out]
      exact ⟨rfl, rfl⟩
    · have h2' : decide ((x : Int) ≤ 57) = false := by simp; omega
      by_cases h3 : 97 ≤ x
      · have h3' : decide ((97 : Int) ≤ (x : Int)) = true := by simp; omega
        by_cases h4 : x ≤ 102
        · have h4' : decide ((x : Int) ≤ 102) = true := by simp; omega
          have e1 : Hid (Wd.valI x = (x : Int) - 97 + 10) := by show _ = _; unfold Wd.valI; rw [if_neg (by omega), if_pos ⟨h3, h4⟩]; omega
          go_enter Try.func13, Try.ntmps13
          go_wp2
          go_ret
          rw [e1.out]
          exact ⟨rfl, rfl⟩
        · have h4' : decide ((x : Int) ≤ 102) = false := by simp; omega
          have e1 : Hid (Wd.valI x = -1) := by show _ = _; unfold Wd.valI; rw [if_neg (by omega), if_neg (by omega)]
          go_enter Try.func13, Try.ntmps13
          go_wp2
          go_ret
          rw [e1.out]
          exact ⟨rfl, rfl⟩
      · have h3' : decide ((97 : Int) ≤ (x : Int)) = false := by simp; omega
        have e1 : Hid (Wd.valI x = -1) := by show _ = _; unfold Wd.valI; rw [if_neg (by omega), if_neg (by omega)]
        go_enter Try.func13, Try.ntmps13
        go_wp2
        go_ret
        rw [e1.out]
        exact ⟨rfl, rfl⟩
  · have h1' : decide ((48 : Int) ≤ (x : Int)) = false := by simp; omega
    have h3' : decide ((97 : Int) ≤ (x : Int)) = false := by simp; omega
    have e1 : Hid (Wd.valI x = -1) := by show _ = _; unfold Wd.valI; rw [if_neg (by omega), if_neg (by omega)]
    go_enter Try.func13, Try.ntmps13
    go_wp2
    go_ret
    rw [e1.out]
    exact ⟨rfl, rfl⟩

theorem specUnhex_no (s : ByteArray) (w : World) (ws : s.size ≤ 1048576) (h : 40000 < s.size ∨ s.size % 2 ≠ 0) :
    Calls Try.prog 8 #[.string s] w fun e w' => e = .returned (.tuple #[.string ⟨#[]⟩, .bool false]) ∧ w' = w := by
  by_cases h1 : 40000 < s.size
  · have h1' : decide (40000 < (s.size : Int)) = true := by simp; omega
    go_enter Try.func8, Try.ntmps8
    go_wp2
    go_ret2
    exact ⟨rfl, rfl⟩
  · have h1' : decide (40000 < (s.size : Int)) = false := by simp; omega
    have h2 : ((s.size : Int) % 2 != 0) = true := by simp; omega
    go_enter Try.func8, Try.ntmps8
    go_wp2
    go_ret2
    exact ⟨rfl, rfl⟩
theorem implUnhex_no (s : ByteArray) (w : World) (ws : s.size ≤ 1048576) (h : 40000 < s.size ∨ s.size % 2 ≠ 0) :
    Calls Try.prog 9 #[.string s] w fun e w' => e = .returned (.tuple #[.string ⟨#[]⟩, .bool false]) ∧ w' = w := by
  by_cases h1 : s.size % 2 = 0
  · have h1' : decide (40000 < (s.size : Int)) = true := by simp; omega
    have h2 : ((s.size : Int) % 2 != 0) = false := by simp; omega
    go_enter Try.func9, Try.ntmps9
    go_wp2
    go_ret2
    exact ⟨rfl, rfl⟩
  · have h2 : ((s.size : Int) % 2 != 0) = true := by simp; omega
    go_enter Try.func9, Try.ntmps9
    go_wp2
    go_ret2
    exact ⟨rfl, rfl⟩

set_option maxRecDepth 100000 in
set_option maxHeartbeats 1000000 in
theorem specUnhex_in (s : ByteArray) (w : World) (h : s.size ≤ 40000) (h2 : s.size % 2 = 0) :
    Calls Try.prog 8 #[.string s] w fun e w' => Below w.heap.size w w' ∧ (((∀ p, p < s.size → Wd.isFig s 16 p) ∧ e = .returned (.tuple #[.string ⟨(Wd.unF s (s.size / 2)).toArray⟩, .bool true])) ∨ ((∃ p, p < s.size ∧ ¬ Wd.isFig s 16 p) ∧ e = .returned (.tuple #[.string ⟨#[]⟩, .bool false]))) := by
  have h1' : decide (40000 < (s.size : Int)) = false := by simp; omega
  have h2' : ((s.size : Int) % 2 != 0) = false := by simp; omega
  go_enter Try.func8, Try.ntmps8
  go_wp2
  go_loopw [4, 5] (fun v i wr => ∃ m P : Nat, Hid (P = 2 * m) ∧ P ≤ s.size ∧ i = .int .i64 P ∧ wr.ownsRow w.heap.size 5 1 v (Wd.unF s m).length ((Wd.unF s m).map bv) ∧ Hid (∀ p, p < P → Wd.isFig s 16 p) ∧ Below w.heap.size w wr) (fun _ i _ => s.size - (intOf i).toNat)
  case atStart =>
    refine ⟨0, 0, rfl, Nat.zero_le _, rfl, ?_, fun p hp => absurd hp (by omega), (Below.refl _ _).alloc (Nat.le_refl _) _⟩
    exact World.ownsRow_lit w #[] 0 (Nat.le_refl _) (by unfold maxLen; omega) (by simp)
  case round =>
    obtain ⟨m, P, HP, hm, rfl, hown, HI, hb⟩ := hrel
    have hbs := hb.size
    by_cases hlt : P < s.size
    · have hlt2 : P + 1 < s.size := by have := HP.out; omega
      obtain ⟨b, hB, hbt, hb256⟩ : ∃ b : Nat, Hid (Wd.bt s P = b) ∧ (s[P]'hlt).toNat = b ∧ b < 256 := ⟨_, rfl, Wd.bt_eq s P hlt, Wd.bt_lt s P⟩
      obtain ⟨c, hC, hct, hc256⟩ : ∃ b : Nat, Hid (Wd.bt s (P + 1) = b) ∧ (s[P + 1]'hlt2).toNat = b ∧ b < 256 := ⟨_, rfl, Wd.bt_eq s (P + 1) hlt2, Wd.bt_lt s (P + 1)⟩
      have hvb := Wd.valI_bd b
      have hvc := Wd.valI_bd c
      by_cases h3 : Wd.valI b < 0
      · have h3' : decide (Wd.valI b < 0) = true := by simp; omega
        go_wp2_with (go_at_call 13; refine (value_any _ _ (by assumption)).mono ?_; rintro e w1 ⟨rfl, rfl⟩)
        go_ret2
        exact ⟨hb, .inr ⟨⟨P, hlt, fun hf => by have := hf.1; rw [hB.out] at this; omega⟩, rfl⟩⟩
      · have h3' : decide (Wd.valI b < 0) = false := by simp; omega
        by_cases h4 : Wd.valI c < 0
        · have h4' : decide (Wd.valI c < 0) = true := by simp; omega
          go_wp2_with (go_at_call 13; refine (value_any _ _ (by assumption)).mono ?_; rintro e w1 ⟨rfl, rfl⟩)
          go_ret2
          exact ⟨hb, .inr ⟨⟨P + 1, hlt2, fun hf => by have := hf.1; rw [hC.out] at this; omega⟩, rfl⟩⟩
        · have h4' : decide (Wd.valI c < 0) = false := by simp; omega
          obtain ⟨y, hy, hyn⟩ : ∃ y : UInt8, Hid (y = UInt8.ofNat (16 * Wd.valI b + Wd.valI c).toNat) ∧ Hid (16 * Wd.valI b + Wd.valI c = (y.toNat : Int)) := ⟨_, rfl, by simp only [Hid, UInt8.toNat_ofNat']; omega⟩
          have hl := Wd.unF_length s m
          have hmP : 2 * m ≤ 40000 := by have := HP.out; omega
          go_wp2_with (first | (go_at_call 13; refine (value_any _ _ (by assumption)).mono ?_; rintro e w1 ⟨rfl, rfl⟩) | (at_builtin; refine app_bytes _ 27 5 Try.underlying27 Try.info5 w w.heap.size rfl _ _ rfl _ (Wd.unF s m) [y] rfl hown rfl (by simp [bv, hyn.out]) (by simp; omega) hb hbs ?_; intro v' w1 hown1 hb1 hs1))
          go_roundw
          case rel =>
            refine ⟨m + 1, P + 2, by have := HP.out; show _ = _; omega, by omega, by go_num, ?_, ?_, hb1⟩
            · rw [show Wd.unF s (m + 1) = Wd.unF s m ++ [y] from by
                show Wd.unF s m ++ [UInt8.ofNat (16 * Wd.valI (Wd.bt s (2 * m)) + Wd.valI (Wd.bt s (2 * m + 1))).toNat] = _
                rw [← HP.out, hB.out, hC.out, hy.out]]
              exact hown1
            · intro p hp
              by_cases hp1 : p < P
              · exact HI.out p hp1
              · have : p = P ∨ p = P + 1 := by omega
                rcases this with rfl | rfl
                · exact ⟨by rw [hB.out]; omega, by rw [hB.out]; omega⟩
                · exact ⟨by rw [hC.out]; omega, by rw [hC.out]; omega⟩
          case measure => simp [intOf]; omega
    · have hcv := conv_own 27 5 9 Try.underlying27 Try.underlying5 Try.underlying9 wr _ _ _ hown
      have hfin : Hid (s.size / 2 = m) := by have := HP.out; show _ = _; omega
      go_wp2
      go_ret2
      refine ⟨hb, .inl ⟨fun p hp => HI.out p (by have := HP.out; omega), ?_⟩⟩
      rw [hfin.out]
      rfl
end Go.Proofs.Ytpkgnpckolhjgah
