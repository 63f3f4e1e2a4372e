/- The parts of a line as the specification tells them. -/
import Derived.Test.YtpkgnpckolhjgahDoorParts
namespace Go.Proofs.YtpkgnpckolhjgahDoor
open Go.RowKit

/-- How far the line has been read: the words so far, and the one that has begun at b. -/
def Told (s : ByteArray) (b i : Nat) (P : List (List UInt8)) : Prop :=
  (i ≤ s.size ∧ P ++ Wd.wordsL (sub s b i) (s.data.toList.drop i) = Wd.words s) ∨ (i = s.size + 1 ∧ P = Wd.words s)

theorem told_start (s : ByteArray) : Told s 0 0 [] := .inl ⟨Nat.zero_le _, by rw [sub_nil]; rfl⟩
theorem told_more {s : ByteArray} {b i c : Nat} {P : List (List UInt8)} (h : Told s b i P) (hbi : b ≤ i) (hi : i < s.size) (hc : Wd.bt s i = c) (hne : c ≠ 32) : Told s b (i + 1) P := by
  rcases h with ⟨_, h⟩ | ⟨h, _⟩
  · refine .inl ⟨by omega, ?_⟩
    rw [← h, drop_cons s i hi, sub_snoc s b i hbi hi]
    conv => rhs; unfold Wd.wordsL
    rw [if_neg (fun e => hne ((bt32 s i c hc).1 e))]
  · omega
theorem told_word {s : ByteArray} {b i c : Nat} {P : List (List UInt8)} (h : Told s b i P) (hbi : b < i) (hi : i < s.size) (hc : Wd.bt s i = c) (hne : c = 32) : Told s (i + 1) (i + 1) (P ++ [sub s b i]) := by
  rcases h with ⟨_, h⟩ | ⟨h, _⟩
  · refine .inl ⟨by omega, ?_⟩
    rw [← h, drop_cons s i hi, sub_nil]
    conv => rhs; unfold Wd.wordsL
    rw [if_pos ((bt32 s i c hc).2 hne), if_neg (sub_ne s b i hbi (by omega))]
    simp
  · omega
theorem told_blank {s : ByteArray} {i c : Nat} {P : List (List UInt8)} (h : Told s i i P) (hi : i < s.size) (hc : Wd.bt s i = c) (hne : c = 32) : Told s (i + 1) (i + 1) P := by
  rcases h with ⟨_, h⟩ | ⟨h, _⟩
  · refine .inl ⟨by omega, ?_⟩
    rw [← h, drop_cons s i hi, sub_nil, sub_nil]
    conv => rhs; unfold Wd.wordsL
    rw [if_pos ((bt32 s i c hc).2 hne), if_pos rfl]
  · omega
theorem drop_all (s : ByteArray) : s.data.toList.drop s.size = [] := List.drop_of_length_le (by simp)
theorem told_last {s : ByteArray} {b : Nat} {P : List (List UInt8)} (h : Told s b s.size P) (hb : b < s.size) : Told s (s.size + 1) (s.size + 1) (P ++ [sub s b s.size]) := by
  rcases h with ⟨_, h⟩ | ⟨h, _⟩
  · refine .inr ⟨rfl, ?_⟩
    rw [← h, drop_all]
    unfold Wd.wordsL
    rw [if_neg (sub_ne s b s.size hb (Nat.le_refl _))]
  · omega
theorem told_end {s : ByteArray} {P : List (List UInt8)} (h : Told s s.size s.size P) : Told s (s.size + 1) (s.size + 1) P := by
  rcases h with ⟨_, h⟩ | ⟨h, _⟩
  · refine .inr ⟨rfl, ?_⟩
    rw [← h, drop_all, sub_nil]
    simp [Wd.wordsL]
  · omega

theorem cut_at (s : ByteArray) (b i : Nat) (h : b ≤ i) (hi : i ≤ s.size) : ∀ W : World, (Instr.slice 9 (.string s) (some (.int .i64 (b : Int))) (some (.int .i64 (i : Int))) none).run Tryd.prog W = .ok (.string (s.extract b i)) W := by
  intro W
  have := run_slice_string (P := Tryd.prog) W 9 s .i64 .i64 (b : Int) (i : Int) Tryd.underlying9 (by omega) (by omega) (by omega)
  rw [this, Int.toNat_natCast, Int.toNat_natCast]

theorem plain_more {s : ByteArray} {i c : Nat} (h : Wd.plain s i) (hc : Wd.bt s i = c) (h1 : 32 ≤ c) (h2 : c ≤ 126) : Wd.plain s (i + 1) := by
  intro p hp
  by_cases h3 : p < i
  · exact h p h3
  · have : p = i := by omega
    subst this; omega

theorem slice_form {w : World} {B : Nat} {v : Value} {n : Nat} {xs : List Value} (h : w.ownsRow B 9 1 v n xs) : ∃ a c, v = .slice a n c := by
  rcases h.2 with ⟨rfl, rfl⟩ | ⟨g, cap, cur, rfl, _⟩
  · exact ⟨none, 0, rfl⟩
  · exact ⟨_, cap, rfl⟩

set_option maxRecDepth 100000 in
set_option maxHeartbeats 2000000 in
theorem specParts_in (s : ByteArray) (w : World) (h : s.size ≤ 600) : Calls Tryd.prog 7 #[.string s] w (PartsLeft s w) := by
  have hlong : decide (600 < (s.size : Int)) = false := by simp; omega
  go_enter Tryd.func7, Tryd.ntmps7
  go_wp2
  go_loopw [4, 5, 6] (fun v bg ii wr => ∃ (b i : Nat) (P : List (List UInt8)), bg = .int .i64 b ∧ ii = .int .i64 i ∧ b ≤ i ∧ i ≤ s.size + 1 ∧ P.length ≤ i ∧ wr.ownsRow w.heap.size 9 1 v P.length (P.map sv) ∧ Hid (Wd.plain s (min i s.size)) ∧ Hid (Told s b i P) ∧ Below w.heap.size w wr) (fun _ _ ii _ => s.size + 1 - (intOf ii).toNat)
  case atStart =>
    refine ⟨0, 0, [], rfl, rfl, Nat.le_refl _, Nat.zero_le _, Nat.le_refl _, ?_, fun p hp => absurd hp (by omega), told_start s, (Below.refl _ _).alloc (Nat.le_refl _) _⟩
    exact World.ownsRow_lit w #[] 0 (Nat.le_refl _) (by unfold maxLen; omega) (by simp)
  case round =>
    obtain ⟨b, i, P, rfl, rfl, hbi, his, hPl, hown, HP, HT, hb⟩ := hrel
    have hbs := hb.size
    by_cases hle : i ≤ s.size
    · have hle' : decide ((i : Int) ≤ (s.size : Int)) = true := by simp; omega
      by_cases hlt : i < s.size
      · have hlt' : decide ((i : Int) < (s.size : Int)) = true := by simp; omega
        obtain ⟨c, hC, hct, hc256⟩ : ∃ c : Nat, Hid (Wd.bt s i = c) ∧ (s[i]'hlt).toNat = c ∧ c < 256 := ⟨_, rfl, Wd.bt_eq s i hlt, Wd.bt_lt s i⟩
        by_cases h1 : c < 32
        · have h1' : decide ((c : Int) < 32) = true := by simp; omega
          have hno : Hid (¬ Wd.right s) := fun hr => by have := (hr.2.1 i hlt).1; rw [hC.out] at this; omega
          go_wp2
          go_ret2
          exact ⟨hb.alloc hbs _, .inr ⟨hno.out, _, rfl, World.ownsRow_lit wr #[] 0 hbs (by unfold maxLen; omega) (by simp)⟩⟩
        · have h1' : decide ((c : Int) < 32) = false := by simp; omega
          by_cases h2 : 126 < c
          · have h2' : decide (126 < (c : Int)) = true := by simp; omega
            have hno : Hid (¬ Wd.right s) := fun hr => by have := (hr.2.1 i hlt).2; rw [hC.out] at this; omega
            go_wp2
            go_ret2
            exact ⟨hb.alloc hbs _, .inr ⟨hno.out, _, rfl, World.ownsRow_lit wr #[] 0 hbs (by unfold maxLen; omega) (by simp)⟩⟩
          · have h2' : decide (126 < (c : Int)) = false := by simp; omega
            have hpl : Hid (Wd.plain s (min (i + 1) s.size)) := by
              have h3 := HP.out
              rw [Nat.min_eq_left (by omega)] at h3
              show Wd.plain s (min (i + 1) s.size)
              rw [Nat.min_eq_left (by omega)]
              exact plain_more h3 hC.out (by omega) (by omega)
            by_cases h3 : c = 32
            · have h3' : ((c : Int) != 32) = false := by simp; omega
              by_cases h4 : b < i
              · have h4' : decide ((b : Int) < (i : Int)) = true := by simp; omega
                have HT' := hide (told_word HT.out h4 hlt hC.out h3)
                have hcut := cut_at s b i (by omega) (by omega)
                have H3 := hide h3
                clear h3
                go_wp2_with (at_builtin; refine app_str wr w w.heap.size rfl _ _ rfl _ P rfl hown rfl (by omega) hb hbs ?_; intro v' w1 hown1 hb1 hs1)
                go_roundw
                case rel =>
                  refine ⟨i + 1, i + 1, P ++ [sub s b i], by go_num, by go_num, Nat.le_refl _, by omega, by simp; omega, ?_, hpl, HT', hb1⟩
                  rw [← sub_extract]
                  exact hown1
                case measure => simp [intOf]; omega
              · have h4' : decide ((b : Int) < (i : Int)) = false := by simp; omega
                have hbe : b = i := by omega
                have HT' : Hid (Told s (i + 1) (i + 1) P) := told_blank (by rw [hbe] at HT; exact HT.out) hlt hC.out h3
                clear h3 hbe
                go_wp2
                go_roundw
                case rel => exact ⟨i + 1, i + 1, P, by go_num, by go_num, Nat.le_refl _, by omega, by omega, hown, hpl, HT', hb⟩
                case measure => simp [intOf]; omega
            · have h3' : ((c : Int) != 32) = true := by simp; omega
              have HT' := hide (told_more HT.out hbi hlt hC.out h3)
              go_wp2
              go_roundw
              case rel => exact ⟨b, i + 1, P, rfl, by go_num, by omega, by omega, by omega, hown, hpl, HT', hb⟩
              case measure => simp [intOf]; omega
      · have hlt' : decide ((i : Int) < (s.size : Int)) = false := by simp; omega
        have hie : i = s.size := by omega
        have hpl : Hid (Wd.plain s (min (i + 1) s.size)) := by
          have h3 := HP.out
          rw [hie, Nat.min_self] at h3
          show Wd.plain s (min (i + 1) s.size)
          rw [hie, Nat.min_eq_right (by omega)]
          exact h3
        by_cases h4 : b < i
        · have h4' : decide ((b : Int) < (i : Int)) = true := by simp; omega
          have HT' : Hid (Told s (i + 1) (i + 1) (P ++ [sub s b i])) := by
            show Told s (i + 1) (i + 1) (P ++ [sub s b i])
            have h3 := HT.out
            rw [hie] at h3 h4 ⊢
            exact told_last h3 h4
          have hcut := cut_at s b i (by omega) (by omega)
          clear hie
          go_wp2_with (at_builtin; refine app_str wr w w.heap.size rfl _ _ rfl _ P rfl hown rfl (by omega) hb hbs ?_; intro v' w1 hown1 hb1 hs1)
          go_roundw
          case rel =>
            refine ⟨i + 1, i + 1, P ++ [sub s b i], by go_num, by go_num, Nat.le_refl _, by omega, by simp; omega, ?_, hpl, HT', hb1⟩
            rw [← sub_extract]
            exact hown1
          case measure => simp [intOf]; omega
        · have h4' : decide ((b : Int) < (i : Int)) = false := by simp; omega
          have HT' : Hid (Told s (i + 1) (i + 1) P) := by
            show Told s (i + 1) (i + 1) P
            have h3 := HT.out
            rw [show b = i from by omega, hie] at h3
            rw [hie]
            exact told_end h3
          clear hie
          go_wp2
          go_roundw
          case rel => exact ⟨i + 1, i + 1, P, by go_num, by go_num, Nat.le_refl _, by omega, by omega, hown, hpl, HT', hb⟩
          case measure => simp [intOf]; omega
    · have hle' : decide ((i : Int) ≤ (s.size : Int)) = false := by simp; omega
      have hPw : Hid (P = Wd.words s) := by
        rcases HT.out with ⟨h3, _⟩ | ⟨_, h3⟩
        · omega
        · exact h3
      have hpl : Hid (Wd.plain s s.size) := by
        have h3 := HP.out
        rw [Nat.min_eq_right (by omega)] at h3
        exact h3
      obtain ⟨a, cp, rfl⟩ := slice_form hown
      by_cases h5 : 10 < P.length
      · have h5' : decide (10 < (P.length : Int)) = true := by simp; omega
        have hno : Hid (¬ Wd.right s) := fun hr => by have := hr.2.2; rw [← hPw.out] at this; omega
        go_wp2
        go_ret2
        exact ⟨hb.alloc hbs _, .inr ⟨hno.out, _, rfl, World.ownsRow_lit wr #[] 0 hbs (by unfold maxLen; omega) (by simp)⟩⟩
      · have h5' : decide (10 < (P.length : Int)) = false := by simp; omega
        have hyes : Hid (Wd.right s) := ⟨h, hpl.out, by rw [← hPw.out]; omega⟩
        go_wp2
        go_ret2
        refine ⟨hb, .inl ⟨hyes.out, _, rfl, ?_⟩⟩
        rw [← hPw.out]
        exact hown
end Go.Proofs.YtpkgnpckolhjgahDoor
