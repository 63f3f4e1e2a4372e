/- The specification's reader of a number answers as 'Wd.rv' says. -/
import Derived.Test.YtbenmgokhklnjaaRv
import Derived.Test.YtbenmgokhklnjaaVarS
import Derived.Deep.RegionHeld3
import Derived.BigQuiet
import Derived.WalkSmall
namespace Go.Proofs.Ytbenmgokhklnjaa
open Go.RowKit

theorem cut_run (s : ByteArray) (i P : Nat) (h1 : i ≤ P + 1) (h2 : P < s.size) : ∀ W : World, (Instr.slice 9 (.string s) (some (.int .i64 (i : Int))) (some (.int .i64 ((P : Int) + 1))) none).run Try.prog W = .ok (.string (s.extract i (P + 1))) W := by
  intro W
  have := run_slice_string (P := Try.prog) W 9 s .i64 .i64 (i : Int) ((P : Int) + 1) Try.underlying9 (by omega) (by omega) (by omega)
  rw [this, Int.toNat_natCast, show ((P : Int) + 1).toNat = P + 1 from by omega]

theorem canon_test (s : ByteArray) (i P k m b Q : Nat) (hPk : P = i + k) (hm : m = Wd.valF s i k) (hall : ∀ j, j < k → 128 ≤ Wd.bt s (i + j)) (hB : Wd.bt s P = b) (hb : b < 128) (hlt : P < s.size) (hk : k < 5) (hQ : Q = 128 ^ k) :
    ∀ N, N = m + b % 128 * Q → (Wd.varF 5 N == (s.extract i (P + 1)).toList) = decide (0 < b ∨ k = 0) := by
  intro N hN
  subst hPk hm hB hQ
  have e1 : N = Wd.valF s i (k + 1) := by rw [hN, Wd.valF_snoc]
  have e2 : (s.extract i (i + k + 1)).toList = Wd.subF s i (k + 1) := by
    rw [show i + k + 1 = i + (k + 1) from by omega, ByteArray.toList_eq, Wd.subF_extract s i (k + 1) (by omega)]
  rw [e1, e2, Bool.eq_iff_iff, beq_iff_eq, decide_eq_true_iff]
  exact Wd.canonF s k i 5 hall hb (by omega)

theorem val_more (s : ByteArray) (i P k m b : Nat) (hPk : P = i + k) (hm : m = Wd.valF s i k) (hB : Wd.bt s P = b) : m + b % 128 * 128 ^ k = Wd.valF s i (k + 1) := by
  subst hPk hm hB; rw [Wd.valF_snoc]
theorem all_more (s : ByteArray) (i P k b : Nat) (hPk : P = i + k) (hall : ∀ j, j < k → 128 ≤ Wd.bt s (i + j)) (hB : Wd.bt s P = b) (hb : 128 ≤ b) : ∀ j, j < k + 1 → 128 ≤ Wd.bt s (i + j) := by
  intro j hj
  by_cases h : j < k
  · exact hall j h
  · have : j = k := by omega
    subst this hPk; omega

theorem specRead_out (s : ByteArray) (i : Int) (w : World) (hs : s.size ≤ 1048576) (h : i < 0 ∨ (s.size : Int) < i) :
    Calls Try.prog 74 #[.string s, .int .i64 i] w fun e w' => e = .returned (rvAns none) ∧ w' = w := by
  rcases h with h | h
  · have h' : decide (0 ≤ i) = false := by simp; omega
    go_enter Try.func74, Try.ntmps74
    go_wp2
    go_ret3
    exact ⟨rfl, rfl⟩
  · have h' : 0 ≤ i := by omega
    have h2 : decide (i ≤ (s.size : Int)) = false := by simp; omega
    go_enter Try.func74, Try.ntmps74
    go_wp2
    go_ret3
    exact ⟨rfl, rfl⟩

set_option maxRecDepth 100000 in
set_option maxHeartbeats 1000000 in
theorem specRead_in (s : ByteArray) (i : Nat) (w : World) (hs : s.size ≤ 1048576) (h : i ≤ s.size) :
    Calls Try.prog 74 #[.string s, .int .i64 i] w fun e w' => e = .returned (rvAns (Wd.rv s i)) ∧ Below w.heap.size w w' := by
  have h0 : decide ((0 : Int) ≤ (i : Int)) = true := by simp
  have h1 : decide ((i : Int) ≤ (s.size : Int)) = true := by simp; omega
  go_enter Try.func74, Try.ntmps74
  go_wp2
  go_loop [7, 8, 9] (fun n q p => ∃ k f Q m P : Nat, n = .int .i64 m ∧ q = .int .i64 Q ∧ p = .int .i64 P ∧ P ≤ s.size ∧ Hid (Wd.rv s i = Wd.rvF s f P k Q m) ∧ Hid (P = i + k) ∧ Hid (m = Wd.valF s i k) ∧ Hid (∀ j, j < k → 128 ≤ Wd.bt s (i + j)) ∧ ((k = 0 ∧ f = 5 ∧ Q = 1 ∧ m = 0) ∨ (k = 1 ∧ f = 4 ∧ Q = 128 ∧ m < 128) ∨ (k = 2 ∧ f = 3 ∧ Q = 16384 ∧ m < 16384) ∨ (k = 3 ∧ f = 2 ∧ Q = 2097152 ∧ m < 2097152) ∨ (k = 4 ∧ f = 1 ∧ Q = 268435456 ∧ m < 268435456) ∨ (k = 5 ∧ f = 0 ∧ Q = 34359738368 ∧ m < 34359738368))) (fun _ _ p => s.size - (intOf p).toNat)
  case atStart => exact ⟨0, 5, 1, 0, i, rfl, rfl, rfl, h, rfl, rfl, rfl, fun j hj => absurd hj (by omega), .inl ⟨rfl, rfl, rfl, rfl⟩⟩
  case round =>
    obtain ⟨k, f, Q, m, P, rfl, rfl, rfl, hP, hrv, hPk, hval, hall, hcase⟩ := hrel
    by_cases hlt : P < s.size
    · obtain ⟨b, hB, hbt, hb256⟩ : ∃ b : Nat, Hid (Wd.bt s P = b) ∧ (s[P]'hlt).toNat = b ∧ b < 256 := ⟨_, rfl, Wd.bt_eq s P hlt, Wd.bt_lt s P⟩
      by_cases hb : b < 128
      · rcases hcase with ⟨rfl, rfl, rfl, rfl⟩ | ⟨rfl, rfl, rfl, hm⟩ | ⟨rfl, rfl, rfl, hm⟩ | ⟨rfl, rfl, rfl, hm⟩ | ⟨rfl, rfl, rfl, hm⟩ | ⟨rfl, rfl, rfl, hm⟩
        case inr.inr.inr.inr.inr =>
          have hfin : Hid (Wd.rv s i = none) := hrv.out.trans rfl
          have hP5 : decide ((P : Int) < (i : Int) + 5) = false := by have := hPk.out; simp; omega
          go_wp2
          go_ret3
          rw [hfin.out]
          exact ⟨rfl, Below.refl _ _⟩
        case inr.inr.inr.inr.inl =>
          have hP5 : decide ((P : Int) < (i : Int) + 5) = true := by have := hPk.out; simp; omega
          by_cases hn : m + b % 128 * 268435456 ≤ 1000000000
          · have hn' : decide (1000000000 < (m : Int) + (b : Int) % 128 * 268435456) = false := by simp; omega
            have hc := hide (canon_test s i P _ m b 268435456 hPk.out hval.out hall.out hB.out hb hlt (by omega) rfl)
            have hsl := cut_run s i P (by have := hPk.out; omega) hlt
            have hwr : IntKind.i64.wrap ((P : Int) + 1) = (P : Int) + 1 := by rw [IntKind.wrap_i64]; omega
            go_wp2
            go_region_held3 (fun _ => True) (trivial) ((go_at_call 71; refine (l01Var_int _ _ (by omega) (by omega)).mono ?_; rintro e w1 ⟨rfl, hbw⟩))
            go_wp2
            · have ht := ‹(!Wd.varF 5 _ == (s.extract i (P + 1)).toList) = true›
              rw [hc.out _ (by omega)] at ht
              have hz : ¬ (0 < b ∨ 4 = 0) := by simpa using ht
              have hfin := hide (hrv.out.trans (Wd.rvF_notB hB.out hb (fun h => hz h.2)))
              go_ret3
              rw [hfin.out]
              exact ⟨rfl, (Below.refl _ _).drew.trans hbw⟩
            · have ht := ‹(!Wd.varF 5 _ == (s.extract i (P + 1)).toList) = false›
              rw [hc.out _ (by omega)] at ht
              have hz : 0 < b ∨ 4 = 0 := by simpa using ht
              have hfin := hide (hrv.out.trans (Wd.rvF_lastB hB.out hlt hb hn hz))
              go_ret3
              rw [hfin.out]
              exact ⟨ret3 (by omega) (by omega), (Below.refl _ _).drew.trans hbw⟩
          · have hn' : decide (1000000000 < (m : Int) + (b : Int) % 128 * 268435456) = true := by simp; omega
            have hfin := hide (hrv.out.trans (Wd.rvF_notB hB.out hb (fun h => hn h.1)))
            go_wp2
            go_quiet (fail)
            go_wp2
            go_ret3
            rw [hfin.out]
            exact ⟨rfl, below_drewN (Below.refl _ _) _⟩
        case inl =>
          have hP5 : decide ((P : Int) < (i : Int) + 5) = true := by have := hPk.out; simp; omega
          have hn' : decide (1000000000 < (b : Int) % 128) = false := by simp; omega
          have hc := hide (canon_test s i P _ 0 b 1 hPk.out hval.out hall.out hB.out hb hlt (by omega) rfl)
          have hsl := cut_run s i P (by have := hPk.out; omega) hlt
          have hwr : IntKind.i64.wrap ((P : Int) + 1) = (P : Int) + 1 := by rw [IntKind.wrap_i64]; omega
          go_wp2
          go_region_held3 (fun _ => True) (trivial) ((go_at_call 71; refine (l01Var_int _ _ (by omega) (by omega)).mono ?_; rintro e w1 ⟨rfl, hbw⟩))
          go_wp2
          · have ht := ‹(!Wd.varF 5 _ == (s.extract i (P + 1)).toList) = true›
            rw [hc.out _ (by omega)] at ht
            exact absurd ht (by simp)
          · have hfin := hide (hrv.out.trans (Wd.rvF_lastB hB.out hlt hb (by omega) (.inr rfl)))
            go_ret3
            rw [hfin.out]
            exact ⟨ret3 (by omega) (by omega), (Below.refl _ _).drew.trans hbw⟩
        case inr.inl =>
          have hP5 : decide ((P : Int) < (i : Int) + 5) = true := by have := hPk.out; simp; omega
          have hn' : decide (1000000000 < (m : Int) + (b : Int) % 128 * 128) = false := by simp; omega
          have hc := hide (canon_test s i P _ m b 128 hPk.out hval.out hall.out hB.out hb hlt (by omega) rfl)
          have hsl := cut_run s i P (by have := hPk.out; omega) hlt
          have hwr : IntKind.i64.wrap ((P : Int) + 1) = (P : Int) + 1 := by rw [IntKind.wrap_i64]; omega
          go_wp2
          go_region_held3 (fun _ => True) (trivial) ((go_at_call 71; refine (l01Var_int _ _ (by omega) (by omega)).mono ?_; rintro e w1 ⟨rfl, hbw⟩))
          go_wp2
          · have ht := ‹(!Wd.varF 5 _ == (s.extract i (P + 1)).toList) = true›
            rw [hc.out _ (by omega)] at ht
            have hz : ¬ (0 < b ∨ 1 = 0) := by simpa using ht
            have hfin := hide (hrv.out.trans (Wd.rvF_notB hB.out hb (fun h => hz h.2)))
            go_ret3
            rw [hfin.out]
            exact ⟨rfl, (Below.refl _ _).drew.trans hbw⟩
          · have ht := ‹(!Wd.varF 5 _ == (s.extract i (P + 1)).toList) = false›
            rw [hc.out _ (by omega)] at ht
            have hz : 0 < b ∨ 1 = 0 := by simpa using ht
            have hfin := hide (hrv.out.trans (Wd.rvF_lastB hB.out hlt hb (by omega) hz))
            go_ret3
            rw [hfin.out]
            exact ⟨ret3 (by omega) (by omega), (Below.refl _ _).drew.trans hbw⟩
        case inr.inr.inl =>
          have hP5 : decide ((P : Int) < (i : Int) + 5) = true := by have := hPk.out; simp; omega
          have hn' : decide (1000000000 < (m : Int) + (b : Int) % 128 * 16384) = false := by simp; omega
          have hc := hide (canon_test s i P _ m b 16384 hPk.out hval.out hall.out hB.out hb hlt (by omega) rfl)
          have hsl := cut_run s i P (by have := hPk.out; omega) hlt
          have hwr : IntKind.i64.wrap ((P : Int) + 1) = (P : Int) + 1 := by rw [IntKind.wrap_i64]; omega
          go_wp2
          go_region_held3 (fun _ => True) (trivial) ((go_at_call 71; refine (l01Var_int _ _ (by omega) (by omega)).mono ?_; rintro e w1 ⟨rfl, hbw⟩))
          go_wp2
          · have ht := ‹(!Wd.varF 5 _ == (s.extract i (P + 1)).toList) = true›
            rw [hc.out _ (by omega)] at ht
            have hz : ¬ (0 < b ∨ 2 = 0) := by simpa using ht
            have hfin := hide (hrv.out.trans (Wd.rvF_notB hB.out hb (fun h => hz h.2)))
            go_ret3
            rw [hfin.out]
            exact ⟨rfl, (Below.refl _ _).drew.trans hbw⟩
          · have ht := ‹(!Wd.varF 5 _ == (s.extract i (P + 1)).toList) = false›
            rw [hc.out _ (by omega)] at ht
            have hz : 0 < b ∨ 2 = 0 := by simpa using ht
            have hfin := hide (hrv.out.trans (Wd.rvF_lastB hB.out hlt hb (by omega) hz))
            go_ret3
            rw [hfin.out]
            exact ⟨ret3 (by omega) (by omega), (Below.refl _ _).drew.trans hbw⟩
        case inr.inr.inr.inl =>
          have hP5 : decide ((P : Int) < (i : Int) + 5) = true := by have := hPk.out; simp; omega
          have hn' : decide (1000000000 < (m : Int) + (b : Int) % 128 * 2097152) = false := by simp; omega
          have hc := hide (canon_test s i P _ m b 2097152 hPk.out hval.out hall.out hB.out hb hlt (by omega) rfl)
          have hsl := cut_run s i P (by have := hPk.out; omega) hlt
          have hwr : IntKind.i64.wrap ((P : Int) + 1) = (P : Int) + 1 := by rw [IntKind.wrap_i64]; omega
          go_wp2
          go_region_held3 (fun _ => True) (trivial) ((go_at_call 71; refine (l01Var_int _ _ (by omega) (by omega)).mono ?_; rintro e w1 ⟨rfl, hbw⟩))
          go_wp2
          · have ht := ‹(!Wd.varF 5 _ == (s.extract i (P + 1)).toList) = true›
            rw [hc.out _ (by omega)] at ht
            have hz : ¬ (0 < b ∨ 3 = 0) := by simpa using ht
            have hfin := hide (hrv.out.trans (Wd.rvF_notB hB.out hb (fun h => hz h.2)))
            go_ret3
            rw [hfin.out]
            exact ⟨rfl, (Below.refl _ _).drew.trans hbw⟩
          · have ht := ‹(!Wd.varF 5 _ == (s.extract i (P + 1)).toList) = false›
            rw [hc.out _ (by omega)] at ht
            have hz : 0 < b ∨ 3 = 0 := by simpa using ht
            have hfin := hide (hrv.out.trans (Wd.rvF_lastB hB.out hlt hb (by omega) hz))
            go_ret3
            rw [hfin.out]
            exact ⟨ret3 (by omega) (by omega), (Below.refl _ _).drew.trans hbw⟩
      · rcases hcase with ⟨rfl, rfl, rfl, rfl⟩ | ⟨rfl, rfl, rfl, hm⟩ | ⟨rfl, rfl, rfl, hm⟩ | ⟨rfl, rfl, rfl, hm⟩ | ⟨rfl, rfl, rfl, hm⟩ | ⟨rfl, rfl, rfl, hm⟩
        case inr.inr.inr.inr.inr =>
          have hfin : Hid (Wd.rv s i = none) := hrv.out.trans rfl
          have hP5 : decide ((P : Int) < (i : Int) + 5) = false := by have := hPk.out; simp; omega
          go_wp2
          go_ret3
          rw [hfin.out]
          exact ⟨rfl, Below.refl _ _⟩
        all_goals
          have hP5 : decide ((P : Int) < (i : Int) + 5) = true := by have := hPk.out; simp; omega
          have hmore := hide (hrv.out.trans (Wd.rvF_moreB hB.out hlt hb))
          have hval' := hide (val_more s i P _ _ b hPk.out hval.out hB.out)
          have hall' := hide (all_more s i P _ b hPk.out hall.out hB.out (by omega))
          go_wp2
          go_round
          case rel =>
            refine ⟨_, _, _, _, P + 1, ?_, ?_, by go_num, by omega, hmore, by have := hPk.out; show _ = _; omega, hval', hall', ?_⟩
            · go_num
            · go_num
            · simp; try omega
          case measure => simp [intOf]; omega
    · have hfin : Hid (Wd.rv s i = none) := hrv.out.trans (Wd.rvF_end _ _ _ _ _ _ hlt)
      go_wp2
      go_ret3
      rw [hfin.out]
      exact ⟨rfl, Below.refl _ _⟩

theorem specRead_any (s : ByteArray) (i : Int) (w : World) (hs : s.size ≤ 1048576) :
    Calls Try.prog 74 #[.string s, .int .i64 i] w fun e w' => e = .returned (rvAns (Wd.rvI s i)) ∧ Below w.heap.size w w' := by
  by_cases h : i < 0 ∨ (s.size : Int) < i
  · rw [show Wd.rvI s i = none from if_pos h]
    exact (specRead_out s i w hs h).mono fun e w' ⟨he, hw⟩ => ⟨he, hw ▸ Below.refl _ _⟩
  · rw [show Wd.rvI s i = Wd.rv s i.toNat from if_neg h]
    obtain ⟨k, rfl⟩ := Int.eq_ofNat_of_zero_le (show 0 ≤ i by omega)
    exact specRead_in s k w hs (by omega)

theorem specRead_some (s : ByteArray) (i : Int) (w : World) (a b : Nat) (hs : s.size ≤ 1048576) (h : Wd.rvI s i = some (a, b)) :
    Calls Try.prog 74 #[.string s, .int .i64 i] w fun e w' => e = .returned (.tuple #[.int .i64 a, .int .i64 b, .bool true]) ∧ Below w.heap.size w w' := by
  have := specRead_any s i w hs; rw [h] at this; exact this
theorem specRead_none (s : ByteArray) (i : Int) (w : World) (hs : s.size ≤ 1048576) (h : Wd.rvI s i = none) :
    Calls Try.prog 74 #[.string s, .int .i64 i] w fun e w' => e = .returned (.tuple #[.int .i64 0, .int .i64 0, .bool false]) ∧ Below w.heap.size w w' := by
  have := specRead_any s i w hs; rw [h] at this; exact this
end Go.Proofs.Ytbenmgokhklnjaa
