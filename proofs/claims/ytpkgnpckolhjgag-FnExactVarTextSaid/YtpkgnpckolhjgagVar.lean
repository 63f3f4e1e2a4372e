/- The bytes of a number: the writer of the program and that of the specification write the same, for every number; and what both answer outside the limits. -/
import Derived.Test.YtpkgnpckolhjgagChecked
import Derived.Test.YtpkgnpckolhjgagPlain
import Derived.Test.YtpkgnpckolhjgagClone
namespace Go.Proofs.Ytpkgnpckolhjgag
open Go.RowKit


set_option maxHeartbeats 400000 in
theorem l01Var_any (n : Nat) (w : World) (h1 : n < 34359738368) :
    Calls Try.prog 16 #[.int .i64 n] w fun e w' => e = .returned (.string ⟨(Wd.varF 5 n).toArray⟩) ∧ Below w.heap.size w w' := by
  go_enter Try.func16, Try.ntmps16
  go_wp2
  go_loopw [0, 3] (fun t v wr => ∃ (f m : Nat) (acc : List UInt8), t = .int .i64 m ∧ m < 128 ^ (f + 1) ∧ m < 34359738368 ∧ acc.length + f = 4 ∧ wr.ownsRow w.heap.size 5 1 v acc.length (acc.map bv) ∧ Hid (acc ++ Wd.varF (f + 1) m = Wd.varF 5 n) ∧ Below w.heap.size w wr) (fun t _ _ => (intOf t).toNat)
  case atStart =>
    refine ⟨4, n, [], rfl, by omega, h1, rfl, ?_, rfl, (Below.refl _ _).alloc (Nat.le_refl _) _⟩
    exact World.ownsRow_lit w #[] 0 (Nat.le_refl _) (by unfold maxLen; omega) (by simp)
  case round =>
    obtain ⟨f, m, acc, rfl, hm, hm2, hl, hown, hacc, hb⟩ := hrel
    by_cases hlt : 127 < m
    · obtain ⟨f, rfl⟩ : ∃ g, f = g + 1 := by
        cases f with
        | zero => simp at hm; omega
        | succ g => exact ⟨g, rfl⟩
      have hbs := hb.size
      have hfac : Hid (Wd.varF (f + 1 + 1) m = UInt8.ofNat (m % 128 + 128) :: Wd.varF (f + 1) (m / 128)) := Wd.varF_high _ _ (by omega)
      have hdiv := Wd.div_lt_pow _ _ hm
      obtain ⟨b, hbb, hbn⟩ : ∃ b : UInt8, Hid (b = UInt8.ofNat (m % 128 + 128)) ∧ Hid ((m : Int) % 128 + 128 = (b.toNat : Int)) := ⟨_, rfl, by simp only [Hid, UInt8.toNat_ofNat']; omega⟩
      go_wp2_with (at_builtin; refine app_bytes wr 34 5 Try.underlying34 Try.info5 w w.heap.size rfl _ _ rfl _ acc [b] rfl hown rfl (by simp [bv, hbn.out]) (by simp; omega) hb hbs ?_; intro v' w1 hown1 hb1 hs1)
      go_roundw
      case rel =>
        refine ⟨f, m / 128, acc ++ [b], by go_num, hdiv, by omega, by simp; omega, hown1, ?_, hb1⟩
        show _ = _
        rw [← hacc.out, hfac.out, ← hbb.out]; simp
      case measure => simp [intOf]; omega
    · have hbs := hb.size
      have hfac : Hid (Wd.varF (f + 1) m = [UInt8.ofNat m]) := Wd.varF_low _ _ (by omega)
      obtain ⟨b, hbb, hbn⟩ : ∃ b : UInt8, Hid (b = UInt8.ofNat m) ∧ Hid ((m : Int) = (b.toNat : Int)) := ⟨_, rfl, by simp only [Hid, UInt8.toNat_ofNat']; omega⟩
      go_wp2_with (at_builtin; refine app_bytes wr 34 5 Try.underlying34 Try.info5 w w.heap.size rfl _ _ rfl _ acc [b] rfl hown rfl (by simp [bv, hbn.out]) (by simp; omega) hb hbs ?_; intro v' w1 hown1 hb1 hs1; have hcv := conv_own 34 5 9 Try.underlying34 Try.underlying5 Try.underlying9 w1 _ _ _ (by simp) hown1)
      go_ret
      rw [← hacc.out, hfac.out, ← hbb.out]
      exact ⟨rfl, hb1⟩

set_option maxHeartbeats 400000 in
theorem implVar_no (n : Int) (w : World) (h : n < 0 ∨ 1000000000 < n) :
    Calls Try.prog 8 #[.int .i64 n] w fun e w' => e = .returned (.tuple #[.string ⟨#[]⟩, .bool false]) ∧ w' = w := by
  rcases h with h | h
  · go_enter Try.func8, Try.ntmps8
    go_wp2
    go_ret2
    exact ⟨rfl, rfl⟩
  · have h' : ¬ n < 0 := by omega
    go_enter Try.func8, Try.ntmps8
    go_wp2
    go_ret2
    exact ⟨rfl, rfl⟩

set_option maxRecDepth 100000 in
set_option maxHeartbeats 400000 in
theorem implVar_yes (n : Nat) (w : World) (h1 : n ≤ 1000000000) :
    Calls Try.prog 8 #[.int .i64 n] w fun e w' => e = .returned (.tuple #[.string ⟨(Wd.varF 5 n).toArray⟩, .bool true]) ∧ Below w.heap.size w w' := by
  have h0 : decide ((n : Int) < 0) = false := by simp
  have h2 : decide (1000000000 < (n : Int)) = false := by simp; omega
  go_enter Try.func8, Try.ntmps8
  go_wp2
  go_loopw [0, 4] (fun t v wr => ∃ (f m : Nat) (acc : List UInt8), t = .int .i64 m ∧ m < 128 ^ (f + 1) ∧ m < 34359738368 ∧ acc.length + f = 4 ∧ wr.ownsRow w.heap.size 5 1 v acc.length (acc.map bv) ∧ Hid (acc ++ Wd.varF (f + 1) m = Wd.varF 5 n) ∧ Below w.heap.size w wr) (fun t _ _ => (intOf t).toNat)
  case atStart =>
    exact ⟨4, n, [], rfl, by omega, by omega, rfl, World.ownsRow_nil _ _ _ _, rfl, Below.refl _ _⟩
  case round =>
    obtain ⟨f, m, acc, rfl, hm, hm2, hl, hown, hacc, hb⟩ := hrel
    by_cases hlt : 128 ≤ m
    · obtain ⟨f, rfl⟩ : ∃ g, f = g + 1 := by
        cases f with
        | zero => simp at hm; omega
        | succ g => exact ⟨g, rfl⟩
      have hbs := hb.size
      have hfac : Hid (Wd.varF (f + 1 + 1) m = UInt8.ofNat (m % 128 + 128) :: Wd.varF (f + 1) (m / 128)) := Wd.varF_high _ _ (by omega)
      have hdiv := Wd.div_lt_pow _ _ hm
      obtain ⟨b, hbb, hbn⟩ : ∃ b : UInt8, Hid (b = UInt8.ofNat (m % 128 + 128)) ∧ Hid ((m : Int) % 128 + 128 = (b.toNat : Int)) := ⟨_, rfl, by simp only [Hid, UInt8.toNat_ofNat']; omega⟩
      go_wp2_with (at_builtin; refine app_bytes wr 34 5 Try.underlying34 Try.info5 w w.heap.size rfl _ _ rfl _ acc [b] rfl hown rfl (by simp [bv, hbn.out]) (by simp; omega) hb hbs ?_; intro v' w1 hown1 hb1 hs1)
      go_roundw
      case rel =>
        refine ⟨f, m / 128, acc ++ [b], by go_num, hdiv, by omega, by simp; omega, hown1, ?_, hb1⟩
        show _ = _
        rw [← hacc.out, hfac.out, ← hbb.out]; simp
      case measure => simp [intOf]; omega
    · have hbs := hb.size
      have hfac : Hid (Wd.varF (f + 1) m = [UInt8.ofNat m]) := Wd.varF_low _ _ (by omega)
      obtain ⟨b, hbb, hbn⟩ : ∃ b : UInt8, Hid (b = UInt8.ofNat m) ∧ Hid ((m : Int) = (b.toNat : Int)) := ⟨_, rfl, by simp only [Hid, UInt8.toNat_ofNat']; omega⟩
      go_wp2_with (at_builtin; refine app_bytes wr 34 5 Try.underlying34 Try.info5 w w.heap.size rfl _ _ rfl _ acc [b] rfl hown rfl (by simp [bv, hbn.out]) (by simp; omega) hb hbs ?_; intro v' w1 hown1 hb1 hs1; have hcv := conv_own 34 5 9 Try.underlying34 Try.underlying5 Try.underlying9 w1 _ _ _ (by simp) hown1)
      go_ret2
      rw [← hacc.out, hfac.out, ← hbb.out]
      exact ⟨rfl, hb1⟩

theorem specVar_no (n : Int) (w : World) (h : n < 0 ∨ 1000000000 < n) :
    Calls Try.prog 7 #[.int .i64 n] w fun e w' => e = .returned (.tuple #[.string ⟨#[]⟩, .bool false]) ∧ w' = w := by
  rcases h with h | h
  · have h' : decide (0 ≤ n) = false := by simp; omega
    go_enter Try.func7, Try.ntmps7
    go_wp2
    go_ret2
    exact ⟨rfl, rfl⟩
  · have h' : 0 ≤ n := by omega
    have h2 : decide (n ≤ 1000000000) = false := by simp; omega
    go_enter Try.func7, Try.ntmps7
    go_wp2
    go_ret2
    exact ⟨rfl, rfl⟩

theorem specVar_yes (n : Nat) (w : World) (h1 : n ≤ 1000000000) :
    Calls Try.prog 7 #[.int .i64 n] w fun e w' => e = .returned (.tuple #[.string ⟨(Wd.varF 5 n).toArray⟩, .bool true]) ∧ Below w.heap.size w w' := by
  have h2 : decide ((n : Int) ≤ 1000000000) = true := by simp; omega
  go_enter Try.func7, Try.ntmps7
  go_wp2_with (first | (go_at_call 16; refine (l01Var_any n _ (by omega)).mono ?_; rintro e w' ⟨rfl, hb⟩) | go_in)
  go_ret2
  exact ⟨rfl, hb⟩

/-- The law: whatever the number. -/
theorem varText_law (n : Int) (w : World) (hlo : -9223372036854775808 ≤ n) (hhi : n ≤ 9223372036854775807) :
    Calls Try.prog 3 #[.int .i64 n] w fun e w' => e = .returned (.bool true) ∧ Below w.heap.size w w' := by
  by_cases h : n < 0 ∨ 1000000000 < n
  · go_enter Try.func3, Try.ntmps3
    go_wp2_with (first | (go_at_call 7; refine (specVar_no n _ h).mono ?_; rintro e w' ⟨rfl, rfl⟩) | (go_at_call 8; refine (implVar_no n _ h).mono ?_; rintro e w' ⟨rfl, rfl⟩))
    go_ret
    exact ⟨rfl, Below.refl _ _⟩
  · obtain ⟨m, rfl⟩ := Int.eq_ofNat_of_zero_le (show 0 ≤ n by omega)
    go_enter Try.func3, Try.ntmps3
    go_wp2_with (first | (go_at_call 7; refine (specVar_yes m _ (by omega)).mono ?_; rintro e w1 ⟨rfl, hb1⟩) | (go_at_call 8; refine (implVar_yes m _ (by omega)).mono ?_; rintro e w2 ⟨rfl, hb2⟩))
    go_ret
    exact ⟨rfl, hb1.trans (hb2.mono hb1.size)⟩

theorem varText_walk (n : Int) (w : World) (h : (Lit.int .i64 n).wf = true) :
    Calls Try.prog 3 #[.int .i64 n] w fun e w' => e = .returned (.bool true) ∧ Below w.heap.size w w' := by
  have hx : -9223372036854775808 ≤ n ∧ n ≤ 9223372036854775807 := by simpa [Lit.wf, IntKind.min, IntKind.max, IntKind.signed, IntKind.bits] using h
  exact varText_law n w hx.1 hx.2
end Go.Proofs.Ytpkgnpckolhjgag
