/- The bytes of a number: the program's writer. -/
import Derived.Test.YtbenmgokhklnjaaBase
namespace Go.Proofs.Ytbenmgokhklnjaa
open Go.RowKit

set_option maxHeartbeats 400000 in
theorem implVar_no (n : Int) (w : World) (h : n < 0 ∨ 1000000000 < n) :
    Calls Try.prog 31 #[.int .i64 n] w fun e w' => e = .returned (.tuple #[.string ⟨#[]⟩, .bool false]) ∧ w' = w := by
  rcases h with h | h
  · go_enter Try.func31, Try.ntmps31
    go_wp2
    go_ret2
    exact ⟨rfl, rfl⟩
  · have h' : ¬ n < 0 := by omega
    go_enter Try.func31, Try.ntmps31
    go_wp2
    go_ret2
    exact ⟨rfl, rfl⟩

set_option maxRecDepth 100000 in
set_option maxHeartbeats 400000 in
theorem implVar_yes (n : Nat) (w : World) (h1 : n ≤ 1000000000) :
    Calls Try.prog 31 #[.int .i64 n] w fun e w' => e = .returned (.tuple #[.string ⟨(Wd.varF 5 n).toArray⟩, .bool true]) ∧ Below w.heap.size w w' := by
  have h0 : decide ((n : Int) < 0) = false := by simp
  have h2 : decide (1000000000 < (n : Int)) = false := by simp; omega
  go_enter Try.func31, Try.ntmps31
  go_wp2
  go_loopw [0, 4] (fun t v wr => ∃ (f m : Nat) (acc : List UInt8), t = .int .i64 m ∧ m < 128 ^ (f + 1) ∧ m < 34359738368 ∧ acc.length + f = 4 ∧ wr.ownsRow w.heap.size 5 1 v acc.length (acc.map bv) ∧ Hid (acc ++ Wd.varF (f + 1) m = Wd.varF 5 n) ∧ Below w.heap.size w wr) (fun t _ _ => (intOf t).toNat)
  case atStart =>
    exact ⟨4, n, [], rfl, by omega, by omega, rfl, World.ownsRow_nil _ _ _ _, rfl, Below.refl _ _⟩
  case round =>
    obtain ⟨f, m, acc, rfl, hm, hm2, hl, hown, hacc, hb⟩ := hrel
    by_cases hlt : 128 ≤ m
    · obtain ⟨f, rfl⟩ : ∃ g, f = g + 1 := by
        cases f with
        | zero => simp at hm; omega
        | succ g => exact ⟨g, rfl⟩
      have hbs := hb.size
      have hfac : Hid (Wd.varF (f + 1 + 1) m = UInt8.ofNat (m % 128 + 128) :: Wd.varF (f + 1) (m / 128)) := Wd.varF_high _ _ (by omega)
      have hdiv := Wd.div_lt_pow _ _ hm
      obtain ⟨b, hbb, hbn⟩ : ∃ b : UInt8, Hid (b = UInt8.ofNat (m % 128 + 128)) ∧ Hid ((m : Int) % 128 + 128 = (b.toNat : Int)) := ⟨_, rfl, by simp only [Hid, UInt8.toNat_ofNat']; omega⟩
      go_wp2_with (at_builtin; refine app_bytes wr 22 5 Try.underlying22 Try.info5 w w.heap.size rfl _ _ rfl _ acc [b] rfl hown rfl (by simp [bv, hbn.out]) (by simp; omega) hb hbs ?_; intro v' w1 hown1 hb1 hs1)
      go_roundw
      case rel =>
        refine ⟨f, m / 128, acc ++ [b], by go_num, hdiv, by omega, by simp; omega, hown1, ?_, hb1⟩
        show _ = _
        rw [← hacc.out, hfac.out, ← hbb.out]; simp
      case measure => simp [intOf]; omega
    · have hbs := hb.size
      have hfac : Hid (Wd.varF (f + 1) m = [UInt8.ofNat m]) := Wd.varF_low _ _ (by omega)
      obtain ⟨b, hbb, hbn⟩ : ∃ b : UInt8, Hid (b = UInt8.ofNat m) ∧ Hid ((m : Int) = (b.toNat : Int)) := ⟨_, rfl, by simp only [Hid, UInt8.toNat_ofNat']; omega⟩
      go_wp2_with (at_builtin; refine app_bytes wr 22 5 Try.underlying22 Try.info5 w w.heap.size rfl _ _ rfl _ acc [b] rfl hown rfl (by simp [bv, hbn.out]) (by simp; omega) hb hbs ?_; intro v' w1 hown1 hb1 hs1; have hcv := conv_own 22 5 9 Try.underlying22 Try.underlying5 Try.underlying9 w1 _ _ _ hown1)
      go_ret2
      rw [← hacc.out, hfac.out, ← hbb.out]
      exact ⟨rfl, hb1⟩

end Go.Proofs.Ytbenmgokhklnjaa
