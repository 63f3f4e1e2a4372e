/- The mark of a number, as a text. -/
import Derived.Test.YtpibnhodlojajaaBase
namespace Go.Proofs.Ytpibnhodlojajaa
open Go.RowKit

/-- One byte, laid into a new block, as a text. -/
theorem conv_byte (W : World) (b : UInt8) (z : Int) (hz : (b.toNat : Int) = z) :
    (convert 30 9 (.slice (some ⟨W.heap.size, 0, none⟩) 1 1)).run Try.prog (W.alloc (.cells #[.int .u8 z] 5)) = .ok (.string ⟨#[b]⟩) (W.alloc (.cells #[.int .u8 z] 5)) := by
  refine run_convert_bytes_back (P := Try.prog) (W.alloc (.cells #[.int .u8 z] 5)) 30 9 5 ⟨W.heap.size, 0, none⟩ 1 [b] Try.underlying30 Try.underlying5 Try.underlying9 ?_
  intro j hj
  exact cells_new W #[.int .u8 z] 5 j _ (by
    have : j = 0 := by simpa using hj
    subst this
    simp [hz])

/-- The mark of a number. -/
def mk (k : Nat) : List UInt8 := 109 :: Wd.decA 20 k []

set_option maxRecDepth 100000 in
set_option maxHeartbeats 1000000 in
theorem mark_any (n : Nat) (w : World) (h0 : 0 < n) (h1 : n ≤ 9223372036854775807) :
    Calls Try.prog 23 #[.int .i64 n] w fun e w' => e = .returned (.string ⟨(mk n).toArray⟩) ∧ Below w.heap.size w w' := by
  have hz : decide ((n : Int) ≤ 0) = false := by simp; omega
  go_enter Try.func23, Try.ntmps23
  go_wp2
  go_loopw [0, 3] (fun t v wr => ∃ (f m : Nat) (acc : List UInt8), t = .int .i64 m ∧ v = .string ⟨acc.toArray⟩ ∧ m < 10 ^ f ∧ m ≤ 9223372036854775807 ∧ acc.length + f = 20 ∧ Hid (Wd.decA f m acc = Wd.decA 20 n []) ∧ Below w.heap.size w wr) (fun t _ _ => (intOf t).toNat)
  case atStart => exact ⟨20, n, [], rfl, rfl, by omega, h1, rfl, rfl, Below.refl _ _⟩
  case round =>
    obtain ⟨f, m, acc, rfl, rfl, hm, hm2, hl, hacc, hb⟩ := hrel
    have hbs := hb.size
    by_cases hlt : 0 < m
    · obtain ⟨f, rfl⟩ : ∃ g, f = g + 1 := by
        cases f with
        | zero => simp at hm; omega
        | succ g => exact ⟨g, rfl⟩
      have hfac := hide (Wd.decA_step f m acc (by omega))
      have hdiv : m / 10 < 10 ^ f := Nat.div_lt_of_lt_mul (by rw [Nat.mul_comm, ← Nat.pow_succ]; exact hm)
      have hcv := conv_byte wr (Wd.figB (m % 10)) (48 + (m : Int) % 10) (by rw [Wd.figB_val _ (by omega), Wd.figI_low _ (by omega)]; omega)
      go_wp2
      go_roundw
      case rel =>
        refine ⟨f, m / 10, Wd.figB (m % 10) :: acc, by go_num, congrArg Value.string (cat_list [Wd.figB (m % 10)] acc), hdiv, by omega, by simp; omega, ?_, hb.alloc hbs _⟩
        show _ = _
        rw [← hacc.out, hfac.out]
      case measure => simp [intOf]; omega
    · have hm0 : m = 0 := by omega
      subst hm0
      have hfin := hide ((Wd.decA_zero f acc).symm.trans hacc.out)
      go_wp2
      go_ret
      unfold mk
      rw [← hfin.out]
      exact ⟨congrArg (fun x => Ending.returned (Value.string x)) (cat_list [109] acc), hb⟩

theorem mark_int (n : Int) (w : World) (h0 : 0 < n) (h1 : n ≤ 9223372036854775807) :
    Calls Try.prog 23 #[.int .i64 n] w fun e w' => e = .returned (.string ⟨(mk n.toNat).toArray⟩) ∧ Below w.heap.size w w' := by
  obtain ⟨m, rfl⟩ := Int.eq_ofNat_of_zero_le (show 0 ≤ n by omega)
  exact mark_any m w (by omega) (by omega)

end Go.Proofs.Ytpibnhodlojajaa
