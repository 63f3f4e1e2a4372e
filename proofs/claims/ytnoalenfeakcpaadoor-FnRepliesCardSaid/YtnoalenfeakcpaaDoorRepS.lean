/- Replies as texts: Number, Bulk, Nil, Array, on both sides. -/
import Derived.Test.YtnoalenfeakcpaaDoorRepI
import Derived.Test.YtnoalenfeakcpaaDoorDec
import Derived.Test.YtnoalenfeakcpaaDoorTxtL
namespace Go.Proofs.YtnoalenfeakcpaaDoor
open Go.RowKit

abbrev Pow10 (w : World) : Prop := Lib.TabIs Tryd.prog w "internal/strconv.uint64pow10" .u64 Lib.pow10Tab

set_option maxRecDepth 100000 in
theorem implNumber_any (n : Int) (w : World) (h0 : -9223372036854775808 ≤ n) (h1 : n ≤ 9223372036854775807) (ht : Pow10 w) : Calls Tryd.prog 22 #[.int .i64 n] w fun e w' => e = .returned (.string (hdB ⟨#[58]⟩ n)) ∧ Below w.heap.size w w' := by
  have HH := hide (headLineI_any ⟨#[58]⟩ n w (by decide) h0 h1 ht)
  clear ht
  go_enter Tryd.func22, Tryd.ntmps22
  go_wp2_with fail
  refine (HH.out).mono ?_
  rintro e w1 ⟨rfl, b1⟩
  go_wp2
  go_ret
  exact ⟨rfl, b1⟩
set_option maxRecDepth 100000 in
theorem specNumber_any (n : Int) (w : World) (h0 : -9223372036854775808 ≤ n) (h1 : n ≤ 9223372036854775807) : Calls Tryd.prog 47 #[.int .i64 n] w fun e w' => e = .returned (.string (hdB ⟨#[58]⟩ n)) ∧ Below w.heap.size w w' := by
  have HD : Hid (∀ W, Calls Tryd.prog 59 #[.int .i64 n] W fun e w' => e = .returned (.string (numB n)) ∧ Below W.heap.size W w') := fun W => decimal_any n W h0 h1
  have hz := numB_size n h0 h1
  have HE : Hid (hdB ⟨#[58]⟩ n = (⟨#[58]⟩ ++ numB n) ++ ⟨#[13, 10]⟩) := rfl
  generalize numB n = D at HD hz HE
  have hc1 : (⟨#[58]⟩ : ByteArray).size = 1 := rfl
  have hc2 : (⟨#[13, 10]⟩ : ByteArray).size = 2 := rfl
  rw [HE.out]
  go_enter Tryd.func47, Tryd.ntmps47
  go_wp2_with fail
  refine (HD.out _).mono ?_
  rintro e w1 ⟨rfl, b1⟩
  go_wp2
  go_ret
  exact ⟨rfl, b1⟩
set_option maxRecDepth 100000 in
theorem implNil_any (w : World) (ht : Pow10 w) : Calls Tryd.prog 19 #[] w fun e w' => e = .returned (.string ⟨#[36, 45, 49, 13, 10]⟩) ∧ Below w.heap.size w w' := by
  have HH : Hid (Calls Tryd.prog 32 #[.string ⟨#[36]⟩, .int .i64 (-1)] w fun e w' => e = .returned (.string ⟨#[36, 45, 49, 13, 10]⟩) ∧ Below w.heap.size w w') := headLineI_any ⟨#[36]⟩ (-1) w (by decide) (by decide) (by decide) ht
  clear ht
  go_enter Tryd.func19, Tryd.ntmps19
  go_wp2_with fail
  refine (HH.out).mono ?_
  rintro e w1 ⟨rfl, b1⟩
  go_wp2
  go_ret
  exact ⟨rfl, b1⟩
theorem specNil_any (w : World) : Calls Tryd.prog 48 #[] w fun e w' => e = .returned (.string ⟨#[36, 45, 49, 13, 10]⟩) ∧ w' = w := by
  go_enter Tryd.func48, Tryd.ntmps48
  go_wp2
  go_ret
  exact ⟨rfl, rfl⟩
/-- A text with its length ahead. -/
def bulkB (s : ByteArray) : ByteArray := (hdB ⟨#[36]⟩ s.size ++ s) ++ ⟨#[13, 10]⟩
set_option maxRecDepth 100000 in
theorem implBulk_any (s : ByteArray) (w : World) (hs : s.size ≤ 1048576) (ht : Pow10 w) : Calls Tryd.prog 18 #[.string s] w fun e w' => e = .returned (.string (bulkB s)) ∧ Below w.heap.size w w' := by
  have HH := hide (headLineI_any ⟨#[36]⟩ s.size w (by decide) (by omega) (by omega) ht)
  have hz := hdB_size ⟨#[36]⟩ s.size (by decide) (by omega) (by omega)
  have HE : Hid (bulkB s = lineB (hdB ⟨#[36]⟩ s.size) s) := rfl
  generalize hdB ⟨#[36]⟩ (s.size : Int) = D at HH hz HE
  have HW := hide (fun W => written_line D s W (by omega) hs)
  rw [HE.out]
  generalize lineB D s = R at HW
  clear ht HE
  go_enter Tryd.func18, Tryd.ntmps18
  go_wp2_with fail
  refine (HH.out).mono ?_
  rintro e w1 ⟨rfl, b1⟩
  have B1 := hide b1
  clear b1
  go_wp2_with fail
  refine (HW.out _).mono ?_
  rintro e w2 ⟨rfl, b2⟩
  go_wp2
  go_ret
  exact ⟨rfl, B1.out.trans (b2.mono B1.out.size)⟩
set_option maxRecDepth 100000 in
theorem specBulk_any (s : ByteArray) (w : World) (hs : s.size ≤ 1048576) : Calls Tryd.prog 50 #[.string s] w fun e w' => e = .returned (.string (bulkB s)) ∧ Below w.heap.size w w' := by
  have HD : Hid (∀ W, Calls Tryd.prog 59 #[.int .i64 (s.size : Int)] W fun e w' => e = .returned (.string (numB s.size)) ∧ Below W.heap.size W w') := fun W => decimal_any s.size W (by omega) (by omega)
  have hz := numB_size s.size (by omega) (by omega)
  have HE : Hid (bulkB s = (((⟨#[36]⟩ ++ numB s.size) ++ ⟨#[13, 10]⟩) ++ s) ++ ⟨#[13, 10]⟩) := rfl
  generalize numB (s.size : Int) = D at HD hz HE
  have hc1 : (⟨#[36]⟩ : ByteArray).size = 1 := rfl
  have hc2 : (⟨#[13, 10]⟩ : ByteArray).size = 2 := rfl
  rw [HE.out]
  go_enter Tryd.func50, Tryd.ntmps50
  go_wp2_with fail
  refine (HD.out _).mono ?_
  rintro e w1 ⟨rfl, b1⟩
  go_wp2
  go_ret
  exact ⟨rfl, b1⟩
end Go.Proofs.YtnoalenfeakcpaaDoor
