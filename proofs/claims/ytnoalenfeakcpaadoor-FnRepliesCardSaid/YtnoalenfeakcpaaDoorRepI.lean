/- Replies as texts: the program's heads. -/
import Derived.Test.YtnoalenfeakcpaaDoorDecI
import Derived.Test.YtnoalenfeakcpaaDoorRepW
namespace Go.Proofs.YtnoalenfeakcpaaDoor
open Go.RowKit

/-- A number's decimal text. -/
def numB (n : Int) : ByteArray := ⟨(Wd.decS n).toArray⟩
theorem numB_size (n : Int) (h0 : -9223372036854775808 ≤ n) (h1 : n ≤ 9223372036854775807) : (numB n).size ≤ 21 := by
  show (Wd.decS n).toArray.size ≤ 21
  rw [List.size_toArray]
  have h := Wd.decA_length 20 n.natAbs [] 20 (by omega)
  unfold Wd.decS
  split
  · decide
  · split
    · rw [List.length_cons]; simp at h; omega
    · simp at h; omega
/-- A mark, a number, CR and LF. -/
def hdB (m : ByteArray) (n : Int) : ByteArray := (m ++ numB n) ++ ⟨#[13, 10]⟩
theorem hdB_size (m : ByteArray) (n : Int) (hm : m.size ≤ 1) (h0 : -9223372036854775808 ≤ n) (h1 : n ≤ 9223372036854775807) : (hdB m n).size ≤ 24 := by
  have := numB_size n h0 h1
  have h2 : (⟨#[13, 10]⟩ : ByteArray).size = 2 := rfl
  unfold hdB
  rw [ByteArray.size_append, ByteArray.size_append]
  omega
set_option maxRecDepth 100000 in
theorem headLineI_any (m : ByteArray) (n : Int) (w : World) (hm : m.size ≤ 1) (h0 : -9223372036854775808 ≤ n) (h1 : n ≤ 9223372036854775807) (htab : Lib.TabIs Tryd.prog w "internal/strconv.uint64pow10" .u64 Lib.pow10Tab) :
    Calls Tryd.prog 32 #[.string m, .int .i64 n] w fun e w' => e = .returned (.string (hdB m n)) ∧ Below w.heap.size w w' := by
  have HD := hide (implDec_any n w h0 h1 htab)
  have HE : Hid (hdB m n = (m ++ numB n) ++ ⟨#[13, 10]⟩) := rfl
  have hd := numB_size n h0 h1
  change Hid (Calls _ _ _ _ fun e w' => e = .returned (.string (numB n)) ∧ _) at HD
  generalize numB n = D at HD HE hd
  rw [HE.out]
  clear htab
  have hc2 : (⟨#[13, 10]⟩ : ByteArray).size = 2 := rfl
  go_enter Tryd.func32, Tryd.ntmps32
  go_wp2_with fail
  refine (HD.out).mono ?_
  rintro e w1 ⟨rfl, b1⟩
  have B1 := hide b1
  clear b1
  go_wp2
  go_ret
  exact ⟨rfl, B1.out⟩

end Go.Proofs.YtnoalenfeakcpaaDoor
