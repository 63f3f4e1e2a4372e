/- The specification of chapter 13: a text in a row, what a command takes, whether it writes. -/
import Derived.Test.YteidjnmfjkpolaaDoorCmdL
import Derived.Test.YteidjnmfjkpolaaDoorTxtA
import Derived.Test.YteidjnmfjkpolaaDoorCutAt
import Derived.Test.YteidjnmfjkpolaaDoorLawUpper
namespace Go.Proofs.YteidjnmfjkpolaaDoor
open Go.RowKit

/-- Whether a text is in a row. -/
def inB (ts : List ByteArray) (x : ByteArray) : Bool := ts.any fun t => decide (t = x)
theorem inB_iff (ts : List ByteArray) (x : ByteArray) : inB ts x = true ↔ x ∈ ts := by
  unfold inB
  rw [List.any_eq_true]
  constructor
  · rintro ⟨t, ht, he⟩
    exact of_decide_eq_true he ▸ ht
  · intro h
    exact ⟨x, h, decide_eq_true rfl⟩
theorem inB_here {ts : List ByteArray} {i : Nat} {x : ByteArray} (h : i < ts.length) (hx : ts[i] = x) : inB (ts.drop i) x = true := by
  rw [List.drop_eq_getElem_cons h]
  simp [inB, hx]
theorem inB_next {ts : List ByteArray} {i : Nat} {x : ByteArray} (h : i < ts.length) (hx : ts[i] ≠ x) : inB (ts.drop i) x = inB (ts.drop (i + 1)) x := by
  rw [List.drop_eq_getElem_cons h]
  unfold inB
  rw [List.any_cons, decide_eq_false hx, Bool.false_or]
set_option maxRecDepth 100000 in
set_option maxHeartbeats 1000000 in
theorem l13In_any (ts : List ByteArray) (x : ByteArray) (ao : Option Addr) (cap : Nat) (w : World) (hl : ts.length ≤ 1048576) (hts : TextsAt w ao ts) :
    Calls Tryd.prog 23 #[.slice ao ts.length cap, .string x] w fun e w' => e = .returned (.bool (inB ts x)) ∧ w' = w := by
  obtain ⟨R, HR⟩ : ∃ R, Hid (inB ts x = R) := ⟨_, rfl⟩
  rw [HR.out]
  have HT := hide hts
  clear hts
  have HR0 : Hid (inB (ts.drop 0) x = R) := by show _ = _; rw [List.drop_zero]; exact HR.out
  go_enter Tryd.func23, Tryd.ntmps23
  go_wp2_with fail
  go_loopw [5] (fun ii wr => ∃ i : Nat, ii = .int .i64 (i : Int) ∧ i ≤ ts.length ∧ Hid (inB (ts.drop i) x = R) ∧ wr = w) (fun ii _ => ts.length - (intOf ii).toNat)
  case atStart => exact ⟨0, rfl, Nat.zero_le _, HR0, rfl⟩
  case round =>
    obtain ⟨i, rfl, hi, HI, rfl⟩ := hrel
    by_cases hlt : i < ts.length
    · have hlt' : decide ((i : Int) < (ts.length : Int)) = true := by simp; omega
      obtain ⟨b, off, rfl, hb, hcell⟩ := HT.out i hlt
      have hi0 : (0 : Int) ≤ (i : Int) := by omega
      by_cases hx : ts[i] = x
      · have he := txt_eq hx
        have HY : Hid (true = R) := by show _ = _; rw [← HI.out]; exact (inB_here hlt hx).symm
        clear hx
        go_wp2
        go_ret
        exact ⟨by rw [← HY.out]; rfl, rfl⟩
      · have he := txt_ne hx
        have HY : Hid (inB (ts.drop (i + 1)) x = R) := by
          show _ = _
          rw [← HI.out]
          exact (inB_next hlt hx).symm
        clear hx
        go_wp2
        go_roundw
        case rel => exact ⟨i + 1, by go_num, by omega, HY, by trivial⟩
        case measure => simp [intOf]; omega
    · have hlt' : decide ((i : Int) < (ts.length : Int)) = false := by rw [decide_eq_false_iff_not]; omega
      have HY : Hid (false = R) := by
        show _ = _
        rw [← HI.out, List.drop_of_length_le (by omega)]
        rfl
      go_wp2
      go_ret
      exact ⟨by rw [← HY.out]; rfl, rfl⟩
end Go.Proofs.YteidjnmfjkpolaaDoor
