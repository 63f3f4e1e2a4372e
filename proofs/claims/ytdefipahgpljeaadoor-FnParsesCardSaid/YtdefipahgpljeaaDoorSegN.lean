/- The names of segments: 'b' and the decimal text of a number from 0 to 99. -/
import Derived.Test.YtdefipahgpljeaaDoorCutAt
import Derived.Test.YtdefipahgpljeaaDoorLIn
import Derived.Test.YtdefipahgpljeaaDoorDec
namespace Go.Proofs.YtdefipahgpljeaaDoor
open Go.RowKit

theorem smalls_lows : ((List.range 10).all fun n => (((⟨#[48, 49, 50, 51, 52, 53, 54, 55, 56, 57, 97, 98, 99, 100, 101, 102, 103, 104, 105, 106, 107, 108, 109, 110, 111, 112, 113, 114, 115, 116, 117, 118, 119, 120, 121, 122]⟩ : ByteArray).extract n (n + 1)).data.toList == Wd.decS (n : Int))) = true := by kernel_rfl
theorem smalls_low (n : Nat) (h : n < 10) : (⟨#[48, 49, 50, 51, 52, 53, 54, 55, 56, 57, 97, 98, 99, 100, 101, 102, 103, 104, 105, 106, 107, 108, 109, 110, 111, 112, 113, 114, 115, 116, 117, 118, 119, 120, 121, 122]⟩ : ByteArray).extract n (n + 1) = ⟨(Wd.decS (n : Int)).toArray⟩ := by
  have := (List.all_eq_true.1 smalls_lows) n (List.mem_range.2 h)
  apply ByteArray.ext
  apply Array.toList_inj.1
  exact eq_of_beq this

theorem smalls_all : ((List.range 100).all fun n => decide (n < 10) || (((⟨#[48, 48, 48, 49, 48, 50, 48, 51, 48, 52, 48, 53, 48, 54, 48, 55, 48, 56, 48, 57, 49, 48, 49, 49, 49, 50, 49, 51, 49, 52, 49, 53, 49, 54, 49, 55, 49, 56, 49, 57, 50, 48, 50, 49, 50, 50, 50, 51, 50, 52, 50, 53, 50, 54, 50, 55, 50, 56, 50, 57, 51, 48, 51, 49, 51, 50, 51, 51, 51, 52, 51, 53, 51, 54, 51, 55, 51, 56, 51, 57, 52, 48, 52, 49, 52, 50, 52, 51, 52, 52, 52, 53, 52, 54, 52, 55, 52, 56, 52, 57, 53, 48, 53, 49, 53, 50, 53, 51, 53, 52, 53, 53, 53, 54, 53, 55, 53, 56, 53, 57, 54, 48, 54, 49, 54, 50, 54, 51, 54, 52, 54, 53, 54, 54, 54, 55, 54, 56, 54, 57, 55, 48, 55, 49, 55, 50, 55, 51, 55, 52, 55, 53, 55, 54, 55, 55, 55, 56, 55, 57, 56, 48, 56, 49, 56, 50, 56, 51, 56, 52, 56, 53, 56, 54, 56, 55, 56, 56, 56, 57, 57, 48, 57, 49, 57, 50, 57, 51, 57, 52, 57, 53, 57, 54, 57, 55, 57, 56, 57, 57]⟩ : ByteArray).extract (n * 2) (n * 2 + 2)).data.toList == Wd.decS (n : Int))) = true := by kernel_rfl

theorem smalls_high (n : Nat) (h0 : 10 ≤ n) (h : n < 100) : (⟨#[48, 48, 48, 49, 48, 50, 48, 51, 48, 52, 48, 53, 48, 54, 48, 55, 48, 56, 48, 57, 49, 48, 49, 49, 49, 50, 49, 51, 49, 52, 49, 53, 49, 54, 49, 55, 49, 56, 49, 57, 50, 48, 50, 49, 50, 50, 50, 51, 50, 52, 50, 53, 50, 54, 50, 55, 50, 56, 50, 57, 51, 48, 51, 49, 51, 50, 51, 51, 51, 52, 51, 53, 51, 54, 51, 55, 51, 56, 51, 57, 52, 48, 52, 49, 52, 50, 52, 51, 52, 52, 52, 53, 52, 54, 52, 55, 52, 56, 52, 57, 53, 48, 53, 49, 53, 50, 53, 51, 53, 52, 53, 53, 53, 54, 53, 55, 53, 56, 53, 57, 54, 48, 54, 49, 54, 50, 54, 51, 54, 52, 54, 53, 54, 54, 54, 55, 54, 56, 54, 57, 55, 48, 55, 49, 55, 50, 55, 51, 55, 52, 55, 53, 55, 54, 55, 55, 55, 56, 55, 57, 56, 48, 56, 49, 56, 50, 56, 51, 56, 52, 56, 53, 56, 54, 56, 55, 56, 56, 56, 57, 57, 48, 57, 49, 57, 50, 57, 51, 57, 52, 57, 53, 57, 54, 57, 55, 57, 56, 57, 57]⟩ : ByteArray).extract (n * 2) (n * 2 + 2) = ⟨(Wd.decS (n : Int)).toArray⟩ := by
  have := (List.all_eq_true.1 smalls_all) n (List.mem_range.2 h)
  simp only [Bool.or_eq_true, decide_eq_true_eq] at this
  rcases this with h' | h'
  · omega
  · apply ByteArray.ext
    apply Array.toList_inj.1
    exact eq_of_beq h'

set_option maxRecDepth 100000 in
theorem small_any (n : Nat) (w : World) (h : n < 100) :
    Calls Tryd.prog 70 #[.int .i64 n] w fun e w' => e = .returned (.string ⟨(Wd.decS (n : Int)).toArray⟩) ∧ w' = w := by
  by_cases hn : n < 10
  · have hn' : decide ((n : Int) < 10) = true := by simp; omega
    obtain ⟨R, hR⟩ : ∃ R : ByteArray, (⟨(Wd.decS (n : Int)).toArray⟩ : ByteArray) = R := ⟨_, rfl⟩
    have hcut := cut_at ⟨#[48, 49, 50, 51, 52, 53, 54, 55, 56, 57, 97, 98, 99, 100, 101, 102, 103, 104, 105, 106, 107, 108, 109, 110, 111, 112, 113, 114, 115, 116, 117, 118, 119, 120, 121, 122]⟩ n (n + 1) (n : Int) ((n : Int) + 1) R rfl (by omega) (by omega) (by show n + 1 ≤ 36; omega) ((smalls_low n hn).trans hR)
    rw [hR]
    clear hR
    go_enter Tryd.func70, Tryd.ntmps70
    go_wp2
    go_ret
    exact ⟨rfl, rfl⟩
  · have hn' : decide ((n : Int) < 10) = false := by simp; omega
    obtain ⟨R, hR⟩ : ∃ R : ByteArray, (⟨(Wd.decS (n : Int)).toArray⟩ : ByteArray) = R := ⟨_, rfl⟩
    have hcut := cut_at ⟨#[48, 48, 48, 49, 48, 50, 48, 51, 48, 52, 48, 53, 48, 54, 48, 55, 48, 56, 48, 57, 49, 48, 49, 49, 49, 50, 49, 51, 49, 52, 49, 53, 49, 54, 49, 55, 49, 56, 49, 57, 50, 48, 50, 49, 50, 50, 50, 51, 50, 52, 50, 53, 50, 54, 50, 55, 50, 56, 50, 57, 51, 48, 51, 49, 51, 50, 51, 51, 51, 52, 51, 53, 51, 54, 51, 55, 51, 56, 51, 57, 52, 48, 52, 49, 52, 50, 52, 51, 52, 52, 52, 53, 52, 54, 52, 55, 52, 56, 52, 57, 53, 48, 53, 49, 53, 50, 53, 51, 53, 52, 53, 53, 53, 54, 53, 55, 53, 56, 53, 57, 54, 48, 54, 49, 54, 50, 54, 51, 54, 52, 54, 53, 54, 54, 54, 55, 54, 56, 54, 57, 55, 48, 55, 49, 55, 50, 55, 51, 55, 52, 55, 53, 55, 54, 55, 55, 55, 56, 55, 57, 56, 48, 56, 49, 56, 50, 56, 51, 56, 52, 56, 53, 56, 54, 56, 55, 56, 56, 56, 57, 57, 48, 57, 49, 57, 50, 57, 51, 57, 52, 57, 53, 57, 54, 57, 55, 57, 56, 57, 57]⟩ (n * 2) (n * 2 + 2) ((n : Int) * 2) ((n : Int) * 2 + 2) R (by omega) (by omega) (by omega) (by show n * 2 + 2 ≤ 200; omega) ((smalls_high n (by omega) h).trans hR)
    rw [hR]
    clear hR
    go_enter Tryd.func70, Tryd.ntmps70
    go_wp2
    go_ret
    exact ⟨rfl, rfl⟩

/-- The program's decimal text of a small number: no table is asked. -/
theorem implDec_small (n : Nat) (w : World) (h : n < 100) :
    Calls Tryd.prog 32 #[.int .i64 n] w fun e w' => e = .returned (.string ⟨(Wd.decS (n : Int)).toArray⟩) ∧ w' = w := by
  have h1 : decide ((0 : Int) ≤ (n : Int)) = true := by simp
  have h2 : decide ((n : Int) < 100) = true := by simp; omega
  have F : ∀ W : World, Calls Tryd.prog 60 #[.int .i64 n, .int .i64 10] W fun e w' => e = .returned (.string ⟨(Wd.decS (n : Int)).toArray⟩) ∧ w' = W := by
    intro W
    go_enter Tryd.func60, Tryd.ntmps60
    go_wp2_with (go_at_call 70; refine (small_any n _ h).mono ?_; rintro e w' ⟨rfl, rfl⟩)
    go_ret
    exact ⟨rfl, rfl⟩
  have I : ∀ W : World, Calls Tryd.prog 51 #[.int .i64 n] W fun e w' => e = .returned (.string ⟨(Wd.decS (n : Int)).toArray⟩) ∧ w' = W := by
    intro W
    go_enter Tryd.func51, Tryd.ntmps51
    go_wp2_with (go_at_call 60; refine (F _).mono ?_; rintro e w' ⟨rfl, rfl⟩)
    go_ret
    exact ⟨rfl, rfl⟩
  have S : ∀ W : World, Calls Tryd.prog 41 #[.int .i64 n] W fun e w' => e = .returned (.string ⟨(Wd.decS (n : Int)).toArray⟩) ∧ w' = W := by
    intro W
    go_enter Tryd.func41, Tryd.ntmps41
    go_wp2_with (go_at_call 51; refine (I _).mono ?_; rintro e w' ⟨rfl, rfl⟩)
    go_ret
    exact ⟨rfl, rfl⟩
  go_enter Tryd.func32, Tryd.ntmps32
  go_wp2_with (go_at_call 41; refine (S _).mono ?_; rintro e w' ⟨rfl, rfl⟩)
  go_ret
  exact ⟨rfl, rfl⟩

/-- The name of a segment. -/
def segNm (n : Int) : ByteArray := if 0 ≤ n ∧ n ≤ 99 then ⟨(98 :: Wd.decS n).toArray⟩ else ⟨#[]⟩
theorem segNm_in (n : Nat) (h : n ≤ 99) : segNm n = (⟨#[98]⟩ : ByteArray) ++ ⟨(Wd.decS (n : Int)).toArray⟩ := by
  unfold segNm
  rw [if_pos (by omega)]
  apply ByteArray.ext
  apply Array.toList_inj.1
  simp
theorem segNm_out (n : Int) (h : n < 0 ∨ 99 < n) : segNm n = ⟨#[]⟩ := by unfold segNm; rw [if_neg (by omega)]
theorem decS_len : ∀ n : Nat, n ≤ 99 → (Wd.decS (n : Int)).length ≤ 2 := by
  have : ((List.range 100).all fun n => decide ((Wd.decS (n : Int)).length ≤ 2)) = true := by kernel_rfl
  intro n hn
  have := (List.all_eq_true.1 this) n (List.mem_range.2 (by omega))
  simpa using this

end Go.Proofs.YtdefipahgpljeaaDoor
