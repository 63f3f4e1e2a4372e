/- The specification's reader of batches: its cursor. -/
import Derived.Test.YtbenmgokhklnjaaReadS
import Derived.Test.YtbenmgokhklnjaaCutAt
import Derived.Deep.RegionHeld3
namespace Go.Proofs.Ytbenmgokhklnjaa
open Go.RowKit

/-- The cursor in block g: the text, the place, and whether it was not of its form. -/
def CurB (w : World) (g : Nat) (t : ByteArray) (i : Nat) (bad : Bool) : Prop := w.heap[g]? = some (.cells #[.string t, .int .i64 (i : Int), .bool bad] 72 (0, 0))
/-- A number is read. -/
def varC (t : ByteArray) (i : Nat) (bad : Bool) : Nat × Nat × Bool :=
  match bad, Wd.rv t i with
  | false, some (n, p) => (n, p, false)
  | _, _ => (0, i, true)
/-- A piece is taken. -/
def takeC (t : ByteArray) (n i : Nat) (bad : Bool) : ByteArray × Nat × Bool :=
  if bad = true ∨ t.size < i + n then (⟨#[]⟩, i, true) else (t.extract i (i + n), i + n, false)
/-- A short text is read. -/
def shortC (t : ByteArray) (i : Nat) (bad : Bool) : ByteArray × Nat × Bool := takeC t (varC t i bad).1 (varC t i bad).2.1 (varC t i bad).2.2

theorem varC_le {t : ByteArray} {i : Nat} (bad : Bool) (h : i ≤ t.size) : (varC t i bad).2.1 ≤ t.size ∧ (varC t i bad).1 ≤ 1000000000 := by
  unfold varC
  split
  · rename_i n p hr
    have := Wd.rv_bounds t i n p hr
    exact ⟨this.2.2, this.1⟩
  · exact ⟨h, Nat.zero_le _⟩
theorem takeC_le {t : ByteArray} {n i : Nat} (bad : Bool) (h : i ≤ t.size) : (takeC t n i bad).2.1 ≤ t.size ∧ (takeC t n i bad).1.size ≤ t.size := by
  unfold takeC
  split
  · exact ⟨h, Nat.zero_le _⟩
  · rename_i hc
    rw [ByteArray.size_extract]
    exact ⟨show i + n ≤ t.size by omega, by omega⟩

theorem curB_cells {w : World} {g : Nat} {t : ByteArray} {i : Nat} {bad : Bool} (h : CurB w g t i bad) : w.cell? ⟨g, 0, none⟩ = some (.string t) ∧ w.cell? ⟨g, 1, none⟩ = some (.int .i64 (i : Int)) ∧ w.cell? ⟨g, 2, none⟩ = some (.bool bad) :=
  ⟨(cell_of_row w g 0 _ _ (0, 0) h).trans rfl, (cell_of_row w g 1 _ _ (0, 0) h).trans rfl, (cell_of_row w g 2 _ _ (0, 0) h).trans rfl⟩
theorem curB_lt {w : World} {g : Nat} {t : ByteArray} {i : Nat} {bad : Bool} (h : CurB w g t i bad) : g < w.heap.size := (Array.getElem?_eq_some_iff.1 h).1
theorem curB_below {w w' : World} {g : Nat} {t : ByteArray} {i : Nat} {bad : Bool} (h : CurB w g t i bad) (hb : Below w.heap.size w w') : CurB w' g t i bad := (hb.block g (curB_lt h)).trans h

set_option maxRecDepth 100000 in
set_option maxHeartbeats 1600000 in
theorem l05Var_any (t : ByteArray) (g i : Nat) (bad : Bool) (w : World) (ht : t.size ≤ 1048576) (hi : i ≤ t.size) (h : CurB w g t i bad) :
    Calls Try.prog 42 #[.pointer (some ⟨g, 0, none⟩)] w fun e w' => e = .returned (.int .i64 ((varC t i bad).1 : Int)) ∧ CurB w' g t (varC t i bad).2.1 (varC t i bad).2.2 ∧ w.grownBy w' (some g) := by
  have HC := hide h
  have hg := curB_lt h
  obtain ⟨hc0, hc1, hc2⟩ := curB_cells h
  clear h
  cases hr : Wd.rv t i with
  | none =>
    have HV : Hid (varC t i bad = (0, i, true)) := by show _ = _; unfold varC; rw [hr]; cases bad <;> rfl
    have HR : Hid (∀ W, Calls Try.prog 74 #[.string t, .int .i64 (i : Int)] W fun e w' => e = .returned (.tuple #[.int .i64 0, .int .i64 0, .bool false]) ∧ Below W.heap.size W w') := fun W => by have h := specRead_in t i W ht hi; rw [hr] at h; exact h
    rw [HV.out]
    clear hr
    cases bad <;>
    · go_enter Try.func42, Try.ntmps42
      go_wp2_with fail
      go_region_held3 (fun w' => w'.cell? ⟨g, 0, none⟩ = some (.string t) ∧ w'.cell? ⟨g, 1, none⟩ = some (.int .i64 (i : Int))) (first | (go_keep; done) | (exact ⟨(B2.out.cell (p := ⟨g, 0, none⟩) hg).trans hc0, (B2.out.cell (p := ⟨g, 1, none⟩) hg).trans hc1⟩) | fail) ((first | (go_at_call 74; refine (HR.out _).mono ?_; rintro e w2 ⟨rfl, b2⟩; have B2 : Hid (Below w.heap.size w w2) := (Below.refl _ _).drew.trans b2; clear b2) | fail))
      have HC2 := hide (curB_below HC.out B2.out)
      obtain ⟨_, _, hd2⟩ := curB_cells HC2.out
      have hf2 := frozen_of_row w2 g 2 _ _ HC2.out
      go_wp2
      go_ret
      exact ⟨rfl, (heap_setCell_same _ g _ _ _ _ HC2.out).trans rfl, grownBy_store (grownBy_below _ B2.out) 2 _⟩
  | some x =>
    obtain ⟨n, p⟩ := x
    have HR : Hid (∀ W, Calls Try.prog 74 #[.string t, .int .i64 (i : Int)] W fun e w' => e = .returned (.tuple #[.int .i64 (n : Int), .int .i64 (p : Int), .bool true]) ∧ Below W.heap.size W w') := fun W => by have h := specRead_in t i W ht hi; rw [hr] at h; exact h
    cases bad
    · have HV : Hid (varC t i false = (n, p, false)) := by show _ = _; unfold varC; rw [hr]
      rw [HV.out]
      clear hr
      go_enter Try.func42, Try.ntmps42
      go_wp2_with fail
      go_region_held3 (fun w' => w'.cell? ⟨g, 0, none⟩ = some (.string t) ∧ w'.cell? ⟨g, 1, none⟩ = some (.int .i64 (i : Int))) (first | (go_keep; done) | (exact ⟨(B2.out.cell (p := ⟨g, 0, none⟩) hg).trans hc0, (B2.out.cell (p := ⟨g, 1, none⟩) hg).trans hc1⟩) | fail) ((first | (go_at_call 74; refine (HR.out _).mono ?_; rintro e w2 ⟨rfl, b2⟩; have B2 : Hid (Below w.heap.size w w2) := (Below.refl _ _).drew.trans b2; clear b2) | fail))
      have HC2 := hide (curB_below HC.out B2.out)
      obtain ⟨_, hd1, hd2⟩ := curB_cells HC2.out
      have hf1 := frozen_of_row w2 g 1 _ _ HC2.out
      go_wp2
      go_ret
      exact ⟨rfl, (heap_setCell_same _ g _ _ _ _ HC2.out).trans rfl, grownBy_store (grownBy_below _ B2.out) 1 _⟩
    · have HV : Hid (varC t i true = (0, i, true)) := by show _ = _; unfold varC; rw [hr]
      rw [HV.out]
      clear hr
      go_enter Try.func42, Try.ntmps42
      go_wp2_with fail
      go_region_held3 (fun w' => w'.cell? ⟨g, 0, none⟩ = some (.string t) ∧ w'.cell? ⟨g, 1, none⟩ = some (.int .i64 (i : Int))) (first | (go_keep; done) | (exact ⟨(B2.out.cell (p := ⟨g, 0, none⟩) hg).trans hc0, (B2.out.cell (p := ⟨g, 1, none⟩) hg).trans hc1⟩) | fail) ((first | (go_at_call 74; refine (HR.out _).mono ?_; rintro e w2 ⟨rfl, b2⟩; have B2 : Hid (Below w.heap.size w w2) := (Below.refl _ _).drew.trans b2; clear b2) | fail))
      have HC2 := hide (curB_below HC.out B2.out)
      obtain ⟨_, _, hd2⟩ := curB_cells HC2.out
      have hf2 := frozen_of_row w2 g 2 _ _ HC2.out
      go_wp2
      go_ret
      exact ⟨rfl, (heap_setCell_same _ g _ _ _ _ HC2.out).trans rfl, grownBy_store (grownBy_below _ B2.out) 2 _⟩

set_option maxRecDepth 100000 in
set_option maxHeartbeats 1600000 in
theorem l05Take_any (t : ByteArray) (g n i : Nat) (bad : Bool) (w : World) (ht : t.size ≤ 1048576) (hi : i ≤ t.size) (hn : n ≤ 1000000000) (h : CurB w g t i bad) :
    Calls Try.prog 41 #[.pointer (some ⟨g, 0, none⟩), .int .i64 (n : Int)] w fun e w' => e = .returned (.string (takeC t n i bad).1) ∧ CurB w' g t (takeC t n i bad).2.1 (takeC t n i bad).2.2 ∧ w.grownBy w' (some g) := by
  have HC := hide h
  obtain ⟨hc0, hc1, hc2⟩ := curB_cells h
  have hf1 := frozen_of_row w g 1 _ _ h
  have hf2 := frozen_of_row w g 2 _ _ h
  have hw : IntKind.i64.wrap ((t.size : Int) - (i : Int)) = (t.size : Int) - (i : Int) := by rw [IntKind.wrap_i64]; omega
  clear h
  by_cases hc : bad = true ∨ t.size < i + n
  · have HV : Hid (takeC t n i bad = (⟨#[]⟩, i, true)) := by show _ = _; unfold takeC; rw [if_pos hc]
    rw [HV.out]
    cases bad
    · have hlt : decide ((t.size : Int) - (i : Int) < (n : Int)) = true := by simp at hc; simp; omega
      clear hc
      go_enter Try.func41, Try.ntmps41
      go_wp2_with fail
      go_quiet (fail)
      go_wp2
      go_ret
      exact ⟨rfl, (heap_setCell_same _ g _ _ _ _ HC.out).trans rfl, grownBy_store (grownBy_below _ (below_drewN (Below.refl _ w) _)) 2 _⟩
    · clear hc
      go_enter Try.func41, Try.ntmps41
      go_wp2_with fail
      go_quiet (fail)
      go_wp2
      go_ret
      exact ⟨rfl, (heap_setCell_same _ g _ _ _ _ HC.out).trans rfl, grownBy_store (grownBy_below _ (below_drewN (Below.refl _ w) _)) 2 _⟩
  · have HV : Hid (takeC t n i bad = (t.extract i (i + n), i + n, false)) := by show _ = _; unfold takeC; rw [if_neg hc]
    rw [HV.out]
    obtain rfl : bad = false := by cases bad <;> simp at hc ⊢
    obtain ⟨P, hP⟩ : ∃ P : Nat, P = i + n := ⟨_, rfl⟩
    rw [← hP]
    have hlt : decide ((t.size : Int) - (i : Int) < (n : Int)) = false := by simp at hc; simp; omega
    have hw2 : IntKind.i64.wrap ((i : Int) + (n : Int)) = (P : Int) := by rw [IntKind.wrap_i64]; omega
    have hw3 : IntKind.i64.wrap ((P : Int) - (n : Int)) = (i : Int) := by rw [IntKind.wrap_i64]; omega
    obtain ⟨R, hR⟩ : ∃ R, t.extract i P = R := ⟨_, rfl⟩
    have hcut := cut_at t i P (i : Int) (P : Int) R rfl rfl (by omega) (by simp at hc; omega) hR
    rw [hR]
    have HP := hide hP
    clear hc hP hR
    go_enter Try.func41, Try.ntmps41
    go_wp2_with fail
    go_quiet (fail)
    go_wp2_with fail
    go_quiet (fail)
    go_wp2
    go_ret
    exact ⟨rfl, (heap_setCell_same _ g _ _ _ _ HC.out).trans rfl, grownBy_trans (grownBy_store (grownBy_below _ (below_drewN (Below.refl _ w) _)) 1 _) (grownBy_below _ (below_drewN (Below.refl _ _) _))⟩

theorem l05ReadShort_any (t : ByteArray) (g i : Nat) (bad : Bool) (w : World) (ht : t.size ≤ 1048576) (hi : i ≤ t.size) (h : CurB w g t i bad) :
    Calls Try.prog 43 #[.pointer (some ⟨g, 0, none⟩)] w fun e w' => e = .returned (.string (shortC t i bad).1) ∧ CurB w' g t (shortC t i bad).2.1 (shortC t i bad).2.2 ∧ w.grownBy w' (some g) := by
  have HC := hide h
  clear h
  have hv := varC_le bad hi
  have hcall := hide (fun W (hW : CurB W g t i bad) => l05Var_any t g i bad W ht hi hW)
  obtain ⟨x, HX⟩ : ∃ x, Hid (varC t i bad = x) := ⟨_, rfl⟩
  obtain ⟨n, j, b⟩ := x
  have HS : Hid (shortC t i bad = takeC t n j b) := by show _ = _; unfold shortC; rw [HX.out]
  rw [HX.out] at hv hcall
  rw [HS.out]
  go_enter Try.func43, Try.ntmps43
  go_wp2_with fail
  refine (hcall.out _ HC.out).mono ?_
  rintro e w1 ⟨rfl, hc1, hg1⟩
  have H1 := hide hc1
  have G1 := hide hg1
  clear hc1 hg1
  go_wp2_with fail
  refine (l05Take_any t g n j b _ ht hv.1 hv.2 H1.out).mono ?_
  rintro e w2 ⟨rfl, hc2, hg2⟩
  have H2 := hide hc2
  have G2 := hide hg2
  clear hc2 hg2
  go_wp2
  go_ret
  exact ⟨rfl, H2.out, grownBy_trans G1.out G2.out⟩
end Go.Proofs.Ytbenmgokhklnjaa
