/- The program's reader of a batch: what it holds, and its small parts, which panic where the text is no batch. -/
import Derived.Test.YtmmchemgegmhhaaGreatDoorBatchI0
import Derived.Test.YtmmchemgegmhhaaGreatDoorRShortI
import Derived.Deep.RegionLaw
import Derived.BigQuiet
import Derived.RegionDies
import Derived.Deep.RegionHeld3
namespace Go.Proofs.YtmmchemgegmhhaaGreatDoor
open Go.RowKit

/-- The reader in block g: the text and the place. -/
def CurI (w : World) (g : Nat) (t : ByteArray) (i : Nat) : Prop := w.heap[g]? = some (.cells #[.string t, .int .i64 (i : Int)] 266 (0, 0))
/-- What a reader panics with. -/
def noB : List PanicEntry := [{ v := .iface 292 (.agg #[]), recovered := false }]

theorem curI_cells {w : World} {g : Nat} {t : ByteArray} {i : Nat} (h : CurI w g t i) : w.cell? ⟨g, 0, none⟩ = some (.string t) ∧ w.cell? ⟨g, 1, none⟩ = some (.int .i64 (i : Int)) ∧ w.frozen? ⟨g, 1, none⟩ = false :=
  ⟨(cell_of_row w g 0 _ _ (0, 0) h).trans rfl, (cell_of_row w g 1 _ _ (0, 0) h).trans rfl, frozen_of_row w g 1 _ _ h⟩
theorem curI_lt {w : World} {g : Nat} {t : ByteArray} {i : Nat} (h : CurI w g t i) : g < w.heap.size := (Array.getElem?_eq_some_iff.1 h).1
theorem curI_below {w w' : World} {g : Nat} {t : ByteArray} {i : Nat} (h : CurI w g t i) (hb : Below w.heap.size w w') : CurI w' g t i := (hb.block g (curI_lt h)).trans h
theorem curI_set {w : World} {g : Nat} {t : ByteArray} {i : Nat} (h : CurI w g t i) (k : Nat) : CurI (w.setCell ⟨g, 1, none⟩ (.int .i64 (k : Int))) g t k := (heap_setCell_same _ _ _ _ _ _ h).trans rfl

theorem must_yes (p : Value) (w : World) : Calls Tryz.prog 223 #[p, .bool true] w fun e w' => e = .returned (.tuple #[]) ∧ w' = w := by
  go_enter Tryz.func223, Tryz.ntmps223
  go_wp2
  go_end0
  exact ⟨rfl, rfl⟩
theorem must_no (p : Value) (w : World) : Calls Tryz.prog 223 #[p, .bool false] w fun e w' => e = .panicked noB ∧ w' = w := by
  go_enter Tryz.func223, Tryz.ntmps223
  go_wp2
  exact ⟨rfl, rfl, rfl⟩

/-- The reader goes on in its block; all else that was there stays. -/
def RI (w W : World) (g : Nat) (t : ByteArray) (i : Nat) : Prop := CurI W g t i ∧ w.grownBy W (some g)
theorem ri_refl {w : World} {g : Nat} {t : ByteArray} {i : Nat} (h : CurI w g t i) : RI w w g t i := ⟨h, World.grownBy.refl _ _⟩
theorem ri_below {w W W' : World} {g : Nat} {t : ByteArray} {i : Nat} (h : RI w W g t i) (hb : Below W.heap.size W W') : RI w W' g t i := ⟨curI_below h.1 hb, grownBy_trans h.2 (grownBy_below _ hb)⟩
theorem ri_trans {w W W' : World} {g : Nat} {t : ByteArray} {i j : Nat} (h : RI w W g t i) (k : RI W W' g t j) : RI w W' g t j := ⟨k.1, grownBy_trans h.2 k.2⟩
theorem ri_set {w W : World} {g : Nat} {t : ByteArray} {i : Nat} (h : RI w W g t i) (k : Nat) (z : Int) (hz : z = (k : Int)) : RI w (W.setCell ⟨g, 1, none⟩ (.int .i64 z)) g t k := by
  subst hz
  exact ⟨curI_set h.1 k, grownBy_store h.2 1 _⟩
theorem grownBy_far {a b : World} {r : Option Nat} (h : a.grownBy b r) {p : Nat} (hp : a.heap.size ≤ p) (j : Nat) (u : Value) : a.grownBy (b.setCell ⟨p, j, none⟩ u) r :=
  ⟨h.os, h.tape, h.output, by have := h.size; simpa [World.setCell] using this, fun k hk hne => (Below.heap_setCell _ _ _ _ (by intro e; simp only at e; omega)).trans (h.block k hk hne)⟩
theorem ri_far {w W : World} {g : Nat} {t : ByteArray} {i : Nat} (h : RI w W g t i) (hg : g < w.heap.size) {p : Nat} (hp : w.heap.size ≤ p) (j : Nat) (u : Value) : RI w (W.setCell ⟨p, j, none⟩ u) g t i :=
  ⟨(Below.heap_setCell _ _ _ _ (by intro e; simp only at e; omega)).trans h.1, grownBy_far h.2 hp j u⟩
theorem ri_cells {w W : World} {g : Nat} {t : ByteArray} {i : Nat} (h : RI w W g t i) : W.cell? ⟨g, 0, none⟩ = some (.string t) ∧ W.cell? ⟨g, 1, none⟩ = some (.int .i64 (i : Int)) ∧ W.frozen? ⟨g, 1, none⟩ = false := curI_cells h.1

set_option maxRecDepth 100000 in
set_option maxHeartbeats 800000 in
theorem oneByte_yes (t : ByteArray) (g i : Nat) (w : World) (ht : t.size ≤ 9000) (hi : i < t.size) (h : CurI w g t i) :
    Calls Tryz.prog 235 #[.pointer (some ⟨g, 0, none⟩)] w fun e w' => e = .returned (.int .u8 (Wd.bt t i : Int)) ∧ RI w w' g t (i + 1) := by
  have HC := hide h
  have hg := curI_lt h
  obtain ⟨hc0, hc1, hf1⟩ := curI_cells h
  clear h
  have hlt : decide ((i : Int) < (t.size : Int)) = true := by simp; omega
  obtain ⟨b, hB, hbt⟩ : ∃ b : Nat, Hid (Wd.bt t i = b) ∧ (t[i]'hi).toNat = b := ⟨_, rfl, Wd.bt_eq t i hi⟩
  go_enter Tryz.func235, Tryz.ntmps235
  go_wp2_with fail
  go_quiet ((go_at_call 223; exact Calls.quiet_of_same (must_yes _ _)))
  go_wp2_with fail
  go_quiet (fail)
  go_wp2
  go_ret
  rw [hB.out]
  exact ⟨rfl, ri_set (ri_below (ri_refl HC.out) (drewN_below _ _)) (i + 1) _ (by omega)⟩

set_option maxRecDepth 100000 in
set_option maxHeartbeats 800000 in
theorem oneByte_no (t : ByteArray) (g i : Nat) (w : World) (hi : ¬ i < t.size) (h : CurI w g t i) :
    Calls Tryz.prog 235 #[.pointer (some ⟨g, 0, none⟩)] w fun e w' => e = .panicked noB ∧ w.grownBy w' (some g) := by
  obtain ⟨hc0, hc1, hf1⟩ := curI_cells h
  clear h
  have hlt : decide ((i : Int) < (t.size : Int)) = false := by simp; omega
  go_enter Tryz.func235, Tryz.ntmps235
  go_wp2_with fail
  go_region_dies
  all_goals
    refine (must_no _ _).mono ?_
    rintro e w1 ⟨rfl, rfl⟩
    exact ⟨rfl, rfl, grownBy_below _ (Below.refl _ _).drew⟩

set_option maxRecDepth 100000 in
set_option maxHeartbeats 800000 in
theorem number_yes (t : ByteArray) (g i n p : Nat) (w : World) (ht : t.size ≤ 9000) (hi : i ≤ t.size) (h : CurI w g t i) (hr : Wd.rv t i = some (n, p)) :
    Calls Tryz.prog 236 #[.pointer (some ⟨g, 0, none⟩)] w fun e w' => e = .returned (.int .i64 (n : Int)) ∧ RI w w' g t p := by
  have HC := hide h
  have hg := curI_lt h
  obtain ⟨hc0, hc1, hf1⟩ := curI_cells h
  have hread : Hid (∀ W, Calls Tryz.prog 209 #[.string t, .int .i64 (i : Int)] W fun e w' => e = .returned (.tuple #[.int .i64 (n : Int), .int .i64 (p : Int), .bool true]) ∧ w' = W) := fun W => by have := implRead_in t i W (by unfold maxLen; omega) hi; rw [hr] at this; exact this
  clear h hr
  go_enter Tryz.func236, Tryz.ntmps236
  go_wp2_with fail
  go_quiet ((go_at_call 209; exact Calls.quiet_of_same (hread.out _)))
  go_wp2_with (first | (go_at_call 223; refine (must_yes _ _).mono ?_; rintro e w1 ⟨rfl, rfl⟩))
  go_ret
  exact ⟨rfl, ri_set (ri_below (ri_refl HC.out) (drewN_below _ _)) _ _ rfl⟩

set_option maxRecDepth 100000 in
set_option maxHeartbeats 800000 in
theorem number_no (t : ByteArray) (g i : Nat) (w : World) (ht : t.size ≤ 9000) (hi : i ≤ t.size) (h : CurI w g t i) (hr : Wd.rv t i = none) :
    Calls Tryz.prog 236 #[.pointer (some ⟨g, 0, none⟩)] w fun e w' => e = .panicked noB ∧ w.grownBy w' (some g) := by
  obtain ⟨hc0, hc1, hf1⟩ := curI_cells h
  have hread : Hid (∀ W, Calls Tryz.prog 209 #[.string t, .int .i64 (i : Int)] W fun e w' => e = .returned (.tuple #[.int .i64 0, .int .i64 0, .bool false]) ∧ w' = W) := fun W => by have := implRead_in t i W (by unfold maxLen; omega) hi; rw [hr] at this; exact this
  clear h hr
  go_enter Tryz.func236, Tryz.ntmps236
  go_wp2_with fail
  go_quiet ((go_at_call 209; exact Calls.quiet_of_same (hread.out _)))
  go_wp2_with fail
  refine (must_no _ _).mono ?_
  rintro e w1 ⟨rfl, rfl⟩
  exact ⟨rfl, rfl, grownBy_below _ (drewN_below _ _)⟩

/-- The program's ReadShort, by what is read plainly. -/
theorem readShort_some (t : ByteArray) (i : Nat) (s : ByteArray) (p : Nat) (w : World) (ht : t.size ≤ 9000) (hi : i ≤ t.size) (h : shI t i = some (s, p)) :
    Calls Tryz.prog 265 #[.string t, .int .i64 (i : Int)] w fun e w' => e = .returned (.tuple #[.string s, .int .i64 (p : Int), .bool true]) ∧ Below w.heap.size w w' := by
  have hI : Wd.rvI t (i : Int) = Wd.rv t i := by unfold Wd.rvI; rw [if_neg (by omega), Int.toNat_natCast]
  cases hr : Wd.rv t i with
  | none => rw [shI_none hr] at h; cases h
  | some x =>
    obtain ⟨n, k⟩ := x
    by_cases hc : n ≤ 20000 ∧ k + n ≤ t.size
    · rw [shI_yes hr hc.1 hc.2] at h
      simp only [Option.some.injEq, Prod.mk.injEq] at h
      obtain ⟨rfl, rfl⟩ := h
      have := implRShort_yes t (i : Int) w n k (by omega) (by rw [hI]; exact hr) hc.1 hc.2
      rw [show ((k + n : Nat) : Int) = (k : Int) + (n : Int) from by omega]
      exact this
    · rw [shI_no hr (by omega)] at h; cases h
theorem readShort_none (t : ByteArray) (i : Nat) (w : World) (ht : t.size ≤ 9000) (hi : i ≤ t.size) (h : shI t i = none) :
    Calls Tryz.prog 265 #[.string t, .int .i64 (i : Int)] w fun e w' => e = .returned (.tuple #[.string ⟨#[]⟩, .int .i64 0, .bool false]) ∧ Below w.heap.size w w' := by
  have hI : Wd.rvI t (i : Int) = Wd.rv t i := by unfold Wd.rvI; rw [if_neg (by omega), Int.toNat_natCast]
  cases hr : Wd.rv t i with
  | none => exact implRShort_none t (i : Int) w (by omega) (by rw [hI]; exact hr)
  | some x =>
    obtain ⟨n, k⟩ := x
    by_cases hc : n ≤ 20000 ∧ k + n ≤ t.size
    · rw [shI_yes hr hc.1 hc.2] at h; cases h
    · exact implRShort_no t (i : Int) w n k (by omega) (by rw [hI]; exact hr) (by omega)

set_option maxRecDepth 100000 in
set_option maxHeartbeats 800000 in
theorem short_yes (t : ByteArray) (g i : Nat) (s : ByteArray) (p : Nat) (w : World) (ht : t.size ≤ 9000) (hi : i ≤ t.size) (h : CurI w g t i) (hr : shI t i = some (s, p)) :
    Calls Tryz.prog 256 #[.pointer (some ⟨g, 0, none⟩)] w fun e w' => e = .returned (.string s) ∧ RI w w' g t p := by
  have HC := hide h
  have hg := curI_lt h
  obtain ⟨hc0, hc1, hf1⟩ := curI_cells h
  have HR := hide (fun W => readShort_some t i s p W ht hi hr)
  clear h hr
  go_enter Tryz.func256, Tryz.ntmps256
  go_wp2_with fail
  go_region_held3 (fun w' => w'.cell? ⟨g, 0, none⟩ = some (.string t) ∧ w'.cell? ⟨g, 1, none⟩ = some (.int .i64 (i : Int))) (first | (go_keep; done) | (exact ⟨(B2.out.cell (p := ⟨g, 0, none⟩) hg).trans hc0, (B2.out.cell (p := ⟨g, 1, none⟩) hg).trans hc1⟩) | fail) ((first | (go_at_call 265; refine (HR.out _).mono ?_; rintro e w2 ⟨rfl, b2⟩; have B2 : Hid (Below w.heap.size w w2) := (Below.refl _ _).drew.trans b2; clear b2) | fail))
  have R2 := hide (ri_below (ri_refl HC.out) B2.out)
  obtain ⟨_, hd1, hd2⟩ := ri_cells R2.out
  go_wp2_with (first | (go_at_call 223; refine (must_yes _ _).mono ?_; rintro e w1 ⟨rfl, rfl⟩))
  go_ret
  exact ⟨rfl, ri_set R2.out _ _ rfl⟩

set_option maxRecDepth 100000 in
set_option maxHeartbeats 800000 in
theorem short_no (t : ByteArray) (g i : Nat) (w : World) (ht : t.size ≤ 9000) (hi : i ≤ t.size) (h : CurI w g t i) (hr : shI t i = none) :
    Calls Tryz.prog 256 #[.pointer (some ⟨g, 0, none⟩)] w fun e w' => e = .panicked noB ∧ w.grownBy w' (some g) := by
  have hg := curI_lt h
  obtain ⟨hc0, hc1, hf1⟩ := curI_cells h
  have HR := hide (fun W => readShort_none t i W ht hi hr)
  clear h hr
  go_enter Tryz.func256, Tryz.ntmps256
  go_wp2_with fail
  go_region_held3 (fun w' => w'.cell? ⟨g, 0, none⟩ = some (.string t) ∧ w'.cell? ⟨g, 1, none⟩ = some (.int .i64 (i : Int))) (first | (go_keep; done) | (exact ⟨(B2.out.cell (p := ⟨g, 0, none⟩) hg).trans hc0, (B2.out.cell (p := ⟨g, 1, none⟩) hg).trans hc1⟩) | fail) ((first | (go_at_call 265; refine (HR.out _).mono ?_; rintro e w2 ⟨rfl, b2⟩; have B2 : Hid (Below w.heap.size w w2) := (Below.refl _ _).drew.trans b2; clear b2) | fail))
  go_wp2_with fail
  refine (must_no _ _).mono ?_
  rintro e w1 ⟨rfl, rfl⟩
  exact ⟨rfl, rfl, grownBy_below _ B2.out⟩
end Go.Proofs.YtmmchemgegmhhaaGreatDoor
