import Derived.Deep.RegionLaw
import Derived.BigQuiet
import Derived.RegionDies
import Derived.Deep.RegionHeld3
import Derived.Deep.CutRange
import Derived.Deep.LoopGhost
import Derived.Test.YthpolfmbcipjaaaGreatDoorCo18
set_option maxRecDepth 100000
set_option maxHeartbeats 1600000
namespace Go.Proofs.YthpolfmbcipjaaaGreatDoor
open Go.RowKit
def CurI (w : World) (g : Nat) (t : ByteArray) (i : Nat) : Prop := w.heap[g]? = some (.cells #[.string t, .int .i64 (i : Int)] 236 (0, 0))
def noB : List PanicEntry := [{ v := .iface 270 (.agg #[]), recovered := false }]
theorem curI_cells {w : World} {g : Nat} {t : ByteArray} {i : Nat} (h : CurI w g t i) : w.cell? ⟨g, 0, none⟩ = some (.string t) ∧ w.cell? ⟨g, 1, none⟩ = some (.int .i64 (i : Int)) ∧ w.frozen? ⟨g, 1, none⟩ = false :=
  ⟨(cell_of_row w g 0 _ _ (0, 0) h).trans rfl, (cell_of_row w g 1 _ _ (0, 0) h).trans rfl, frozen_of_row w g 1 _ _ h⟩
theorem curI_lt {w : World} {g : Nat} {t : ByteArray} {i : Nat} (h : CurI w g t i) : g < w.heap.size := (Array.getElem?_eq_some_iff.1 h).1
theorem curI_below {w w' : World} {g : Nat} {t : ByteArray} {i : Nat} (h : CurI w g t i) (hb : Below w.heap.size w w') : CurI w' g t i := (hb.block g (curI_lt h)).trans h
theorem curI_set {w : World} {g : Nat} {t : ByteArray} {i : Nat} (h : CurI w g t i) (k : Nat) : CurI (w.setCell ⟨g, 1, none⟩ (.int .i64 (k : Int))) g t k := (heap_setCell_same _ _ _ _ _ _ h).trans rfl
theorem must_yes (p : Value) (w : World) : Calls Tryz.prog 188 #[p, .bool true] w fun e w' => e = .returned (.tuple #[]) ∧ w' = w := by
  go_enter Tryz.func188, Tryz.ntmps188
  go_wp2
  go_end0
  exact ⟨rfl, rfl⟩
theorem must_no (p : Value) (w : World) : Calls Tryz.prog 188 #[p, .bool false] w fun e w' => e = .panicked noB ∧ w' = w := by
  go_enter Tryz.func188, Tryz.ntmps188
  go_wp2
  exact ⟨rfl, rfl, rfl⟩
def RI (w W : World) (g : Nat) (t : ByteArray) (i : Nat) : Prop := CurI W g t i ∧ w.grownBy W (some g)
theorem ri_refl {w : World} {g : Nat} {t : ByteArray} {i : Nat} (h : CurI w g t i) : RI w w g t i := ⟨h, World.grownBy.refl _ _⟩
theorem ri_below {w W W' : World} {g : Nat} {t : ByteArray} {i : Nat} (h : RI w W g t i) (hb : Below W.heap.size W W') : RI w W' g t i := ⟨curI_below h.1 hb, grownBy_trans h.2 (grownBy_below _ hb)⟩
theorem ri_trans {w W W' : World} {g : Nat} {t : ByteArray} {i j : Nat} (h : RI w W g t i) (k : RI W W' g t j) : RI w W' g t j := ⟨k.1, grownBy_trans h.2 k.2⟩
theorem ri_set {w W : World} {g : Nat} {t : ByteArray} {i : Nat} (h : RI w W g t i) (k : Nat) (z : Int) (hz : z = (k : Int)) : RI w (W.setCell ⟨g, 1, none⟩ (.int .i64 z)) g t k := by
  subst hz
  exact ⟨curI_set h.1 k, grownBy_store h.2 1 _⟩
theorem grownBy_far {a b : World} {r : Option Nat} (h : a.grownBy b r) {p : Nat} (hp : a.heap.size ≤ p) (j : Nat) (u : Value) : a.grownBy (b.setCell ⟨p, j, none⟩ u) r :=
  ⟨h.os, h.tape, h.output, by have := h.size; simpa [World.setCell] using this, fun k hk hne => (Below.heap_setCell _ _ _ _ (by intro e; simp only at e; omega)).trans (h.block k hk hne)⟩
theorem ri_far {w W : World} {g : Nat} {t : ByteArray} {i : Nat} (h : RI w W g t i) (hg : g < w.heap.size) {p : Nat} (hp : w.heap.size ≤ p) (j : Nat) (u : Value) : RI w (W.setCell ⟨p, j, none⟩ u) g t i :=
  ⟨(Below.heap_setCell _ _ _ _ (by intro e; simp only at e; omega)).trans h.1, grownBy_far h.2 hp j u⟩
theorem ri_cells {w W : World} {g : Nat} {t : ByteArray} {i : Nat} (h : RI w W g t i) : W.cell? ⟨g, 0, none⟩ = some (.string t) ∧ W.cell? ⟨g, 1, none⟩ = some (.int .i64 (i : Int)) ∧ W.frozen? ⟨g, 1, none⟩ = false := curI_cells h.1
theorem oneByte_yes (t : ByteArray) (g i : Nat) (w : World) (ht : t.size ≤ 9000) (hi : i < t.size) (h : CurI w g t i) :
    Calls Tryz.prog 209 #[.pointer (some ⟨g, 0, none⟩)] w fun e w' => e = .returned (.int .u8 (Wd.bt t i : Int)) ∧ RI w w' g t (i + 1) := by
  have HC := hide h
  have hg := curI_lt h
  obtain ⟨hc0, hc1, hf1⟩ := curI_cells h
  clear h
  have hlt : decide ((i : Int) < (t.size : Int)) = true := by simp; omega
  obtain ⟨b, hB, hbt⟩ : ∃ b : Nat, Hid (Wd.bt t i = b) ∧ (t[i]'hi).toNat = b := ⟨_, rfl, Wd.bt_eq t i hi⟩
  go_enter Tryz.func209, Tryz.ntmps209
  go_wp2_with fail
  go_quiet ((go_at_call 188; exact Calls.quiet_of_same (must_yes _ _)))
  go_wp2_with fail
  go_quiet (fail)
  go_wp2
  go_ret
  rw [hB.out]
  exact ⟨rfl, ri_set (ri_below (ri_refl HC.out) (drewN_below _ _)) (i + 1) _ (by omega)⟩
theorem oneByte_no (t : ByteArray) (g i : Nat) (w : World) (hi : ¬ i < t.size) (h : CurI w g t i) :
    Calls Tryz.prog 209 #[.pointer (some ⟨g, 0, none⟩)] w fun e w' => e = .panicked noB ∧ w.grownBy w' (some g) := by
  obtain ⟨hc0, hc1, hf1⟩ := curI_cells h
  clear h
  have hlt : decide ((i : Int) < (t.size : Int)) = false := by simp; omega
  go_enter Tryz.func209, Tryz.ntmps209
  go_wp2_with fail
  go_region_dies
  all_goals
    refine (must_no _ _).mono ?_
    rintro e w1 ⟨rfl, rfl⟩
    exact ⟨rfl, rfl, grownBy_below _ (Below.refl _ _).drew⟩
theorem number_yes (t : ByteArray) (g i n p : Nat) (w : World) (ht : t.size ≤ 9000) (hi : i ≤ t.size) (h : CurI w g t i) (hr : Wd.rv t i = some (n, p)) :
    Calls Tryz.prog 210 #[.pointer (some ⟨g, 0, none⟩)] w fun e w' => e = .returned (.int .i64 (n : Int)) ∧ RI w w' g t p := by
  have HC := hide h
  have hg := curI_lt h
  obtain ⟨hc0, hc1, hf1⟩ := curI_cells h
  have hread : Hid (∀ W, Calls Tryz.prog 169 #[.string t, .int .i64 (i : Int)] W fun e w' => e = .returned (.tuple #[.int .i64 (n : Int), .int .i64 (p : Int), .bool true]) ∧ w' = W) := fun W => by have := implRead_in t i W (by unfold maxLen; omega) hi; rw [hr] at this; exact this
  clear h hr
  go_enter Tryz.func210, Tryz.ntmps210
  go_wp2_with fail
  go_quiet ((go_at_call 169; exact Calls.quiet_of_same (hread.out _)))
  go_wp2_with (first | (go_at_call 188; refine (must_yes _ _).mono ?_; rintro e w1 ⟨rfl, rfl⟩))
  go_ret
  exact ⟨rfl, ri_set (ri_below (ri_refl HC.out) (drewN_below _ _)) _ _ rfl⟩
theorem number_no (t : ByteArray) (g i : Nat) (w : World) (ht : t.size ≤ 9000) (hi : i ≤ t.size) (h : CurI w g t i) (hr : Wd.rv t i = none) :
    Calls Tryz.prog 210 #[.pointer (some ⟨g, 0, none⟩)] w fun e w' => e = .panicked noB ∧ w.grownBy w' (some g) := by
  obtain ⟨hc0, hc1, hf1⟩ := curI_cells h
  have hread : Hid (∀ W, Calls Tryz.prog 169 #[.string t, .int .i64 (i : Int)] W fun e w' => e = .returned (.tuple #[.int .i64 0, .int .i64 0, .bool false]) ∧ w' = W) := fun W => by have := implRead_in t i W (by unfold maxLen; omega) hi; rw [hr] at this; exact this
  clear h hr
  go_enter Tryz.func210, Tryz.ntmps210
  go_wp2_with fail
  go_quiet ((go_at_call 169; exact Calls.quiet_of_same (hread.out _)))
  go_wp2_with fail
  refine (must_no _ _).mono ?_
  rintro e w1 ⟨rfl, rfl⟩
  exact ⟨rfl, rfl, grownBy_below _ (drewN_below _ _)⟩
theorem readShort_some (t : ByteArray) (i : Nat) (s : ByteArray) (p : Nat) (w : World) (ht : t.size ≤ 9000) (hi : i ≤ t.size) (h : shI t i = some (s, p)) :
    Calls Tryz.prog 226 #[.string t, .int .i64 (i : Int)] w fun e w' => e = .returned (.tuple #[.string s, .int .i64 (p : Int), .bool true]) ∧ Below w.heap.size w w' := by
  have hI : Wd.rvI t (i : Int) = Wd.rv t i := by unfold Wd.rvI; rw [if_neg (by omega), Int.toNat_natCast]
  cases hr : Wd.rv t i with
  | none => rw [shI_none hr] at h; cases h
  | some x =>
    obtain ⟨n, k⟩ := x
    by_cases hc : n ≤ 20000 ∧ k + n ≤ t.size
    · rw [shI_yes hr hc.1 hc.2] at h
      simp only [Option.some.injEq, Prod.mk.injEq] at h
      obtain ⟨rfl, rfl⟩ := h
      have := implRShort_yes t (i : Int) w n k (by omega) (by rw [hI]; exact hr) hc.1 hc.2
      rw [show ((k + n : Nat) : Int) = (k : Int) + (n : Int) from by omega]
      exact this
    · rw [shI_no hr (by omega)] at h; cases h
theorem readShort_none (t : ByteArray) (i : Nat) (w : World) (ht : t.size ≤ 9000) (hi : i ≤ t.size) (h : shI t i = none) :
    Calls Tryz.prog 226 #[.string t, .int .i64 (i : Int)] w fun e w' => e = .returned (.tuple #[.string ⟨#[]⟩, .int .i64 0, .bool false]) ∧ Below w.heap.size w w' := by
  have hI : Wd.rvI t (i : Int) = Wd.rv t i := by unfold Wd.rvI; rw [if_neg (by omega), Int.toNat_natCast]
  cases hr : Wd.rv t i with
  | none => exact implRShort_none t (i : Int) w (by omega) (by rw [hI]; exact hr)
  | some x =>
    obtain ⟨n, k⟩ := x
    by_cases hc : n ≤ 20000 ∧ k + n ≤ t.size
    · rw [shI_yes hr hc.1 hc.2] at h; cases h
    · exact implRShort_no t (i : Int) w n k (by omega) (by rw [hI]; exact hr) (by omega)
theorem short_yes (t : ByteArray) (g i : Nat) (s : ByteArray) (p : Nat) (w : World) (ht : t.size ≤ 9000) (hi : i ≤ t.size) (h : CurI w g t i) (hr : shI t i = some (s, p)) :
    Calls Tryz.prog 222 #[.pointer (some ⟨g, 0, none⟩)] w fun e w' => e = .returned (.string s) ∧ RI w w' g t p := by
  have HC := hide h
  have hg := curI_lt h
  obtain ⟨hc0, hc1, hf1⟩ := curI_cells h
  have HR := hide (fun W => readShort_some t i s p W ht hi hr)
  clear h hr
  go_enter Tryz.func222, Tryz.ntmps222
  go_wp2_with fail
  go_region_held3 (fun w' => w'.cell? ⟨g, 0, none⟩ = some (.string t) ∧ w'.cell? ⟨g, 1, none⟩ = some (.int .i64 (i : Int))) (first | (go_keep; done) | (exact ⟨(B2.out.cell (p := ⟨g, 0, none⟩) hg).trans hc0, (B2.out.cell (p := ⟨g, 1, none⟩) hg).trans hc1⟩) | fail) ((first | (go_at_call 226; refine (HR.out _).mono ?_; rintro e w2 ⟨rfl, b2⟩; have B2 : Hid (Below w.heap.size w w2) := (Below.refl _ _).drew.trans b2; clear b2) | fail))
  have R2 := hide (ri_below (ri_refl HC.out) B2.out)
  obtain ⟨_, hd1, hd2⟩ := ri_cells R2.out
  go_wp2_with (first | (go_at_call 188; refine (must_yes _ _).mono ?_; rintro e w1 ⟨rfl, rfl⟩))
  go_ret
  exact ⟨rfl, ri_set R2.out _ _ rfl⟩
theorem short_no (t : ByteArray) (g i : Nat) (w : World) (ht : t.size ≤ 9000) (hi : i ≤ t.size) (h : CurI w g t i) (hr : shI t i = none) :
    Calls Tryz.prog 222 #[.pointer (some ⟨g, 0, none⟩)] w fun e w' => e = .panicked noB ∧ w.grownBy w' (some g) := by
  have hg := curI_lt h
  obtain ⟨hc0, hc1, hf1⟩ := curI_cells h
  have HR := hide (fun W => readShort_none t i W ht hi hr)
  clear h hr
  go_enter Tryz.func222, Tryz.ntmps222
  go_wp2_with fail
  go_region_held3 (fun w' => w'.cell? ⟨g, 0, none⟩ = some (.string t) ∧ w'.cell? ⟨g, 1, none⟩ = some (.int .i64 (i : Int))) (first | (go_keep; done) | (exact ⟨(B2.out.cell (p := ⟨g, 0, none⟩) hg).trans hc0, (B2.out.cell (p := ⟨g, 1, none⟩) hg).trans hc1⟩) | fail) ((first | (go_at_call 226; refine (HR.out _).mono ?_; rintro e w2 ⟨rfl, b2⟩; have B2 : Hid (Below w.heap.size w w2) := (Below.refl _ _).drew.trans b2; clear b2) | fail))
  go_wp2_with fail
  refine (must_no _ _).mono ?_
  rintro e w1 ⟨rfl, rfl⟩
  exact ⟨rfl, rfl, grownBy_below _ B2.out⟩
theorem chI_some {t : ByteArray} {i e : Nat} {A : ChangeD} (h : chI t i = some (A, e)) : ∃ p, shI t i = some (A.key, p) ∧ p < t.size ∧ Wd.bt t p < 2 ∧ shI t (p + 1) = some (A.value, e) ∧ A.gone = (Wd.bt t p == 1) := by
  unfold chI at h
  cases h1 : shI t i with
  | none => rw [h1] at h; cases h
  | some x =>
    obtain ⟨s, p⟩ := x
    rw [h1] at h
    simp only at h
    by_cases hc : p < t.size ∧ Wd.bt t p < 2
    · rw [if_pos hc] at h
      cases h2 : shI t (p + 1) with
      | none => rw [h2] at h; cases h
      | some y =>
        obtain ⟨v, e'⟩ := y
        rw [h2] at h
        simp only [Option.some.injEq, Prod.mk.injEq] at h
        obtain ⟨rfl, rfl⟩ := h
        exact ⟨p, rfl, hc.1, hc.2, h2, rfl⟩
    · rw [if_neg hc] at h; cases h
theorem chI_none {t : ByteArray} {i : Nat} (h : chI t i = none) : shI t i = none ∨ ∃ s p, shI t i = some (s, p) ∧ (¬ p < t.size ∨ (p < t.size ∧ ¬ Wd.bt t p < 2) ∨ (p < t.size ∧ Wd.bt t p < 2 ∧ shI t (p + 1) = none)) := by
  unfold chI at h
  cases h1 : shI t i with
  | none => exact .inl rfl
  | some x =>
    obtain ⟨s, p⟩ := x
    rw [h1] at h
    simp only at h
    refine .inr ⟨s, p, rfl, ?_⟩
    by_cases hp : p < t.size
    · by_cases hb : Wd.bt t p < 2
      · rw [if_pos ⟨hp, hb⟩] at h
        cases h2 : shI t (p + 1) with
        | none => exact .inr (.inr ⟨hp, hb, rfl⟩)
        | some y =>
          rw [h2] at h
          cases h
      · exact .inr (.inl ⟨hp, hb⟩)
    · exact .inl hp
theorem change_yes (t : ByteArray) (g i e : Nat) (A : ChangeD) (w : World) (ht : t.size ≤ 9000) (hi : i ≤ t.size) (h : CurI w g t i) (hA : chI t i = some (A, e)) :
    Calls Tryz.prog 211 #[.pointer (some ⟨g, 0, none⟩)] w fun r w' => r = .returned (.agg #[.string A.key, .string A.value, .bool A.gone]) ∧ RI w w' g t e := by
  obtain ⟨p, h1, h2, h3, h4, h5⟩ := chI_some hA
  obtain ⟨s, v, gn⟩ := A
  simp only at h1 h4 h5 ⊢
  have hp := (shI_text h1).2.2.1
  have C1 := hide (fun W (hW : CurI W g t i) => short_yes t g i s p W ht hi hW h1)
  have C3 := hide (fun W (hW : CurI W g t (p + 1)) => short_yes t g (p + 1) v e W ht (by omega) hW h4)
  have hg := curI_lt h
  have b0 : RI w (w.alloc (.cells #[.string ⟨#[]⟩, .string ⟨#[]⟩, .bool false] 57)) g t i := ri_below (ri_refl h) ((Below.refl _ w).alloc (Nat.le_refl _) _)
  have hbx0 := heap_alloc_new w (.cells #[.string ⟨#[]⟩, .string ⟨#[]⟩, .bool false] 57)
  have hb01 : Wd.bt t p = 0 ∨ Wd.bt t p = 1 := by omega
  have C2 := hide (fun W (hW : CurI W g t p) => oneByte_yes t g p W ht h2 hW)
  clear h hA h1 h4 h3
  rcases hb01 with hb | hb
  all_goals
    rw [hb] at C2 h5
    have HG := hide h5
    clear h5 hb
    go_enter Tryz.func211, Tryz.ntmps211
    go_wp2_with fail
    generalize w.alloc (.cells #[.string ⟨#[]⟩, .string ⟨#[]⟩, .bool false] 57) = wb at b0 hbx0
    refine (C1.out _ b0.1).mono ?_
    rintro e1 w1 ⟨rfl, r1⟩
    have R1 := hide (ri_trans b0 r1)
    have X1 := hide ((r1.2.block w.heap.size (heap_lt hbx0) (by simp; omega)).trans hbx0)
    clear r1 b0 hbx0
    go_wp2_with fail
    refine (C2.out _ R1.out.1).mono ?_
    rintro e1 w2 ⟨rfl, r2⟩
    have R2 := hide (ri_trans R1.out r2)
    have X2 := hide ((r2.2.block w.heap.size (heap_lt X1.out) (by simp; omega)).trans X1.out)
    clear r2 R1 X1
    go_wp2_with fail
    refine (must_yes _ _).mono ?_
    rintro e1 w3 ⟨rfl, rfl⟩
    go_wp2_with fail
    refine (C3.out _ R2.out.1).mono ?_
    rintro e1 w4 ⟨rfl, r4⟩
    have R4 := hide (ri_trans R2.out r4)
    have x4 := (r4.2.block w.heap.size (heap_lt X2.out) (by simp; omega)).trans X2.out
    clear r4 R2 X2
    have hd0 : w4.cell? ⟨w.heap.size, 0, none⟩ = some (.string ⟨#[]⟩) := (cell_of_row w4 _ 0 _ _ (0, 0) x4).trans rfl
    have hd1 : w4.cell? ⟨w.heap.size, 1, none⟩ = some (.string ⟨#[]⟩) := (cell_of_row w4 _ 1 _ _ (0, 0) x4).trans rfl
    have hd2 : w4.cell? ⟨w.heap.size, 2, none⟩ = some (.bool false) := (cell_of_row w4 _ 2 _ _ (0, 0) x4).trans rfl
    have hf0 := frozen_of_row w4 w.heap.size 0 _ _ x4
    have hf1 := frozen_of_row w4 w.heap.size 1 _ _ x4
    have hf2 := frozen_of_row w4 w.heap.size 2 _ _ x4
    clear x4
    go_wp2_with fail
    rw [HG.out]
    refine bodyPost_ret (v := .agg #[.string s, .string v, .bool _]) (by simp [results, Tryz.results211, go_sem, hd0, hd1, hd2]) rfl ⟨rfl, ri_far (ri_far (ri_far R4.out hg (Nat.le_refl _) _ _) hg (Nat.le_refl _) _ _) hg (Nat.le_refl _) _ _⟩
theorem change_no (t : ByteArray) (g i : Nat) (w : World) (ht : t.size ≤ 9000) (hi : i ≤ t.size) (h : CurI w g t i) (hA : chI t i = none) :
    Calls Tryz.prog 211 #[.pointer (some ⟨g, 0, none⟩)] w fun r w' => r = .panicked noB ∧ w.grownBy w' (some g) := by
  have b0 : RI w (w.alloc (.cells #[.string ⟨#[]⟩, .string ⟨#[]⟩, .bool false] 57)) g t i := ri_below (ri_refl h) ((Below.refl _ w).alloc (Nat.le_refl _) _)
  clear h
  rcases chI_none hA with h1 | ⟨s, p, h1, h2⟩
  · have C1 := hide (fun W (hW : CurI W g t i) => short_no t g i W ht hi hW h1)
    clear hA h1
    go_enter Tryz.func211, Tryz.ntmps211
    go_wp2_with fail
    refine (C1.out _ b0.1).mono ?_
    rintro e1 w1 ⟨rfl, r1⟩
    exact ⟨rfl, rfl, grownBy_trans b0.2 r1⟩
  · have hp := (shI_text h1).2.2.1
    have C1 := hide (fun W (hW : CurI W g t i) => short_yes t g i s p W ht hi hW h1)
    clear hA h1
    rcases h2 with h2 | ⟨h2, h3⟩ | ⟨h2, h3, h4⟩
    · have C2 := hide (fun W (hW : CurI W g t p) => oneByte_no t g p W h2 hW)
      clear h2
      go_enter Tryz.func211, Tryz.ntmps211
      go_wp2_with fail
      refine (C1.out _ b0.1).mono ?_
      rintro e1 w1 ⟨rfl, r1⟩
      have R1 := hide (ri_trans b0 r1)
      clear r1 b0
      go_wp2_with fail
      refine (C2.out _ R1.out.1).mono ?_
      rintro e1 w2 ⟨rfl, r2⟩
      exact ⟨rfl, rfl, grownBy_trans R1.out.2 r2⟩
    · have C2 := hide (fun W (hW : CurI W g t p) => oneByte_yes t g p W ht h2 hW)
      generalize Wd.bt t p = b at C2 h3
      have hb0 : ((b : Int) == 0) = false := by simp; omega
      have hb1 : ((b : Int) == 1) = false := by simp; omega
      clear h2 h3
      go_enter Tryz.func211, Tryz.ntmps211
      go_wp2_with fail
      refine (C1.out _ b0.1).mono ?_
      rintro e1 w1 ⟨rfl, r1⟩
      have R1 := hide (ri_trans b0 r1)
      clear r1 b0
      go_wp2_with fail
      refine (C2.out _ R1.out.1).mono ?_
      rintro e1 w2 ⟨rfl, r2⟩
      have R2 := hide (ri_trans R1.out r2)
      clear r2 R1
      go_wp2_with fail
      refine (must_no _ _).mono ?_
      rintro e1 w3 ⟨rfl, rfl⟩
      exact ⟨rfl, rfl, R2.out.2⟩
    · have hb01 : Wd.bt t p = 0 ∨ Wd.bt t p = 1 := by omega
      have C2 := hide (fun W (hW : CurI W g t p) => oneByte_yes t g p W ht h2 hW)
      have C3 := hide (fun W (hW : CurI W g t (p + 1)) => short_no t g (p + 1) W ht (by omega) hW h4)
      clear h3 h4
      rcases hb01 with hb | hb
      all_goals
        rw [hb] at C2
        clear hb
        go_enter Tryz.func211, Tryz.ntmps211
        go_wp2_with fail
        refine (C1.out _ b0.1).mono ?_
        rintro e1 w1 ⟨rfl, r1⟩
        have R1 := hide (ri_trans b0 r1)
        clear r1 b0
        go_wp2_with fail
        refine (C2.out _ R1.out.1).mono ?_
        rintro e1 w2 ⟨rfl, r2⟩
        have R2 := hide (ri_trans R1.out r2)
        clear r2 R1
        go_wp2_with fail
        refine (must_yes _ _).mono ?_
        rintro e1 w3 ⟨rfl, rfl⟩
        go_wp2_with fail
        refine (C3.out _ R2.out.1).mono ?_
        rintro e1 w4 ⟨rfl, r4⟩
        exact ⟨rfl, rfl, grownBy_trans R2.out.2 r4⟩
end Go.Proofs.YthpolfmbcipjaaaGreatDoor
