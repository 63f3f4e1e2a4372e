/- The program's reader of a batch: a change, and the changes. -/
import Derived.Test.YtmmchemgegmhhaaGreatDoorBatchI3
import Derived.Deep.CutRange
import Derived.Deep.LoopGhost
namespace Go.Proofs.YtmmchemgegmhhaaGreatDoor
open Go.RowKit

theorem chI_some {t : ByteArray} {i e : Nat} {A : ChangeD} (h : chI t i = some (A, e)) : ∃ p, shI t i = some (A.key, p) ∧ p < t.size ∧ Wd.bt t p < 2 ∧ shI t (p + 1) = some (A.value, e) ∧ A.gone = (Wd.bt t p == 1) := by
  unfold chI at h
  cases h1 : shI t i with
  | none => rw [h1] at h; cases h
  | some x =>
    obtain ⟨s, p⟩ := x
    rw [h1] at h
    simp only at h
    by_cases hc : p < t.size ∧ Wd.bt t p < 2
    · rw [if_pos hc] at h
      cases h2 : shI t (p + 1) with
      | none => rw [h2] at h; cases h
      | some y =>
        obtain ⟨v, e'⟩ := y
        rw [h2] at h
        simp only [Option.some.injEq, Prod.mk.injEq] at h
        obtain ⟨rfl, rfl⟩ := h
        exact ⟨p, rfl, hc.1, hc.2, h2, rfl⟩
    · rw [if_neg hc] at h; cases h
theorem chI_none {t : ByteArray} {i : Nat} (h : chI t i = none) : shI t i = none ∨ ∃ s p, shI t i = some (s, p) ∧ (¬ p < t.size ∨ (p < t.size ∧ ¬ Wd.bt t p < 2) ∨ (p < t.size ∧ Wd.bt t p < 2 ∧ shI t (p + 1) = none)) := by
  unfold chI at h
  cases h1 : shI t i with
  | none => exact .inl rfl
  | some x =>
    obtain ⟨s, p⟩ := x
    rw [h1] at h
    simp only at h
    refine .inr ⟨s, p, rfl, ?_⟩
    by_cases hp : p < t.size
    · by_cases hb : Wd.bt t p < 2
      · rw [if_pos ⟨hp, hb⟩] at h
        cases h2 : shI t (p + 1) with
        | none => exact .inr (.inr ⟨hp, hb, rfl⟩)
        | some y =>
          rw [h2] at h
          cases h
      · exact .inr (.inl ⟨hp, hb⟩)
    · exact .inl hp

set_option maxRecDepth 100000 in
set_option maxHeartbeats 1600000 in
theorem change_yes (t : ByteArray) (g i e : Nat) (A : ChangeD) (w : World) (ht : t.size ≤ 9000) (hi : i ≤ t.size) (h : CurI w g t i) (hA : chI t i = some (A, e)) :
    Calls Tryz.prog 237 #[.pointer (some ⟨g, 0, none⟩)] w fun r w' => r = .returned (.agg #[.string A.key, .string A.value, .bool A.gone]) ∧ RI w w' g t e := by
  obtain ⟨p, h1, h2, h3, h4, h5⟩ := chI_some hA
  obtain ⟨s, v, gn⟩ := A
  simp only at h1 h4 h5 ⊢
  have hp := (shI_text h1).2.2.1
  have C1 := hide (fun W (hW : CurI W g t i) => short_yes t g i s p W ht hi hW h1)
  have C3 := hide (fun W (hW : CurI W g t (p + 1)) => short_yes t g (p + 1) v e W ht (by omega) hW h4)
  have hg := curI_lt h
  have b0 : RI w (w.alloc (.cells #[.string ⟨#[]⟩, .string ⟨#[]⟩, .bool false] 144)) g t i := ri_below (ri_refl h) ((Below.refl _ w).alloc (Nat.le_refl _) _)
  have hbx0 := heap_alloc_new w (.cells #[.string ⟨#[]⟩, .string ⟨#[]⟩, .bool false] 144)
  have hb01 : Wd.bt t p = 0 ∨ Wd.bt t p = 1 := by omega
  have C2 := hide (fun W (hW : CurI W g t p) => oneByte_yes t g p W ht h2 hW)
  clear h hA h1 h4 h3
  rcases hb01 with hb | hb
  all_goals
    rw [hb] at C2 h5
    have HG := hide h5
    clear h5 hb
    go_enter Tryz.func237, Tryz.ntmps237
    go_wp2_with fail
    generalize w.alloc (.cells #[.string ⟨#[]⟩, .string ⟨#[]⟩, .bool false] 144) = wb at b0 hbx0
    refine (C1.out _ b0.1).mono ?_
    rintro e1 w1 ⟨rfl, r1⟩
    have R1 := hide (ri_trans b0 r1)
    have X1 := hide ((r1.2.block w.heap.size (heap_lt hbx0) (by simp; omega)).trans hbx0)
    clear r1 b0 hbx0
    go_wp2_with fail
    refine (C2.out _ R1.out.1).mono ?_
    rintro e1 w2 ⟨rfl, r2⟩
    have R2 := hide (ri_trans R1.out r2)
    have X2 := hide ((r2.2.block w.heap.size (heap_lt X1.out) (by simp; omega)).trans X1.out)
    clear r2 R1 X1
    go_wp2_with fail
    refine (must_yes _ _).mono ?_
    rintro e1 w3 ⟨rfl, rfl⟩
    go_wp2_with fail
    refine (C3.out _ R2.out.1).mono ?_
    rintro e1 w4 ⟨rfl, r4⟩
    have R4 := hide (ri_trans R2.out r4)
    have x4 := (r4.2.block w.heap.size (heap_lt X2.out) (by simp; omega)).trans X2.out
    clear r4 R2 X2
    have hd0 : w4.cell? ⟨w.heap.size, 0, none⟩ = some (.string ⟨#[]⟩) := (cell_of_row w4 _ 0 _ _ (0, 0) x4).trans rfl
    have hd1 : w4.cell? ⟨w.heap.size, 1, none⟩ = some (.string ⟨#[]⟩) := (cell_of_row w4 _ 1 _ _ (0, 0) x4).trans rfl
    have hd2 : w4.cell? ⟨w.heap.size, 2, none⟩ = some (.bool false) := (cell_of_row w4 _ 2 _ _ (0, 0) x4).trans rfl
    have hf0 := frozen_of_row w4 w.heap.size 0 _ _ x4
    have hf1 := frozen_of_row w4 w.heap.size 1 _ _ x4
    have hf2 := frozen_of_row w4 w.heap.size 2 _ _ x4
    clear x4
    go_wp2_with fail
    rw [HG.out]
    refine bodyPost_ret (v := .agg #[.string s, .string v, .bool _]) (by simp [results, Tryz.results237, go_sem, hd0, hd1, hd2]) rfl ⟨rfl, ri_far (ri_far (ri_far R4.out hg (Nat.le_refl _) _ _) hg (Nat.le_refl _) _ _) hg (Nat.le_refl _) _ _⟩

set_option maxRecDepth 100000 in
set_option maxHeartbeats 1600000 in
theorem change_no (t : ByteArray) (g i : Nat) (w : World) (ht : t.size ≤ 9000) (hi : i ≤ t.size) (h : CurI w g t i) (hA : chI t i = none) :
    Calls Tryz.prog 237 #[.pointer (some ⟨g, 0, none⟩)] w fun r w' => r = .panicked noB ∧ w.grownBy w' (some g) := by
  have b0 : RI w (w.alloc (.cells #[.string ⟨#[]⟩, .string ⟨#[]⟩, .bool false] 144)) g t i := ri_below (ri_refl h) ((Below.refl _ w).alloc (Nat.le_refl _) _)
  clear h
  rcases chI_none hA with h1 | ⟨s, p, h1, h2⟩
  · have C1 := hide (fun W (hW : CurI W g t i) => short_no t g i W ht hi hW h1)
    clear hA h1
    go_enter Tryz.func237, Tryz.ntmps237
    go_wp2_with fail
    refine (C1.out _ b0.1).mono ?_
    rintro e1 w1 ⟨rfl, r1⟩
    exact ⟨rfl, rfl, grownBy_trans b0.2 r1⟩
  · have hp := (shI_text h1).2.2.1
    have C1 := hide (fun W (hW : CurI W g t i) => short_yes t g i s p W ht hi hW h1)
    clear hA h1
    rcases h2 with h2 | ⟨h2, h3⟩ | ⟨h2, h3, h4⟩
    · have C2 := hide (fun W (hW : CurI W g t p) => oneByte_no t g p W h2 hW)
      clear h2
      go_enter Tryz.func237, Tryz.ntmps237
      go_wp2_with fail
      refine (C1.out _ b0.1).mono ?_
      rintro e1 w1 ⟨rfl, r1⟩
      have R1 := hide (ri_trans b0 r1)
      clear r1 b0
      go_wp2_with fail
      refine (C2.out _ R1.out.1).mono ?_
      rintro e1 w2 ⟨rfl, r2⟩
      exact ⟨rfl, rfl, grownBy_trans R1.out.2 r2⟩
    · have C2 := hide (fun W (hW : CurI W g t p) => oneByte_yes t g p W ht h2 hW)
      generalize Wd.bt t p = b at C2 h3
      have hb0 : ((b : Int) == 0) = false := by simp; omega
      have hb1 : ((b : Int) == 1) = false := by simp; omega
      clear h2 h3
      go_enter Tryz.func237, Tryz.ntmps237
      go_wp2_with fail
      refine (C1.out _ b0.1).mono ?_
      rintro e1 w1 ⟨rfl, r1⟩
      have R1 := hide (ri_trans b0 r1)
      clear r1 b0
      go_wp2_with fail
      refine (C2.out _ R1.out.1).mono ?_
      rintro e1 w2 ⟨rfl, r2⟩
      have R2 := hide (ri_trans R1.out r2)
      clear r2 R1
      go_wp2_with fail
      refine (must_no _ _).mono ?_
      rintro e1 w3 ⟨rfl, rfl⟩
      exact ⟨rfl, rfl, R2.out.2⟩
    · have hb01 : Wd.bt t p = 0 ∨ Wd.bt t p = 1 := by omega
      have C2 := hide (fun W (hW : CurI W g t p) => oneByte_yes t g p W ht h2 hW)
      have C3 := hide (fun W (hW : CurI W g t (p + 1)) => short_no t g (p + 1) W ht (by omega) hW h4)
      clear h3 h4
      rcases hb01 with hb | hb
      all_goals
        rw [hb] at C2
        clear hb
        go_enter Tryz.func237, Tryz.ntmps237
        go_wp2_with fail
        refine (C1.out _ b0.1).mono ?_
        rintro e1 w1 ⟨rfl, r1⟩
        have R1 := hide (ri_trans b0 r1)
        clear r1 b0
        go_wp2_with fail
        refine (C2.out _ R1.out.1).mono ?_
        rintro e1 w2 ⟨rfl, r2⟩
        have R2 := hide (ri_trans R1.out r2)
        clear r2 R1
        go_wp2_with fail
        refine (must_yes _ _).mono ?_
        rintro e1 w3 ⟨rfl, rfl⟩
        go_wp2_with fail
        refine (C3.out _ R2.out.1).mono ?_
        rintro e1 w4 ⟨rfl, r4⟩
        exact ⟨rfl, rfl, grownBy_trans R2.out.2 r4⟩
end Go.Proofs.YtmmchemgegmhhaaGreatDoor
