import Derived.Deep.CutRange
import Derived.Deep.LoopGhost
import Derived.Test.YtlcfblodflgleaaGreatDoorBe22
set_option maxRecDepth 100000
set_option maxHeartbeats 3200000
namespace Go.Proofs.YtlcfblodflgleaaGreatDoor
open Go.RowKit
theorem chI_some {t : ByteArray} {i e : Nat} {A : ChangeD} (h : chI t i = some (A, e)) : ∃ p, shI t i = some (A.key, p) ∧ p < t.size ∧ Wd.bt t p < 2 ∧ shI t (p + 1) = some (A.value, e) ∧ A.gone = (Wd.bt t p == 1) := by
  unfold chI at h
  cases h1 : shI t i with
  | none => rw [h1] at h; cases h
  | some x =>
    obtain ⟨s, p⟩ := x
    rw [h1] at h
    simp only at h
    by_cases hc : p < t.size ∧ Wd.bt t p < 2
    · rw [if_pos hc] at h
      cases h2 : shI t (p + 1) with
      | none => rw [h2] at h; cases h
      | some y =>
        obtain ⟨v, e'⟩ := y
        rw [h2] at h
        simp only [Option.some.injEq, Prod.mk.injEq] at h
        obtain ⟨rfl, rfl⟩ := h
        exact ⟨p, rfl, hc.1, hc.2, h2, rfl⟩
    · rw [if_neg hc] at h; cases h
theorem chI_none {t : ByteArray} {i : Nat} (h : chI t i = none) : shI t i = none ∨ ∃ s p, shI t i = some (s, p) ∧ (¬ p < t.size ∨ (p < t.size ∧ ¬ Wd.bt t p < 2) ∨ (p < t.size ∧ Wd.bt t p < 2 ∧ shI t (p + 1) = none)) := by
  unfold chI at h
  cases h1 : shI t i with
  | none => exact .inl rfl
  | some x =>
    obtain ⟨s, p⟩ := x
    rw [h1] at h
    simp only at h
    refine .inr ⟨s, p, rfl, ?_⟩
    by_cases hp : p < t.size
    · by_cases hb : Wd.bt t p < 2
      · rw [if_pos ⟨hp, hb⟩] at h
        cases h2 : shI t (p + 1) with
        | none => exact .inr (.inr ⟨hp, hb, rfl⟩)
        | some y =>
          rw [h2] at h
          cases h
      · exact .inr (.inl ⟨hp, hb⟩)
    · exact .inl hp
theorem change_yes (t : ByteArray) (g i e : Nat) (A : ChangeD) (w : World) (ht : t.size ≤ 9000) (hi : i ≤ t.size) (h : CurI w g t i) (hA : chI t i = some (A, e)) :
    Calls Tryz.prog 233 #[.pointer (some ⟨g, 0, none⟩)] w fun r w' => r = .returned (.agg #[.string A.key, .string A.value, .bool A.gone]) ∧ RI w w' g t e := by
  obtain ⟨p, h1, h2, h3, h4, h5⟩ := chI_some hA
  obtain ⟨s, v, gn⟩ := A
  simp only at h1 h4 h5 ⊢
  have hp := (shI_text h1).2.2.1
  have C1 := hide (fun W (hW : CurI W g t i) => short_yes t g i s p W ht hi hW h1)
  have C3 := hide (fun W (hW : CurI W g t (p + 1)) => short_yes t g (p + 1) v e W ht (by omega) hW h4)
  have hg := curI_lt h
  have b0 : RI w (w.alloc (.cells #[.string ⟨#[]⟩, .string ⟨#[]⟩, .bool false] 160)) g t i := ri_below (ri_refl h) ((Below.refl _ w).alloc (Nat.le_refl _) _)
  have hbx0 := heap_alloc_new w (.cells #[.string ⟨#[]⟩, .string ⟨#[]⟩, .bool false] 160)
  have hb01 : Wd.bt t p = 0 ∨ Wd.bt t p = 1 := by omega
  have C2 := hide (fun W (hW : CurI W g t p) => oneByte_yes t g p W ht h2 hW)
  clear h hA h1 h4 h3
  rcases hb01 with hb | hb
  all_goals
    rw [hb] at C2 h5
    have HG := hide h5
    clear h5 hb
    go_enter Tryz.func233, Tryz.ntmps233
    go_wp2_with fail
    generalize w.alloc (.cells #[.string ⟨#[]⟩, .string ⟨#[]⟩, .bool false] 160) = wb at b0 hbx0
    refine (C1.out _ b0.1).mono ?_
    rintro e1 w1 ⟨rfl, r1⟩
    have R1 := hide (ri_trans b0 r1)
    have X1 := hide ((r1.2.block w.heap.size (heap_lt hbx0) (by simp; omega)).trans hbx0)
    clear r1 b0 hbx0
    go_wp2_with fail
    refine (C2.out _ R1.out.1).mono ?_
    rintro e1 w2 ⟨rfl, r2⟩
    have R2 := hide (ri_trans R1.out r2)
    have X2 := hide ((r2.2.block w.heap.size (heap_lt X1.out) (by simp; omega)).trans X1.out)
    clear r2 R1 X1
    go_wp2_with fail
    refine (must_yes _ _).mono ?_
    rintro e1 w3 ⟨rfl, rfl⟩
    go_wp2_with fail
    refine (C3.out _ R2.out.1).mono ?_
    rintro e1 w4 ⟨rfl, r4⟩
    have R4 := hide (ri_trans R2.out r4)
    have x4 := (r4.2.block w.heap.size (heap_lt X2.out) (by simp; omega)).trans X2.out
    clear r4 R2 X2
    have hd0 : w4.cell? ⟨w.heap.size, 0, none⟩ = some (.string ⟨#[]⟩) := (cell_of_row w4 _ 0 _ _ (0, 0) x4).trans rfl
    have hd1 : w4.cell? ⟨w.heap.size, 1, none⟩ = some (.string ⟨#[]⟩) := (cell_of_row w4 _ 1 _ _ (0, 0) x4).trans rfl
    have hd2 : w4.cell? ⟨w.heap.size, 2, none⟩ = some (.bool false) := (cell_of_row w4 _ 2 _ _ (0, 0) x4).trans rfl
    have hf0 := frozen_of_row w4 w.heap.size 0 _ _ x4
    have hf1 := frozen_of_row w4 w.heap.size 1 _ _ x4
    have hf2 := frozen_of_row w4 w.heap.size 2 _ _ x4
    clear x4
    go_wp2_with fail
    rw [HG.out]
    refine bodyPost_ret (v := .agg #[.string s, .string v, .bool _]) (by simp [results, Tryz.results233, go_sem, hd0, hd1, hd2]) rfl ⟨rfl, ri_far (ri_far (ri_far R4.out hg (Nat.le_refl _) _ _) hg (Nat.le_refl _) _ _) hg (Nat.le_refl _) _ _⟩
theorem change_no (t : ByteArray) (g i : Nat) (w : World) (ht : t.size ≤ 9000) (hi : i ≤ t.size) (h : CurI w g t i) (hA : chI t i = none) :
    Calls Tryz.prog 233 #[.pointer (some ⟨g, 0, none⟩)] w fun r w' => r = .panicked noB ∧ w.grownBy w' (some g) := by
  have b0 : RI w (w.alloc (.cells #[.string ⟨#[]⟩, .string ⟨#[]⟩, .bool false] 160)) g t i := ri_below (ri_refl h) ((Below.refl _ w).alloc (Nat.le_refl _) _)
  clear h
  rcases chI_none hA with h1 | ⟨s, p, h1, h2⟩
  · have C1 := hide (fun W (hW : CurI W g t i) => short_no t g i W ht hi hW h1)
    clear hA h1
    go_enter Tryz.func233, Tryz.ntmps233
    go_wp2_with fail
    refine (C1.out _ b0.1).mono ?_
    rintro e1 w1 ⟨rfl, r1⟩
    exact ⟨rfl, rfl, grownBy_trans b0.2 r1⟩
  · have hp := (shI_text h1).2.2.1
    have C1 := hide (fun W (hW : CurI W g t i) => short_yes t g i s p W ht hi hW h1)
    clear hA h1
    rcases h2 with h2 | ⟨h2, h3⟩ | ⟨h2, h3, h4⟩
    · have C2 := hide (fun W (hW : CurI W g t p) => oneByte_no t g p W h2 hW)
      clear h2
      go_enter Tryz.func233, Tryz.ntmps233
      go_wp2_with fail
      refine (C1.out _ b0.1).mono ?_
      rintro e1 w1 ⟨rfl, r1⟩
      have R1 := hide (ri_trans b0 r1)
      clear r1 b0
      go_wp2_with fail
      refine (C2.out _ R1.out.1).mono ?_
      rintro e1 w2 ⟨rfl, r2⟩
      exact ⟨rfl, rfl, grownBy_trans R1.out.2 r2⟩
    · have C2 := hide (fun W (hW : CurI W g t p) => oneByte_yes t g p W ht h2 hW)
      generalize Wd.bt t p = b at C2 h3
      have hb0 : ((b : Int) == 0) = false := by simp; omega
      have hb1 : ((b : Int) == 1) = false := by simp; omega
      clear h2 h3
      go_enter Tryz.func233, Tryz.ntmps233
      go_wp2_with fail
      refine (C1.out _ b0.1).mono ?_
      rintro e1 w1 ⟨rfl, r1⟩
      have R1 := hide (ri_trans b0 r1)
      clear r1 b0
      go_wp2_with fail
      refine (C2.out _ R1.out.1).mono ?_
      rintro e1 w2 ⟨rfl, r2⟩
      have R2 := hide (ri_trans R1.out r2)
      clear r2 R1
      go_wp2_with fail
      refine (must_no _ _).mono ?_
      rintro e1 w3 ⟨rfl, rfl⟩
      exact ⟨rfl, rfl, R2.out.2⟩
    · have hb01 : Wd.bt t p = 0 ∨ Wd.bt t p = 1 := by omega
      have C2 := hide (fun W (hW : CurI W g t p) => oneByte_yes t g p W ht h2 hW)
      have C3 := hide (fun W (hW : CurI W g t (p + 1)) => short_no t g (p + 1) W ht (by omega) hW h4)
      clear h3 h4
      rcases hb01 with hb | hb
      all_goals
        rw [hb] at C2
        clear hb
        go_enter Tryz.func233, Tryz.ntmps233
        go_wp2_with fail
        refine (C1.out _ b0.1).mono ?_
        rintro e1 w1 ⟨rfl, r1⟩
        have R1 := hide (ri_trans b0 r1)
        clear r1 b0
        go_wp2_with fail
        refine (C2.out _ R1.out.1).mono ?_
        rintro e1 w2 ⟨rfl, r2⟩
        have R2 := hide (ri_trans R1.out r2)
        clear r2 R1
        go_wp2_with fail
        refine (must_yes _ _).mono ?_
        rintro e1 w3 ⟨rfl, rfl⟩
        go_wp2_with fail
        refine (C3.out _ R2.out.1).mono ?_
        rintro e1 w4 ⟨rfl, r4⟩
        exact ⟨rfl, rfl, grownBy_trans R2.out.2 r4⟩
def StI (w wr : World) (g p : Nat) (t : ByteArray) (i : Nat) (q : Int) (v : Value) (acc : List ChangeD) : Prop :=
  wr.heap[w.heap.size]? = some (.cells #[.int .i64 0, .slice none 0 0] 101 (0, 0)) ∧ RI w wr g t i ∧ w.heap.size < p ∧ wr.heap[p]? = some (.cells #[.int .i64 q, v] 101 (0, 0)) ∧
  wr.ownsRow (p + 1) 160 3 v acc.length (cellsChange acc)
def AnsI (t : ByteArray) (g : Nat) (w : World) (e : Ending) (w' : World) : Prop :=
  (btI t = none ∧ e = .panicked noB ∧ w.grownBy w' (some g)) ∨
  (∃ (q : Nat) (cs : List ChangeD) (p : Nat) (ao : Option Addr) (cap : Nat), btI t = some (q, cs, p) ∧ e = .returned (.agg #[.int .i64 (q : Int), .slice ao cs.length cap]) ∧ RI w w' g t p ∧ RowChange w' w.heap.size (.slice ao cs.length cap) cs ∧ cs.length ≤ t.size ∧ p ≤ t.size ∧ ∀ A ∈ cs, A.key.size ≤ 20000 ∧ A.value.size ≤ 20000)
theorem btI_head {t : ByteArray} (h : ¬ (0 < t.size ∧ Wd.bt t 0 = 66)) : btI t = none := by unfold btI; rw [if_neg h]
theorem btI_seq {t : ByteArray} (h : 0 < t.size ∧ Wd.bt t 0 = 66) (h1 : Wd.rv t 1 = none) : btI t = none := by unfold btI; rw [if_pos h, h1]
theorem btI_count {t : ByteArray} {q p : Nat} (h : 0 < t.size ∧ Wd.bt t 0 = 66) (h1 : Wd.rv t 1 = some (q, p)) (h2 : Wd.rv t p = none) : btI t = none := by unfold btI; rw [if_pos h, h1]; simp only; rw [h2]
def btOf (q : Nat) : Option (List ChangeD × Nat) → Option (Nat × List ChangeD × Nat)
  | none => none
  | some (cs, e) => some (q, cs, e)
theorem btI_rest {t : ByteArray} {q p n p2 : Nat} (h : 0 < t.size ∧ Wd.bt t 0 = 66) (h1 : Wd.rv t 1 = some (q, p)) (h2 : Wd.rv t p = some (n, p2)) : btI t = btOf q (chsI t n p2 []) := by
  unfold btI
  rw [if_pos h, h1]
  simp only
  rw [h2]
  simp only
  cases chsI t n p2 [] <;> rfl
theorem ri_over {w W W' : World} {g B : Nat} {t : ByteArray} {i : Nat} (h : RI w W g t i) (hg : g < w.heap.size) (hb : Below B W W') (hB : w.heap.size ≤ B) : RI w W' g t i :=
  ⟨(hb.block g (by omega)).trans h.1, ⟨hb.os.trans h.2.os, hb.tape.trans h.2.tape, hb.output.trans h.2.output, Nat.le_trans h.2.size hb.size, fun k hk hne => (hb.block k (by omega)).trans (h.2.block k hk hne)⟩⟩
theorem batch_any (t : ByteArray) (g : Nat) (w : World) (ht : t.size ≤ 9000) (h : CurI w g t 0) :
    Calls Tryz.prog 224 #[.pointer (some ⟨g, 0, none⟩)] w (AnsI t g w) := by
  have hg := curI_lt h
  have b0 : RI w (w.alloc (.cells #[.int .i64 0, .slice none 0 0] 101)) g t 0 := ri_below (ri_refl h) ((Below.refl _ w).alloc (Nat.le_refl _) _)
  have hbx0 := heap_alloc_new w (.cells #[.int .i64 0, .slice none 0 0] 101)
  clear h
  by_cases hs0 : 0 < t.size
  case neg =>
    have C1 := hide (fun W (hW : CurI W g t 0) => oneByte_no t g 0 W hs0 hW)
    have HE := hide (btI_head (t := t) (fun h => hs0 h.1))
    clear hs0
    go_enter Tryz.func224, Tryz.ntmps224
    go_wp2_with fail
    refine (C1.out _ b0.1).mono ?_
    rintro e1 w1 ⟨rfl, r1⟩
    exact ⟨rfl, .inl ⟨HE.out, rfl, grownBy_trans b0.2 r1⟩⟩
  have C1 := hide (fun W (hW : CurI W g t 0) => oneByte_yes t g 0 W ht hs0 hW)
  by_cases hb : Wd.bt t 0 = 66
  case neg =>
    have HE := hide (btI_head (t := t) (fun h => hb h.2))
    generalize Wd.bt t 0 = b at C1 hb
    have hb' : ((b : Int) == 66) = false := by simp; omega
    clear hs0 hb
    go_enter Tryz.func224, Tryz.ntmps224
    go_wp2_with fail
    refine (C1.out _ b0.1).mono ?_
    rintro e1 w1 ⟨rfl, r1⟩
    go_wp2_with fail
    refine (must_no _ _).mono ?_
    rintro e1 w3 ⟨rfl, rfl⟩
    exact ⟨rfl, .inl ⟨HE.out, rfl, grownBy_trans b0.2 r1.2⟩⟩
  have HH : Hid (0 < t.size ∧ Wd.bt t 0 = 66) := ⟨hs0, hb⟩
  rw [hb] at C1
  clear hb
  cases hr1 : Wd.rv t 1 with
  | none =>
    have C2 := hide (fun W (hW : CurI W g t (0 + 1)) => number_no t g 1 W ht (by omega) hW hr1)
    have HE := hide (btI_seq HH.out hr1)
    clear hr1
    go_enter Tryz.func224, Tryz.ntmps224
    go_wp2_with fail
    refine (C1.out _ b0.1).mono ?_
    rintro e1 w1 ⟨rfl, r1⟩
    go_wp2_with fail
    refine (must_yes _ _).mono ?_
    rintro e1 w3 ⟨rfl, rfl⟩
    go_wp2_with fail
    refine (C2.out _ r1.1).mono ?_
    rintro e1 w4 ⟨rfl, r4⟩
    exact ⟨rfl, .inl ⟨HE.out, rfl, grownBy_trans b0.2 (grownBy_trans r1.2 r4)⟩⟩
  | some x =>
    obtain ⟨q, p1⟩ := x
    have hq := Wd.rv_bounds t 1 q p1 hr1
    have C2 := hide (fun W (hW : CurI W g t (0 + 1)) => number_yes t g 1 q p1 W ht (by omega) hW hr1)
    have BN : Hid (∀ W : World, RI w W g t p1 → W.heap[w.heap.size]? = some (.cells #[.int .i64 0, .slice none 0 0] 101 (0, 0)) → StI w (W.alloc (.cells #[.int .i64 (q : Int), .slice none 0 0] 101)) g W.heap.size t p1 (q : Int) (.slice none 0 0) []) := fun W h1 h2 => by
      have bb : Below W.heap.size W (W.alloc (.cells #[.int .i64 (q : Int), .slice none 0 0] 101)) := (Below.refl _ W).alloc (Nat.le_refl _) _
      exact ⟨(bb.block _ (heap_lt h2)).trans h2, ri_below h1 bb, heap_lt h2, heap_alloc_new W _, World.ownsRow_nil _ _ _ _⟩
    cases hr2 : Wd.rv t p1 with
    | none =>
      have C3 := hide (fun W (hW : CurI W g t p1) => number_no t g p1 W ht hq.2.2 hW hr2)
      have HE := hide (btI_count HH.out hr1 hr2)
      clear hr1 hr2 BN
      go_enter Tryz.func224, Tryz.ntmps224
      go_wp2_with fail
      refine (C1.out _ b0.1).mono ?_
      rintro e1 w1 ⟨rfl, r1⟩
      go_wp2_with fail
      refine (must_yes _ _).mono ?_
      rintro e1 w3 ⟨rfl, rfl⟩
      go_wp2_with fail
      refine (C2.out _ r1.1).mono ?_
      rintro e1 w4 ⟨rfl, r4⟩
      have R4 := hide (ri_trans b0 (ri_trans r1 r4))
      clear r1 r4 b0
      have R5 := hide (ri_below R4.out ((Below.refl _ w4).alloc (Nat.le_refl _) (.cells #[.int .i64 (q : Int), .slice none 0 0] 101)))
      go_wp2_with fail
      refine (C3.out _ R5.out.1).mono ?_
      rintro e1 w6 ⟨rfl, r6⟩
      exact ⟨rfl, .inl ⟨HE.out, rfl, grownBy_trans R5.out.2 r6⟩⟩
    | some y =>
      obtain ⟨n, p2⟩ := y
      have hn := Wd.rv_bounds t p1 n p2 hr2
      have C3 := hide (fun W (hW : CurI W g t p1) => number_yes t g p1 n p2 W ht hq.2.2 hW hr2)
      obtain ⟨RL, HRL⟩ : ∃ RL, Hid (chsI t n p2 [] = RL) := ⟨_, rfl⟩
      have HE : Hid (btI t = btOf q RL) := by have h := btI_rest HH.out hr1 hr2; rw [HRL.out] at h; exact h
      have hp2 := hn.2.2
      have hnb := hn.1
      clear hr1 hr2 hn hq HH
      go_enter Tryz.func224, Tryz.ntmps224
      go_wp2_with fail
      generalize w.alloc (.cells #[.int .i64 0, .slice none 0 0] 101) = wb at b0 hbx0
      refine (C1.out _ b0.1).mono ?_
      rintro e1 w1 ⟨rfl, r1⟩
      have R1 := hide (ri_trans b0 r1)
      have X1 := hide ((r1.2.block w.heap.size (heap_lt hbx0) (by simp; omega)).trans hbx0)
      clear r1 b0 hbx0
      go_wp2_with fail
      refine (must_yes _ _).mono ?_
      rintro e1 w3 ⟨rfl, rfl⟩
      go_wp2_with fail
      refine (C2.out _ R1.out.1).mono ?_
      rintro e1 w4 ⟨rfl, r4⟩
      have R4 := hide (ri_trans R1.out r4)
      have X4 := hide ((r4.2.block w.heap.size (heap_lt X1.out) (by simp; omega)).trans X1.out)
      have S5 := hide (BN.out w4 R4.out X4.out)
      clear r4 R1 X1 BN
      go_wp2_with fail
      obtain ⟨p, hp⟩ : ∃ p, p = w4.heap.size := ⟨_, rfl⟩
      rw [← hp] at S5 ⊢
      generalize w4.alloc (.cells #[.int .i64 (q : Int), .slice none 0 0] 101) = w5 at S5
      clear hp R4 X4
      refine (C3.out _ S5.out.2.1.1).mono ?_
      rintro e1 w6 ⟨rfl, r6⟩
      have S6 : Hid (StI w w6 g p t p2 (q : Int) (.slice none 0 0) []) := by
        obtain ⟨k1, k2, k3, k4, k5⟩ := S5.out
        exact ⟨(r6.2.block _ (heap_lt k1) (by simp; omega)).trans k1, ri_trans k2 r6, k3, (r6.2.block _ (heap_lt k4) (by simp; omega)).trans k4, World.ownsRow_nil _ _ _ _⟩
      clear r6 S5
      go_wp2_with fail
      go_loopw [14] (fun ii wr => ∃ (k i : Nat) (v : Value) (acc : List ChangeD), ii = .int .i64 k ∧ k ≤ n ∧ i ≤ t.size ∧ Hid (acc.length ≤ i) ∧ Hid (∀ A ∈ acc, A.key.size ≤ 20000 ∧ A.value.size ≤ 20000) ∧ Hid (chsI t (n - k) i acc = RL) ∧ Hid (StI w wr g p t i (q : Int) v acc)) (fun ii _ => n - (intOf ii).toNat)
      case atStart => exact ⟨0, p2, _, [], rfl, Nat.zero_le _, hp2, Nat.zero_le _, fun A hA => absurd hA List.not_mem_nil, HRL, S6⟩
      case round =>
        clear S6 HRL
        obtain ⟨k, i, v, acc, rfl, hk, hi, HAL, HAS, HR, HS⟩ := hrel
        obtain ⟨k1, k2, k3, k4, k5⟩ := HS.out
        have hpw := heap_lt k4
        have hv1 : wr.cell? ⟨p, 1, none⟩ = some v := (cell_of_row wr _ 1 _ _ (0, 0) k4).trans rfl
        have hwp : w.heap.size < p := k3
        by_cases hlt : k < n
        · have hlt' : decide ((k : Int) < (n : Int)) = true := by simp; omega
          have hcd : CurI wr.drew g t i := k2.1
          cases hch : chI t i with
          | none =>
            have hRn : Hid (RL = none) := by
              show _ = _
              rw [← HR.out, show n - k = (n - k - 1) + 1 from by omega]
              unfold chsI
              rw [hch]
            have CH := hide (fun W (hW : CurI W g t i) => change_no t g i W ht hi hW hch)
            have K2 := hide k2
            clear k1 k2 k3 k4 k5
            go_wp2_with fail
            go_region_dies
            all_goals
              refine (CH.out _ hcd).mono ?_
              rintro e1 w7 ⟨rfl, r7⟩
              exact ⟨rfl, .inl ⟨by rw [HE.out, hRn.out]; rfl, rfl, grownBy_trans K2.out.2 (grownBy_trans (grownBy_below _ (Below.refl _ _).drew) r7)⟩⟩
          | some z =>
            obtain ⟨A, j⟩ := z
            obtain ⟨-, hij, hjt, ha1, ha2⟩ := chI_text hch
            have HRn : Hid (chsI t (n - (k + 1)) j (acc ++ [A]) = RL) := by
              show _ = _
              rw [← HR.out, show n - k = (n - (k + 1)) + 1 from by omega]
              conv => rhs; unfold chsI
              rw [hch]
            have CH := hide (fun W (hW : CurI W g t i) => change_yes t g i j A W ht hi hW hch)
            have hal : acc.length ≤ 9000 := by have := HAL.out; omega
            have HALn : Hid ((acc ++ [A]).length ≤ j) := by show _ ≤ _; rw [List.length_append]; have := HAL.out; simp only [List.length_cons, List.length_nil]; omega
            have HASn : Hid (∀ B ∈ acc ++ [A], B.key.size ≤ 20000 ∧ B.value.size ≤ 20000) := fun B hB => by
              rcases List.mem_append.1 hB with hB | hB
              · exact HAS.out B hB
              · rw [List.mem_singleton.1 hB]; exact ⟨ha1, ha2⟩
            have K1 := hide k1
            have K2 := hide k2
            have K4 := hide k4
            have K5 := hide k5
            clear k1 k2 k3 k4 k5 hch HR
            go_wp2_with fail
            go_region_law ((first | (refine step_app_change _ (p + 1) (by rfl) _ _ (by rfl) v acc A (by rfl) (HO4.out.alloc _) w7.heap.size (by simp [Act.eval]) (heap_alloc_new w7 _) (by omega) (by simp; omega) ?_; intro g3 cap3 w8 hown3 hb3 hg3 hgl3; have B8 : Hid (Below (p + 1) w7 w8) := ((Below.refl _ w7).alloc (by omega) _).trans hb3; have HO8 := hide hown3; have hn0 := (B8.out.block p (by omega)).trans X7.out; have hn1 : w8.cell? ⟨p, 1, none⟩ = some v := (cell_of_row w8 p 1 _ _ (0, 0) hn0).trans rfl; have hn2 : w8.frozen? ⟨p, 1, none⟩ = false := frozen_of_row w8 p 1 _ _ hn0; have HN0 := hide hn0; clear hn0 hown3 hb3) | (go_simp; go_at_call 233; refine (CH.out _ hcd).mono ?_; rintro e1 w7 ⟨rfl, r7⟩; have R7 := hide (ri_trans (ri_below K2.out (Below.refl _ _).drew) r7); have G7 : Hid (wr.grownBy w7 (some g)) := grownBy_trans (grownBy_below _ (Below.refl _ _).drew) r7.2; have X7 : Hid (w7.heap[p]? = some (.cells #[.int .i64 (q : Int), v] 101 (0, 0))) := (G7.out.block p hpw (by simp; omega)).trans K4.out; have hp7 : p < w7.heap.size := heap_lt X7.out; have hall0 : w7.cell? ⟨p, 1, none⟩ = some v := (cell_of_row w7 p 1 _ _ (0, 0) X7.out).trans rfl; have hall : (w7.alloc (.cells #[.string A.key, .string A.value, .bool A.gone] 160)).cell? ⟨p, 1, none⟩ = some v := (((Below.refl _ w7).alloc (Nat.le_refl _) _).cell (p := ⟨p, 1, none⟩) hp7).trans hall0; have HO4 : Hid (w7.ownsRow (p + 1) 160 3 v acc.length (cellsChange acc)) := K5.out.kept G7.out (by cases e : v.ownBlock with | none => exact .inl rfl | some b => exact .inr (by have := (K5.out.lt b e).1; simp; omega)); clear r7)))
            all_goals
              go_wp2_with fail
              go_roundw
              case rel =>
                have hX : w7.heap[w.heap.size]? = _ := (G7.out.block w.heap.size (heap_lt K1.out) (by simp; omega)).trans K1.out
                refine ⟨k + 1, j, .slice (some ⟨g3, 0, none⟩) (acc.length + 1) cap3, acc ++ [A], by go_num, by omega, hjt, HALn, HASn, HRn, ?_⟩
                refine ⟨(Below.heap_setCell _ _ _ _ (by intro e; simp only at e; omega)).trans ((B8.out.block w.heap.size (by omega)).trans hX), ri_far (ri_over R7.out hg B8.out (by omega)) hg (by omega) _ _, hwp, (heap_setCell_same _ p _ _ _ _ HN0.out).trans rfl, ?_⟩
                exact HO8.out.kept (grownBy_store (World.grownBy.refl _ _) 1 _) (.inr (by simp [Value.ownBlock]; omega))
              case measure => simp [intOf]; omega
        · have hlt' : decide ((k : Int) < (n : Int)) = false := by simp; omega
          have hRn : Hid (RL = some (acc, i)) := by
            show _ = _
            rw [← HR.out, show n - k = 0 from by omega]
            rfl
          obtain ⟨av, cv, rfl⟩ := slice_form k5
          have hv0 : wr.cell? ⟨p, 0, none⟩ = some (.int .i64 (q : Int)) := (cell_of_row wr _ 0 _ _ (0, 0) k4).trans rfl
          have hr0 : wr.cell? ⟨w.heap.size, 0, none⟩ = some (.int .i64 0) := (cell_of_row wr _ 0 _ _ (0, 0) k1).trans rfl
          have hr1 : wr.cell? ⟨w.heap.size, 1, none⟩ = some (.slice none 0 0) := (cell_of_row wr _ 1 _ _ (0, 0) k1).trans rfl
          have hf0 := frozen_of_row wr w.heap.size 0 _ _ k1
          have hf1 := frozen_of_row wr w.heap.size 1 _ _ k1
          have K2 := hide k2
          have K5 := hide k5
          clear k1 k2 k3 k4 k5
          go_wp2_with fail
          refine bodyPost_ret (v := .agg #[.int .i64 (q : Int), .slice av acc.length cv]) (by simp [results, Tryz.results224, go_sem, hr0, hr1]) rfl (.inr ⟨q, acc, i, av, cv, by rw [HE.out, hRn.out]; rfl, rfl, ri_far (ri_far K2.out hg (Nat.le_refl _) _ _) hg (Nat.le_refl _) _ _, ?_, by have := HAL.out; omega, hi, HAS.out⟩)
          have hrow := rowChange_own K5.out
          refine rowChange_le (rowChange_keep hrow (fun b hb => ?_)) (by omega)
          have := (rowChange_lt hrow b hb).1
          exact (Below.heap_setCell _ _ _ _ (by intro e; simp only at e; omega)).trans (Below.heap_setCell _ _ _ _ (by intro e; simp only at e; omega))
end Go.Proofs.YtlcfblodflgleaaGreatDoor
