import Derived.BigQuiet
import Derived.Deep.Upon
import Derived.Deep.RegionHeld3
import Derived.Deep.RegionLaw
import Derived.Deep.CutRange
import Derived.Test.YtpibnhodlojajaaFl0
import Derived.Test.YtpibnhodlojajaaFl2
import Derived.Test.YtpibnhodlojajaaFl4
import Derived.Test.YtpibnhodlojajaaFl1
import Derived.Test.YtpibnhodlojajaaFl3
set_option maxRecDepth 100000
set_option maxHeartbeats 3200000
namespace Go.Proofs.Ytpibnhodlojajaa
open Go.RowKit
def StepsR (kd : Int) (L : List ByteArray) (k : Nat) : Prop := ∀ j (h : j < L.length), j < k → L[j].size ≤ 60 ∧ (kd = 4 → 0 < j → Op.bytesLess (L[j - 1]'(by omega)).toList L[j].toList = true) ∧ (kd = 3 → 1 < j → j % 2 = 0 → Op.bytesLess (L[j - 2]'(by omega)).toList L[j].toList = true)
theorem stepsR_zero (kd : Int) (L : List ByteArray) : StepsR kd L 0 := fun j _ hj => absurd hj (by omega)
theorem stepsR_next {kd : Int} {L : List ByteArray} {k : Nat} (h : StepsR kd L k) (hk : k < L.length) (hs : L[k].size ≤ 60) (h4 : kd = 4 → 0 < k → Op.bytesLess (L[k - 1]'(by omega)).toList L[k].toList = true) (h3 : kd = 3 → 1 < k → k % 2 = 0 → Op.bytesLess (L[k - 2]'(by omega)).toList L[k].toList = true) : StepsR kd L (k + 1) := by
  intro j hj hjk
  by_cases e : j = k
  · subst e; exact ⟨hs, h4, h3⟩
  · exact h j hj (by omega)
theorem stepsR_small {kd : Int} {L : List ByteArray} (h : StepsR kd L L.length) : Small L := by
  intro s hs
  obtain ⟨j, hj, rfl⟩ := List.getElem_of_mem hs
  exact (h j hj hj).1
theorem stepsR_asc {L : List ByteArray} (h : StepsR 4 L L.length) : Asc L := fun j hj => (h (j + 1) hj hj).2.1 rfl (by omega)
theorem stepsR_ascF {L : List ByteArray} (h : StepsR 3 L L.length) : AscF L := fun j hj h2 => (h (j + 2) hj hj).2.2 rfl (by omega) (by omega)
theorem empty_of_size {s : ByteArray} (h : s.size = 0) : s.toList = [] := List.eq_nil_of_length_eq_zero (by rw [ByteArray.toList_eq, Array.length_toList]; exact h)
theorem full_of_size {s : ByteArray} (h : ¬ s.size = 0) : ¬ s.toList = [] := fun e => h (by have h0 := congrArg List.length e; rw [ByteArray.toList_eq, Array.length_toList] at h0; exact h0)
theorem specValOk_any (v : ValD) (ao : Option Addr) (cap : Nat) (w : World) (R : Bool) (hR : R = true ↔ ValR v) (hl : v.items.length ≤ 1048576) (ht : v.text.size ≤ maxLen) (hts : TextsAt w ao v.items) (hsz : ∀ s ∈ v.items, s.size ≤ maxLen) :
    Calls Try.prog 33 #[.agg #[.int .i64 v.kind, .int .i64 v.til, .string v.text, .slice ao v.items.length cap]] w fun e w' => e = .returned (.bool R) ∧ Below w.heap.size w w' := by
  obtain ⟨k, u, t, ts⟩ := v
  simp only at hl ht hts hsz ⊢
  have HT := hide hts
  have HS := hide hsz
  have HR := hide hR
  clear hts hsz hR
  unfold maxLen at ht
  have MK : Hid (Below w.heap.size w (w.alloc (.cells #[.int .i64 k, .int .i64 u, .string t, .slice ao ts.length cap] 38))) := (Below.refl _ w).alloc (Nat.le_refl _) _
  cases h1 : (decide ((1 : Int) ≤ k) && decide (k ≤ 4))
  · have hF : R = false := by
      cases R
      · rfl
      · have hk : ¬ (1 ≤ k ∧ k ≤ 4) := by simpa using h1
        rcases (HR.out.1 rfl).2.2 with h | h | h | h
        all_goals (have h0 := h.1; simp only at h0; omega)
    subst hF
    go_enter Try.func33, Try.ntmps33
    go_wp2_with fail
    refine (l01In_val _ _ _ _ _ h1).mono ?_
    rintro e w1 ⟨rfl, rfl⟩
    go_wp2
    go_ret
    exact ⟨rfl, MK.out⟩
  cases h2 : (decide ((0 : Int) ≤ u) && decide (u ≤ 100000))
  · have hF : R = false := by
      cases R
      · rfl
      · have hk : ¬ (0 ≤ u ∧ u ≤ 100000) := by simpa using h2
        exact absurd ⟨(HR.out.1 rfl).1, (HR.out.1 rfl).2.1⟩ hk
    subst hF
    go_enter Try.func33, Try.ntmps33
    go_wp2_with fail
    refine (l01In_val _ _ _ _ _ h1).mono ?_
    rintro e w1 ⟨rfl, rfl⟩
    go_wp2_with fail
    refine (l01In_val _ _ _ _ _ h2).mono ?_
    rintro e w1 ⟨rfl, rfl⟩
    go_wp2
    go_ret
    exact ⟨rfl, MK.out⟩
  have HR2 : Hid (R = true ↔ KindR ⟨k, u, t, ts⟩) := by
    have hu : 0 ≤ u ∧ u ≤ 100000 := by simpa using h2
    show _ ↔ _
    rw [HR.out]
    exact ⟨fun h => h.2.2, fun h => ⟨hu.1, hu.2, h⟩⟩
  clear HR
  by_cases hk1 : k = 1
  · subst hk1
    have HR3 : Hid (R = (decide ((t.size : Int) ≤ 60) && ((ts.length : Int) == 0))) := by
      show _ = _
      rw [Bool.eq_iff_iff, HR2.out]
      constructor
      · rintro (h | h | h | h)
        · have h3 := h.2.1
          have h4 := h.2.2
          simp only at h3 h4
          rw [Bool.and_eq_true]
          exact ⟨decide_eq_true (by omega), by rw [beq_iff_eq]; omega⟩
        · exact absurd h.1 (by simp)
        · exact absurd h.1 (by simp)
        · exact absurd h.1 (by simp)
      · intro h
        rw [Bool.and_eq_true, decide_eq_true_eq, beq_iff_eq] at h
        exact .inl ⟨rfl, by simp only; omega, by simp only; omega⟩
    cases h3 : decide ((t.size : Int) ≤ 60)
    all_goals
      go_enter Try.func33, Try.ntmps33
      go_wp2_with fail
      refine (l01In_val _ _ _ _ _ h1).mono ?_
      rintro e w1 ⟨rfl, rfl⟩
      go_wp2_with fail
      refine (l01In_val _ _ _ _ _ h2).mono ?_
      rintro e w1 ⟨rfl, rfl⟩
      go_wp2
      go_ret
      rw [HR3.out, h3]
      exact ⟨rfl, MK.out⟩
  have hk1' : (k == 1) = false := by simpa using hk1
  have eN : (decide ((1 : Int) ≤ (ts.length : Int)) && decide ((ts.length : Int) ≤ 24)) = (decide (1 ≤ ts.length) && decide (ts.length ≤ 24)) := by
    congr 1
    · rw [decide_eq_decide]; omega
    · rw [decide_eq_decide]; omega
  by_cases h3 : t.size = 0
  case neg =>
    have h3' : (t.toList == []) = false := by simpa using full_of_size h3
    have hF : R = false := by
      cases R
      · rfl
      · rcases HR2.out.1 rfl with h | h | h | h
        · exact absurd h.1 hk1
        · exact absurd h.2.1 h3
        · exact absurd h.2.1 h3
        · exact absurd h.2.1 h3
    subst hF
    go_enter Try.func33, Try.ntmps33
    go_wp2_with fail
    refine (l01In_val _ _ _ _ _ h1).mono ?_
    rintro e w1 ⟨rfl, rfl⟩
    go_wp2_with fail
    refine (l01In_val _ _ _ _ _ h2).mono ?_
    rintro e w1 ⟨rfl, rfl⟩
    go_wp2
    go_ret
    exact ⟨rfl, MK.out⟩
  have h3' : (t.toList == []) = true := by simpa using empty_of_size h3
  cases h4 : (decide (1 ≤ ts.length) && decide (ts.length ≤ 24))
  · have hn : ¬ (1 ≤ ts.length ∧ ts.length ≤ 24) := by simpa using h4
    have hF : R = false := by
      cases R
      · rfl
      · rcases HR2.out.1 rfl with h | h | h | h
        · exact absurd h.1 hk1
        · exact absurd ⟨h.2.2.1, h.2.2.2.1⟩ hn
        · exact absurd ⟨h.2.2.1.1, h.2.2.1.2.1⟩ hn
        · exact absurd ⟨h.2.2.1.1, h.2.2.1.2.1⟩ hn
    subst hF
    go_enter Try.func33, Try.ntmps33
    go_wp2_with fail
    refine (l01In_val _ _ _ _ _ h1).mono ?_
    rintro e w1 ⟨rfl, rfl⟩
    go_wp2_with fail
    refine (l01In_val _ _ _ _ _ h2).mono ?_
    rintro e w1 ⟨rfl, rfl⟩
    go_wp2_with fail
    refine (l01In_val _ _ _ _ _ (eN.trans h4)).mono ?_
    rintro e w1 ⟨rfl, rfl⟩
    go_wp2
    go_ret
    exact ⟨rfl, MK.out⟩
  have hn : 1 ≤ ts.length ∧ ts.length ≤ 24 := by simpa using h4
  have HNN := hide hn
  clear hn
  have hk : k = 2 ∨ k = 3 ∨ k = 4 := by
    have : 1 ≤ k ∧ k ≤ 4 := by simpa using h1
    omega
  clear hk1 hk1'
  rcases hk with hk | hk | hk
  · subst hk
    have HRT : Hid (R = true → StepsR 2 ts ts.length) := by
      intro h0 j hj _
      rcases HR2.out.1 h0 with h | h | h | h
      · exact absurd h.1 (by simp)
      · exact ⟨h.2.2.2.2 _ (List.getElem_mem hj), fun e => absurd e (by simp), fun e => absurd e (by simp)⟩
      · exact absurd h.1 (by simp)
      · exact absurd h.1 (by simp)
    go_enter Try.func33, Try.ntmps33
    go_wp2_with fail
    refine (l01In_val _ _ _ _ _ h1).mono ?_
    rintro e w1 ⟨rfl, rfl⟩
    go_wp2_with fail
    refine (l01In_val _ _ _ _ _ h2).mono ?_
    rintro e w1 ⟨rfl, rfl⟩
    go_wp2_with fail
    refine (l01In_val _ _ _ _ _ (eN.trans h4)).mono ?_
    rintro e w1 ⟨rfl, rfl⟩
    go_wp2
    go_loopw [3] (fun ii wr => ∃ (k : Nat), ii = .int .i64 k ∧ k ≤ ts.length ∧ Hid (StepsR 2 ts k) ∧ Hid (Below (w.heap.size + 1) (w.alloc (.cells #[.int .i64 2, .int .i64 u, .string t, .slice ao ts.length cap] 38)) wr)) (fun ii _ => ts.length - (intOf ii).toNat)
    case atStart => exact ⟨0, rfl, Nat.zero_le _, stepsR_zero _ _, Below.refl _ _⟩
    case round =>
      obtain ⟨k, rfl, hk, HK, HB⟩ := hrel
      have HB0 : Hid (Below w.heap.size w wr) := MK.out.trans (HB.out.mono (by omega))
      have hp : wr.heap[w.heap.size]? = some (.cells #[.int .i64 2, .int .i64 u, .string t, .slice ao ts.length cap] 38 (0, 0)) := (HB.out.block w.heap.size (by omega)).trans (heap_alloc_new w _)
      have hx0 : wr.cell? ⟨w.heap.size, 0, none⟩ = some (.int .i64 2) := (cell_of_row wr _ 0 _ _ (0, 0) hp).trans rfl
      have hx3 : wr.cell? ⟨w.heap.size, 3, none⟩ = some (.slice ao ts.length cap) := (cell_of_row wr _ 3 _ _ (0, 0) hp).trans rfl
      clear hp
      by_cases hlt : k < ts.length
      · have hlt' : decide ((k : Int) < (ts.length : Int)) = true := by simp; omega
        obtain ⟨b, off, rfl, hbw, hc0⟩ := textsAt_keep HT.out HB0.out k hlt
        have hsA := HS.out ts[k] (List.getElem_mem hlt)
        unfold maxLen at hsA
        obtain ⟨F, HF⟩ : ∃ F, Hid (ts[k] = F) := ⟨_, hide rfl⟩
        rw [HF.out] at hc0 hsA
        have hi0 : (0 : Int) ≤ (k : Int) := by omega
        have hi1 : (k : Int) < (ts.length : Int) := by omega
        by_cases h6 : 60 < F.size
        · have h6' : decide ((60 : Int) < (F.size : Int)) = true := by simp; omega
          have h6n : decide (60 < F.size) = true := by simp; omega
          have hF : Hid (R = false) := by
            show _ = _
            cases R
            · rfl
            · have h7 := (HRT.out rfl k hlt hlt).1; rw [HF.out] at h7; omega
          go_wp2
          go_ret
          rw [hF.out]
          exact ⟨rfl, HB0.out⟩
        have h6' : decide ((60 : Int) < (F.size : Int)) = false := by simp; omega
        have h6n : decide (60 < F.size) = false := by simp; omega
        have h6s : F.size ≤ 60 := by omega
        have HK1 : Hid (StepsR 2 ts (k + 1)) := stepsR_next HK.out hlt (by rw [HF.out]; exact h6s) (fun e => absurd e (by simp)) (fun e => absurd e (by simp))
        go_wp2
        go_quiet (fail)
        go_wp2
        go_roundw
        case rel => exact ⟨k + 1, by go_num, by omega, HK1, below_drewN HB.out _⟩
        case measure => simp [intOf]; omega
      · have hlt' : decide ((k : Int) < (ts.length : Int)) = false := by simp; omega
        have hke : k = ts.length := by omega
        subst hke
        have hF : Hid (R = true) := by
          have HTR : TextsR ts := ⟨HNN.out.1, HNN.out.2, stepsR_small HK.out⟩
          exact HR2.out.2 (.inr (.inl ⟨rfl, h3, HTR⟩))
        go_wp2
        go_ret
        rw [hF.out]
        exact ⟨rfl, HB0.out⟩
  · subst hk
    by_cases hev : ts.length % 2 = 1
    · have hev' : ((ts.length : Int) % 2 == 1) = true := by rw [beq_iff_eq]; omega
      have hF : R = false := by
        cases R
        · rfl
        · rcases HR2.out.1 rfl with h | h | h | h
          · exact absurd h.1 (by simp)
          · exact absurd h.1 (by simp)
          · have h0 := h.2.2.2.1; simp only at h0; omega
          · exact absurd h.1 (by simp)
      subst hF
      go_enter Try.func33, Try.ntmps33
      go_wp2_with fail
      refine (l01In_val _ _ _ _ _ h1).mono ?_
      rintro e w1 ⟨rfl, rfl⟩
      go_wp2_with fail
      refine (l01In_val _ _ _ _ _ h2).mono ?_
      rintro e w1 ⟨rfl, rfl⟩
      go_wp2_with fail
      refine (l01In_val _ _ _ _ _ (eN.trans h4)).mono ?_
      rintro e w1 ⟨rfl, rfl⟩
      go_wp2
      go_ret
      exact ⟨rfl, MK.out⟩
    have hev' : ((ts.length : Int) % 2 == 1) = false := by rw [beq_eq_false_iff_ne]; omega
    have HEV := hide hev
    clear hev
    have HRT : Hid (R = true → StepsR 3 ts ts.length) := by
      intro h0 j hj _
      rcases HR2.out.1 h0 with h | h | h | h
      · exact absurd h.1 (by simp)
      · exact absurd h.1 (by simp)
      · refine ⟨h.2.2.1.2.2 _ (List.getElem_mem hj), fun e => absurd e (by simp), fun _ h1 h2 => ?_⟩
        have h5 := h.2.2.2.2 (j - 2) (by simp only; omega) (by omega)
        simp only [show j - 2 + 2 = j from by omega] at h5
        exact h5
      · exact absurd h.1 (by simp)
    go_enter Try.func33, Try.ntmps33
    go_wp2_with fail
    refine (l01In_val _ _ _ _ _ h1).mono ?_
    rintro e w1 ⟨rfl, rfl⟩
    go_wp2_with fail
    refine (l01In_val _ _ _ _ _ h2).mono ?_
    rintro e w1 ⟨rfl, rfl⟩
    go_wp2_with fail
    refine (l01In_val _ _ _ _ _ (eN.trans h4)).mono ?_
    rintro e w1 ⟨rfl, rfl⟩
    go_wp2
    go_loopw [3] (fun ii wr => ∃ (k : Nat), ii = .int .i64 k ∧ k ≤ ts.length ∧ Hid (StepsR 3 ts k) ∧ Hid (Below (w.heap.size + 1) (w.alloc (.cells #[.int .i64 3, .int .i64 u, .string t, .slice ao ts.length cap] 38)) wr)) (fun ii _ => ts.length - (intOf ii).toNat)
    case atStart => exact ⟨0, rfl, Nat.zero_le _, stepsR_zero _ _, Below.refl _ _⟩
    case round =>
      obtain ⟨k, rfl, hk, HK, HB⟩ := hrel
      have HB0 : Hid (Below w.heap.size w wr) := MK.out.trans (HB.out.mono (by omega))
      have hp : wr.heap[w.heap.size]? = some (.cells #[.int .i64 3, .int .i64 u, .string t, .slice ao ts.length cap] 38 (0, 0)) := (HB.out.block w.heap.size (by omega)).trans (heap_alloc_new w _)
      have hx0 : wr.cell? ⟨w.heap.size, 0, none⟩ = some (.int .i64 3) := (cell_of_row wr _ 0 _ _ (0, 0) hp).trans rfl
      have hx3 : wr.cell? ⟨w.heap.size, 3, none⟩ = some (.slice ao ts.length cap) := (cell_of_row wr _ 3 _ _ (0, 0) hp).trans rfl
      clear hp
      by_cases hlt : k < ts.length
      · have hlt' : decide ((k : Int) < (ts.length : Int)) = true := by simp; omega
        obtain ⟨b, off, rfl, hbw, hc0⟩ := textsAt_keep HT.out HB0.out k hlt
        have hsA := HS.out ts[k] (List.getElem_mem hlt)
        unfold maxLen at hsA
        obtain ⟨F, HF⟩ : ∃ F, Hid (ts[k] = F) := ⟨_, hide rfl⟩
        rw [HF.out] at hc0 hsA
        have hi0 : (0 : Int) ≤ (k : Int) := by omega
        have hi1 : (k : Int) < (ts.length : Int) := by omega
        by_cases h6 : 60 < F.size
        · have h6' : decide ((60 : Int) < (F.size : Int)) = true := by simp; omega
          have h6n : decide (60 < F.size) = true := by simp; omega
          have hF : Hid (R = false) := by
            show _ = _
            cases R
            · rfl
            · have h7 := (HRT.out rfl k hlt hlt).1; rw [HF.out] at h7; omega
          go_wp2
          go_ret
          rw [hF.out]
          exact ⟨rfl, HB0.out⟩
        have h6' : decide ((60 : Int) < (F.size : Int)) = false := by simp; omega
        have h6n : decide (60 < F.size) = false := by simp; omega
        have h6s : F.size ≤ 60 := by omega
        by_cases hp : 1 < k
        case neg =>
          have hp1 : decide ((1 : Int) < (k : Int)) = false := by simp; omega
          have hp2 : decide (1 < k) = false := by simp; omega
          have HK1 : Hid (StepsR 3 ts (k + 1)) := stepsR_next HK.out hlt (by rw [HF.out]; exact h6s) (fun e => absurd e (by simp)) (fun _ h _ => absurd h hp)
          go_wp2
          go_quiet (fail)
          go_wp2
          go_roundw
          case rel => exact ⟨k + 1, by go_num, by omega, HK1, below_drewN HB.out _⟩
          case measure => simp [intOf]; omega
        have hp1 : decide ((1 : Int) < (k : Int)) = true := by simp; omega
        have hp2 : decide (1 < k) = true := by simp; omega
        by_cases hm : k % 2 = 0
        case neg =>
          have hm1 : ((k : Int) % 2 == 0) = false := by rw [beq_eq_false_iff_ne]; omega
          have HK1 : Hid (StepsR 3 ts (k + 1)) := stepsR_next HK.out hlt (by rw [HF.out]; exact h6s) (fun e => absurd e (by simp)) (fun _ _ h => absurd h hm)
          go_wp2
          go_quiet (fail)
          go_wp2
          go_roundw
          case rel => exact ⟨k + 1, by go_num, by omega, HK1, below_drewN HB.out _⟩
          case measure => simp [intOf]; omega
        have hm1 : ((k : Int) % 2 == 0) = true := by rw [beq_iff_eq]; omega
        obtain ⟨b', off', hbe, hbw', hd0⟩ := textsAt_keep HT.out HB0.out (k - 2) (by omega)
        obtain ⟨rfl, rfl⟩ : b = b' ∧ off = off' := by simpa using hbe
        obtain ⟨G, HG⟩ : ∃ G, Hid (ts[k - 2] = G) := ⟨_, hide rfl⟩
        rw [HG.out] at hd0
        clear hbe
        have hw : IntKind.i64.wrap ((k : Int) - 2) = ((k - 2 : Nat) : Int) := by rw [IntKind.wrap_i64]; omega
        have hj0 : (0 : Int) ≤ ((k - 2 : Nat) : Int) := by omega
        have hj1 : ((k - 2 : Nat) : Int) < (ts.length : Int) := by omega
        cases hless : Op.bytesLess G.toList F.toList
        · have hno := hless
          have hF : Hid (R = false) := by
            show _ = _
            cases R
            · rfl
            · have h7 := (HRT.out rfl k hlt hlt).2.2 rfl hp hm; rw [HF.out, HG.out, hless] at h7; cases h7
          go_wp2
          go_quiet (fail)
          go_wp2
          go_ret
          rw [hF.out]
          exact ⟨rfl, below_drewN HB0.out _⟩
        · have hyes := hless
          have HK1 : Hid (StepsR 3 ts (k + 1)) := stepsR_next HK.out hlt (by rw [HF.out]; exact h6s) (fun e => absurd e (by simp)) (fun _ _ _ => by rw [HF.out, HG.out]; exact hless)
          go_wp2
          go_quiet (fail)
          go_wp2
          go_roundw
          case rel => exact ⟨k + 1, by go_num, by omega, HK1, below_drewN HB.out _⟩
          case measure => simp [intOf]; omega
      · have hlt' : decide ((k : Int) < (ts.length : Int)) = false := by simp; omega
        have hke : k = ts.length := by omega
        subst hke
        have hF : Hid (R = true) := by
          have HTR : TextsR ts := ⟨HNN.out.1, HNN.out.2, stepsR_small HK.out⟩
          exact HR2.out.2 (.inr (.inr (.inl ⟨rfl, h3, HTR, by have := HEV.out; simp only; omega, stepsR_ascF HK.out⟩)))
        go_wp2
        go_ret
        rw [hF.out]
        exact ⟨rfl, HB0.out⟩
  · subst hk
    have HRT : Hid (R = true → StepsR 4 ts ts.length) := by
      intro h0 j hj _
      rcases HR2.out.1 h0 with h | h | h | h
      · exact absurd h.1 (by simp)
      · exact absurd h.1 (by simp)
      · exact absurd h.1 (by simp)
      · refine ⟨h.2.2.1.2.2 _ (List.getElem_mem hj), fun _ h1 => ?_, fun e => absurd e (by simp)⟩
        have h5 := h.2.2.2 (j - 1) (by simp only; omega)
        simp only [show j - 1 + 1 = j from by omega] at h5
        exact h5
    go_enter Try.func33, Try.ntmps33
    go_wp2_with fail
    refine (l01In_val _ _ _ _ _ h1).mono ?_
    rintro e w1 ⟨rfl, rfl⟩
    go_wp2_with fail
    refine (l01In_val _ _ _ _ _ h2).mono ?_
    rintro e w1 ⟨rfl, rfl⟩
    go_wp2_with fail
    refine (l01In_val _ _ _ _ _ (eN.trans h4)).mono ?_
    rintro e w1 ⟨rfl, rfl⟩
    go_wp2
    go_loopw [3] (fun ii wr => ∃ (k : Nat), ii = .int .i64 k ∧ k ≤ ts.length ∧ Hid (StepsR 4 ts k) ∧ Hid (Below (w.heap.size + 1) (w.alloc (.cells #[.int .i64 4, .int .i64 u, .string t, .slice ao ts.length cap] 38)) wr)) (fun ii _ => ts.length - (intOf ii).toNat)
    case atStart => exact ⟨0, rfl, Nat.zero_le _, stepsR_zero _ _, Below.refl _ _⟩
    case round =>
      obtain ⟨k, rfl, hk, HK, HB⟩ := hrel
      have HB0 : Hid (Below w.heap.size w wr) := MK.out.trans (HB.out.mono (by omega))
      have hp : wr.heap[w.heap.size]? = some (.cells #[.int .i64 4, .int .i64 u, .string t, .slice ao ts.length cap] 38 (0, 0)) := (HB.out.block w.heap.size (by omega)).trans (heap_alloc_new w _)
      have hx0 : wr.cell? ⟨w.heap.size, 0, none⟩ = some (.int .i64 4) := (cell_of_row wr _ 0 _ _ (0, 0) hp).trans rfl
      have hx3 : wr.cell? ⟨w.heap.size, 3, none⟩ = some (.slice ao ts.length cap) := (cell_of_row wr _ 3 _ _ (0, 0) hp).trans rfl
      clear hp
      by_cases hlt : k < ts.length
      · have hlt' : decide ((k : Int) < (ts.length : Int)) = true := by simp; omega
        obtain ⟨b, off, rfl, hbw, hc0⟩ := textsAt_keep HT.out HB0.out k hlt
        have hsA := HS.out ts[k] (List.getElem_mem hlt)
        unfold maxLen at hsA
        obtain ⟨F, HF⟩ : ∃ F, Hid (ts[k] = F) := ⟨_, hide rfl⟩
        rw [HF.out] at hc0 hsA
        have hi0 : (0 : Int) ≤ (k : Int) := by omega
        have hi1 : (k : Int) < (ts.length : Int) := by omega
        by_cases h6 : 60 < F.size
        · have h6' : decide ((60 : Int) < (F.size : Int)) = true := by simp; omega
          have h6n : decide (60 < F.size) = true := by simp; omega
          have hF : Hid (R = false) := by
            show _ = _
            cases R
            · rfl
            · have h7 := (HRT.out rfl k hlt hlt).1; rw [HF.out] at h7; omega
          go_wp2
          go_ret
          rw [hF.out]
          exact ⟨rfl, HB0.out⟩
        have h6' : decide ((60 : Int) < (F.size : Int)) = false := by simp; omega
        have h6n : decide (60 < F.size) = false := by simp; omega
        have h6s : F.size ≤ 60 := by omega
        by_cases hp : 0 < k
        case neg =>
          have hp1 : decide ((0 : Int) < (k : Int)) = false := by simp; omega
          have hp2 : decide (0 < k) = false := by simp; omega
          have HK1 : Hid (StepsR 4 ts (k + 1)) := stepsR_next HK.out hlt (by rw [HF.out]; exact h6s) (fun _ h => absurd h hp) (fun e => absurd e (by simp))
          go_wp2
          go_quiet (fail)
          go_wp2
          go_roundw
          case rel => exact ⟨k + 1, by go_num, by omega, HK1, below_drewN HB.out _⟩
          case measure => simp [intOf]; omega
        have hp1 : decide ((0 : Int) < (k : Int)) = true := by simp; omega
        have hp2 : decide (0 < k) = true := by simp; omega
        obtain ⟨b', off', hbe, hbw', hd0⟩ := textsAt_keep HT.out HB0.out (k - 1) (by omega)
        obtain ⟨rfl, rfl⟩ : b = b' ∧ off = off' := by simpa using hbe
        obtain ⟨G, HG⟩ : ∃ G, Hid (ts[k - 1] = G) := ⟨_, hide rfl⟩
        rw [HG.out] at hd0
        clear hbe
        have hw : IntKind.i64.wrap ((k : Int) - 1) = ((k - 1 : Nat) : Int) := by rw [IntKind.wrap_i64]; omega
        have hj0 : (0 : Int) ≤ ((k - 1 : Nat) : Int) := by omega
        have hj1 : ((k - 1 : Nat) : Int) < (ts.length : Int) := by omega
        cases hless : Op.bytesLess G.toList F.toList
        · have hno := hless
          have hF : Hid (R = false) := by
            show _ = _
            cases R
            · rfl
            · have h7 := (HRT.out rfl k hlt hlt).2.1 rfl hp; rw [HF.out, HG.out, hless] at h7; cases h7
          go_wp2
          go_quiet (fail)
          go_wp2
          go_ret
          rw [hF.out]
          exact ⟨rfl, below_drewN HB0.out _⟩
        · have hyes := hless
          have HK1 : Hid (StepsR 4 ts (k + 1)) := stepsR_next HK.out hlt (by rw [HF.out]; exact h6s) (fun _ _ => by rw [HF.out, HG.out]; exact hless) (fun e => absurd e (by simp))
          go_wp2
          go_quiet (fail)
          go_wp2
          go_roundw
          case rel => exact ⟨k + 1, by go_num, by omega, HK1, below_drewN HB.out _⟩
          case measure => simp [intOf]; omega
      · have hlt' : decide ((k : Int) < (ts.length : Int)) = false := by simp; omega
        have hke : k = ts.length := by omega
        subst hke
        have hF : Hid (R = true) := by
          have HTR : TextsR ts := ⟨HNN.out.1, HNN.out.2, stepsR_small HK.out⟩
          exact HR2.out.2 (.inr (.inr (.inr ⟨rfl, h3, HTR, stepsR_asc HK.out⟩)))
        go_wp2
        go_ret
        rw [hF.out]
        exact ⟨rfl, HB0.out⟩
theorem sameTexts_same (ts : List ByteArray) (ao ao2 : Option Addr) (cap cap2 : Nat) (w : World) (hl : ts.length ≤ maxLen) (h1 : TextsAt w ao ts) (h2 : TextsAt w ao2 ts) :
    Calls Try.prog 31 #[.slice ao ts.length cap, .slice ao2 ts.length cap2] w fun e w' => e = .returned (.bool true) ∧ Below w.heap.size w w' := by
  have H1 := hide h1
  have H2 := hide h2
  clear h1 h2
  unfold maxLen at hl
  have hne : (!((ts.length : Int) == (ts.length : Int))) = false := by simp
  go_enter Try.func31, Try.ntmps31
  go_wp2
  go_loopw [5] (fun ii wr => ∃ (k q : Nat), ii = .int .i64 k ∧ k ≤ ts.length ∧ wr = w.drewN q) (fun ii _ => ts.length - (intOf ii).toNat)
  case atStart => exact ⟨0, 0, rfl, Nat.zero_le _, rfl⟩
  case round =>
    obtain ⟨k, q, rfl, hk, rfl⟩ := hrel
    by_cases hlt : k < ts.length
    · have hlt' : decide ((k : Int) < (ts.length : Int)) = true := by simp; omega
      obtain ⟨b, off, rfl, hbw, hc0⟩ := H1.out k hlt
      obtain ⟨b', off', rfl, hbw', hd0⟩ := H2.out k hlt
      generalize ts[k] = F at hc0 hd0
      have hi0 : (0 : Int) ≤ (k : Int) := by omega
      have hi1 : (k : Int) < (ts.length : Int) := by omega
      have hee : (F.toList == F.toList) = true := beq_self_eq_true _
      go_wp2
      go_quiet (fail)
      go_wp2
      go_roundw
      case rel => exact ⟨k + 1, q + nq, by go_num, by omega, rfl⟩
      case measure => simp [intOf]; omega
    · have hlt' : decide ((k : Int) < (ts.length : Int)) = false := by simp; omega
      go_wp2
      go_ret
      exact ⟨rfl, drewN_below w q⟩
theorem sameVal_same (v : ValD) (ao ao2 : Option Addr) (cap cap2 : Nat) (w : World) (hl : v.items.length ≤ maxLen) (h1 : TextsAt w ao v.items) (h2 : TextsAt w ao2 v.items) :
    Calls Try.prog 16 #[.agg #[.int .i64 v.kind, .int .i64 v.til, .string v.text, .slice ao v.items.length cap], .agg #[.int .i64 v.kind, .int .i64 v.til, .string v.text, .slice ao2 v.items.length cap2]] w fun e w' => e = .returned (.bool true) ∧ Below w.heap.size w w' := by
  obtain ⟨k, u, t, ts⟩ := v
  simp only at hl h1 h2 ⊢
  have H1 := hide h1
  have H2 := hide h2
  clear h1 h2
  have e0 : (k == k) = true := beq_self_eq_true _
  have e1 : (u == u) = true := beq_self_eq_true _
  have e2 : (t.toList == t.toList) = true := beq_self_eq_true _
  have H0 : Hid (Below w.heap.size w ((w.alloc (.cells #[.int .i64 k, .int .i64 u, .string t, .slice ao ts.length cap] 38)).alloc (.cells #[.int .i64 k, .int .i64 u, .string t, .slice ao2 ts.length cap2] 38))) := ((Below.refl _ w).alloc (Nat.le_refl _) _).alloc (by simp) _
  go_enter Try.func16, Try.ntmps16
  go_wp2_with fail
  refine (sameTexts_same ts ao ao2 cap cap2 _ hl (textsAt_keep H1.out H0.out) (textsAt_keep H2.out H0.out)).mono ?_
  rintro e w1 ⟨rfl, b1⟩
  have HB : Hid (Below w.heap.size w w1) := H0.out.trans (b1.mono H0.out.size)
  clear b1
  go_wp2
  go_ret
  exact ⟨rfl, HB.out⟩
theorem implFind_any (es : List EntD) (key : ByteArray) (ao : Option Addr) (cap : Nat) (w : World) (hl : es.length ≤ 1048576) (hes : EntriesAt w ao es) (hsz : ∀ e ∈ es, EntS 1048576 e) :
    Calls Try.prog 15 #[.slice ao es.length cap, .string key] w fun e w' => (∃ a c, e = .returned (.tuple #[.agg #[.int .i64 (findV es key).kind, .int .i64 (findV es key).til, .string (findV es key).text, .slice a (findV es key).items.length c], .bool (findB es key)]) ∧ RowText w' w.heap.size (.slice a (findV es key).items.length c) (findV es key).items) ∧ Below w.heap.size w w' := by
  have HT := hide hes
  have HS := hide hsz
  have HV : Hid (∀ r, findE es key = r → findV es key = r.getD noVal ∧ findB es key = r.isSome) := fun r h => by unfold findV findB; rw [h]; exact ⟨rfl, rfl⟩
  generalize findV es key = V at HV ⊢
  generalize findB es key = R at HV ⊢
  have HE0 : Hid (findE es key = findE (es.drop 0) key) := rfl
  clear hes hsz
  obtain ⟨wb, hwb⟩ : ∃ wb, wb = w.alloc (.cells #[.int .i64 0, .int .i64 0, .string ⟨#[]⟩, .slice none 0 0] 38) := ⟨_, rfl⟩
  have HB0 : Hid (Below w.heap.size w wb) := by rw [hwb]; exact (Below.refl _ w).alloc (Nat.le_refl _) _
  have HR0 : Hid (wb.heap[w.heap.size]? = some (.cells #[.int .i64 0, .int .i64 0, .string ⟨#[]⟩, .slice none 0 0] 38 (0, 0))) := by rw [hwb]; exact heap_alloc_new _ _
  go_enter Try.func15, Try.ntmps15
  go_wp2_with fail
  rw [← hwb]
  clear hwb
  go_loopw [10] (fun ii wr => ∃ (k : Nat), ii = .int .i64 (k : Int) ∧ k ≤ es.length ∧ Hid (findE es key = findE (es.drop k) key) ∧ Hid (Below w.heap.size w wr) ∧ Hid (wr.heap[w.heap.size]? = some (.cells #[.int .i64 0, .int .i64 0, .string ⟨#[]⟩, .slice none 0 0] 38 (0, 0)))) (fun ii _ => es.length - (intOf ii).toNat)
  case atStart => exact ⟨0, rfl, by omega, HE0, HB0, HR0⟩
  case round =>
    obtain ⟨k, rfl, hk, HE, HB, HR⟩ := hrel
    by_cases hlt : k < es.length
    · have hlt' : decide ((k : Int) < (es.length : Int)) = true := by simp; omega
      obtain ⟨b, off, rfl, hbw, hc0, hc1, hc2, hc3, a, c, hc4, hta⟩ := entriesAt_keep HT.out HB.out k hlt
      have hws := HB.out.size
      have hsA := HS.out es[k] (List.getElem_mem hlt)
      have HY := hide (fun h => HE.out.trans (findE_here (key := key) hlt h))
      have HNo := hide (fun h => HE.out.trans (findE_next (key := key) hlt h))
      have HOV := hide (fun W (hW : Below wr.heap.size wr W) => ownVal_any es[k].val a c W hsA.2.2.1 hsA.2.1 (textsAt_keep hta hW) hsA.2.2.2)
      generalize es[k] = F at hc0 hc1 hc2 hc3 hc4 HY HNo HOV
      clear hsA hta
      obtain ⟨ky, kd, u, t, ts⟩ := F
      simp only at hc0 hc1 hc2 hc3 hc4 HY HNo HOV
      have hi0 : (0 : Int) ≤ (k : Int) := by omega
      have hi1 : (k : Int) < (es.length : Int) := by omega
      have B1 : Hid (Below wr.heap.size wr (wr.alloc (.cells #[.string ky, .int .i64 kd, .int .i64 u, .string t, .slice a ts.length c] 42))) := (Below.refl _ wr).alloc (Nat.le_refl _) _
      have W1 := hide (HB.out.trans (B1.out.mono hws))
      cases hkk : (ky.toList == key.toList) with
      | true =>
        obtain ⟨hV, hR⟩ := HV.out _ (HY.out hkk)
        have HVV : Hid (V = ⟨kd, u, t, ts⟩ ∧ R = true) := ⟨hV, hR⟩
        clear hV hR
        obtain ⟨rfl, rfl⟩ := HVV.out
        go_wp2_with fail
        refine (HOV.out _ B1.out).mono ?_
        rintro e w2 ⟨⟨a2, c2, rfl, hr2⟩, b2⟩
        have hp := (b2.block w.heap.size (by have := obj_lt HR.out; simp; omega)).trans ((B1.out.block w.heap.size (obj_lt HR.out)).trans HR.out)
        have HR2 := hide hr2
        have HB2 := hide (W1.out.trans (b2.mono W1.out.size))
        have hlt2 := hide (rowText_lt hr2)
        have hwsz := obj_lt HR.out
        clear b2 hr2
        obtain ⟨r0, r1, r2, r3⟩ := val_cells hp
        obtain ⟨f0, f1, f2, f3⟩ := val_frozen hp
        clear hp
        go_wp2_with fail
        refine bodyPost_ret (v := .tuple #[.agg #[.int .i64 kd, .int .i64 u, .string t, .slice a2 ts.length c2], .bool true]) (by simp [results, Try.results15, go_sem, r0, r1, r2, r3]) rfl ⟨⟨a2, c2, rfl, ?_⟩, ?_⟩
        · refine rowText_le (rowText_keep HR2.out (fun g hg => ?_)) W1.out.size
          have h1 := hlt2.out g hg
          simp at h1
          rw [Below.heap_setCell _ _ _ _ (by simp; omega), Below.heap_setCell _ _ _ _ (by simp; omega), Below.heap_setCell _ _ _ _ (by simp; omega), Below.heap_setCell _ _ _ _ (by simp; omega)]
        · exact (((HB2.out.setCell (p := ⟨w.heap.size, 0, none⟩) (Nat.le_refl _) _).setCell (p := ⟨w.heap.size, 1, none⟩) (Nat.le_refl _) _).setCell (p := ⟨w.heap.size, 2, none⟩) (Nat.le_refl _) _).setCell (p := ⟨w.heap.size, 3, none⟩) (Nat.le_refl _) _
      | false =>
        have HE1 := hide (HNo.out hkk)
        go_wp2
        go_roundw
        case rel => exact ⟨k + 1, by go_num, by omega, HE1, W1, (B1.out.block w.heap.size (obj_lt HR.out)).trans HR.out⟩
        case measure => simp [intOf]; omega
    · have hlt' : decide ((k : Int) < (es.length : Int)) = false := by simp; omega
      have hke : k = es.length := by omega
      subst hke
      obtain ⟨hV, hR⟩ := HV.out none (HE.out.trans (by rw [List.drop_length]; rfl))
      have HVV : Hid (V = noVal ∧ R = false) := ⟨hV, hR⟩
      clear hV hR
      obtain ⟨rfl, rfl⟩ := HVV.out
      obtain ⟨r0, r1, r2, r3⟩ := val_cells HR.out
      obtain ⟨f0, f1, f2, f3⟩ := val_frozen HR.out
      go_wp2_with fail
      refine bodyPost_ret (v := .tuple #[.agg #[.int .i64 0, .int .i64 0, .string ⟨#[]⟩, .slice none 0 0], .bool false]) (by simp [results, Try.results15, go_sem, r0, r1, r2, r3]) rfl ⟨⟨none, 0, rfl, .inl ⟨rfl, rfl⟩⟩, ?_⟩
      exact (((HB.out.setCell (p := ⟨w.heap.size, 0, none⟩) (Nat.le_refl _) _).setCell (p := ⟨w.heap.size, 1, none⟩) (Nat.le_refl _) _).setCell (p := ⟨w.heap.size, 2, none⟩) (Nat.le_refl _) _).setCell (p := ⟨w.heap.size, 3, none⟩) (Nat.le_refl _) _
theorem quiet_run {P : Program} {C : World → Prop} {a : Act} {o : Oper} {K : Act → Prop} {v : Value} (hv : ∀ w, C w → (execOp a.eval o).run P w = .ok (.value v) w) (hk : K (a.put o.dst v)) : o.quiet P a C K :=
  ⟨v, fun w hw => by unfold Oper.quietAt; rw [hv w hw]; exact ⟨rfl, rfl⟩, hk⟩
theorem quiet_call {P : Program} {C : World → Prop} {a : Act} {o : Oper} {K : Act → Prop} {v : Value} {f : FuncId} {args : Array Value} (hv : ∀ w, C w → (execOp a.eval o).run P w = .ok (.enter f args) w) (hc : ∀ w, C w → Calls P f args w (fun e w'' => e = .returned v ∧ C w'')) (hk : K (a.put o.dst v)) : o.quiet P a C K :=
  ⟨v, fun w hw => by unfold Oper.quietAt; rw [hv w hw]; exact ⟨rfl, hc w hw⟩, hk⟩
structure WQ (P : Program) (ops : Array Oper) (C : World → Prop) (Q : Act → Prop) (l : List Oper) (a : Act) : Prop where
  out : wpQuiet P ops C Q l a
section
variable {P : Program} {ops : Array Oper} {C : World → Prop} {Q : Act → Prop} {rest : List Oper} {a : Act} {o : Oper} {v : Value}
theorem WQ.run (hw : Region.wanted o (yielded ops a.tmps) = true) (hv : ∀ w, C w → (execOp a.eval o).run P w = .ok (.value v) w) (h : WQ P ops C Q rest (a.put o.dst v)) : WQ P ops C Q (o :: rest) a :=
  ⟨BigFrame.wpQuiet_want hw (fun _ hK => quiet_run hv (hK _ h.out))⟩
theorem WQ.call {f : FuncId} {args : Array Value} (hw : Region.wanted o (yielded ops a.tmps) = true) (hv : ∀ w, C w → (execOp a.eval o).run P w = .ok (.enter f args) w) (hc : ∀ w, C w → Calls P f args w (fun e w'' => e = .returned v ∧ C w'')) (h : WQ P ops C Q rest (a.put o.dst v)) : WQ P ops C Q (o :: rest) a :=
  ⟨BigFrame.wpQuiet_want hw (fun _ hK => quiet_call hv hc (hK _ h.out))⟩
theorem WQ.skip (hw : Region.wanted o (yielded ops a.tmps) = false) (h : WQ P ops C Q rest (a.put o.dst undef)) : WQ P ops C Q (o :: rest) a :=
  ⟨BigFrame.wpQuiet_skip hw h.out⟩
theorem WQ.nil (h : Q a) : WQ P ops C Q [] a := ⟨wpQuiet_nil h⟩
end
end Go.Proofs.Ytpibnhodlojajaa
