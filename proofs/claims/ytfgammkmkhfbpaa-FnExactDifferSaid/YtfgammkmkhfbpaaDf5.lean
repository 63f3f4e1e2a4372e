import Derived.BigQuiet
import Derived.Test.YtfgammkmkhfbpaaDf0
set_option maxRecDepth 100000
set_option maxHeartbeats 3200000
namespace Go.Proofs.Ytfgammkmkhfbpaa
open Go.RowKit
def StepsR (kd : Int) (L : List ByteArray) (k : Nat) : Prop := ∀ j (h : j < L.length), j < k → L[j].size ≤ 60 ∧ (kd = 4 → 0 < j → Op.bytesLess (L[j - 1]'(by omega)).toList L[j].toList = true) ∧ (kd = 3 → 1 < j → j % 2 = 0 → Op.bytesLess (L[j - 2]'(by omega)).toList L[j].toList = true)
theorem stepsR_zero (kd : Int) (L : List ByteArray) : StepsR kd L 0 := fun j _ hj => absurd hj (by omega)
theorem stepsR_next {kd : Int} {L : List ByteArray} {k : Nat} (h : StepsR kd L k) (hk : k < L.length) (hs : L[k].size ≤ 60) (h4 : kd = 4 → 0 < k → Op.bytesLess (L[k - 1]'(by omega)).toList L[k].toList = true) (h3 : kd = 3 → 1 < k → k % 2 = 0 → Op.bytesLess (L[k - 2]'(by omega)).toList L[k].toList = true) : StepsR kd L (k + 1) := by
  intro j hj hjk
  by_cases e : j = k
  · subst e; exact ⟨hs, h4, h3⟩
  · exact h j hj (by omega)
theorem stepsR_small {kd : Int} {L : List ByteArray} (h : StepsR kd L L.length) : Small L := by
  intro s hs
  obtain ⟨j, hj, rfl⟩ := List.getElem_of_mem hs
  exact (h j hj hj).1
theorem stepsR_asc {L : List ByteArray} (h : StepsR 4 L L.length) : Asc L := fun j hj => (h (j + 1) hj hj).2.1 rfl (by omega)
theorem stepsR_ascF {L : List ByteArray} (h : StepsR 3 L L.length) : AscF L := fun j hj h2 => (h (j + 2) hj hj).2.2 rfl (by omega) (by omega)
theorem empty_of_size {s : ByteArray} (h : s.size = 0) : s.toList = [] := List.eq_nil_of_length_eq_zero (by rw [ByteArray.toList_eq, Array.length_toList]; exact h)
theorem full_of_size {s : ByteArray} (h : ¬ s.size = 0) : ¬ s.toList = [] := fun e => h (by have h0 := congrArg List.length e; rw [ByteArray.toList_eq, Array.length_toList] at h0; exact h0)
theorem specValOk_any (v : ValD) (ao : Option Addr) (cap : Nat) (w : World) (R : Bool) (hR : R = true ↔ ValR v) (hl : v.items.length ≤ 1048576) (ht : v.text.size ≤ maxLen) (hts : TextsAt w ao v.items) (hsz : ∀ s ∈ v.items, s.size ≤ maxLen) :
    Calls Try.prog 31 #[.agg #[.int .i64 v.kind, .int .i64 v.til, .string v.text, .slice ao v.items.length cap]] w fun e w' => e = .returned (.bool R) ∧ Below w.heap.size w w' := by
  obtain ⟨k, u, t, ts⟩ := v
  simp only at hl ht hts hsz ⊢
  have HT := hide hts
  have HS := hide hsz
  have HR := hide hR
  clear hts hsz hR
  unfold maxLen at ht
  have MK : Hid (Below w.heap.size w (w.alloc (.cells #[.int .i64 k, .int .i64 u, .string t, .slice ao ts.length cap] 40))) := (Below.refl _ w).alloc (Nat.le_refl _) _
  cases h1 : (decide ((1 : Int) ≤ k) && decide (k ≤ 4))
  · have hF : R = false := by
      cases R
      · rfl
      · have hk : ¬ (1 ≤ k ∧ k ≤ 4) := by simpa using h1
        rcases (HR.out.1 rfl).2.2 with h | h | h | h
        all_goals (have h0 := h.1; simp only at h0; omega)
    subst hF
    go_enter Try.func31, Try.ntmps31
    go_wp2_with fail
    refine (l01In_val _ _ _ _ _ h1).mono ?_
    rintro e w1 ⟨rfl, rfl⟩
    go_wp2
    go_ret
    exact ⟨rfl, MK.out⟩
  cases h2 : (decide ((0 : Int) ≤ u) && decide (u ≤ 100000))
  · have hF : R = false := by
      cases R
      · rfl
      · have hk : ¬ (0 ≤ u ∧ u ≤ 100000) := by simpa using h2
        exact absurd ⟨(HR.out.1 rfl).1, (HR.out.1 rfl).2.1⟩ hk
    subst hF
    go_enter Try.func31, Try.ntmps31
    go_wp2_with fail
    refine (l01In_val _ _ _ _ _ h1).mono ?_
    rintro e w1 ⟨rfl, rfl⟩
    go_wp2_with fail
    refine (l01In_val _ _ _ _ _ h2).mono ?_
    rintro e w1 ⟨rfl, rfl⟩
    go_wp2
    go_ret
    exact ⟨rfl, MK.out⟩
  have HR2 : Hid (R = true ↔ KindR ⟨k, u, t, ts⟩) := by
    have hu : 0 ≤ u ∧ u ≤ 100000 := by simpa using h2
    show _ ↔ _
    rw [HR.out]
    exact ⟨fun h => h.2.2, fun h => ⟨hu.1, hu.2, h⟩⟩
  clear HR
  by_cases hk1 : k = 1
  · subst hk1
    have HR3 : Hid (R = (decide ((t.size : Int) ≤ 60) && ((ts.length : Int) == 0))) := by
      show _ = _
      rw [Bool.eq_iff_iff, HR2.out]
      constructor
      · rintro (h | h | h | h)
        · have h3 := h.2.1
          have h4 := h.2.2
          simp only at h3 h4
          rw [Bool.and_eq_true]
          exact ⟨decide_eq_true (by omega), by rw [beq_iff_eq]; omega⟩
        · exact absurd h.1 (by simp)
        · exact absurd h.1 (by simp)
        · exact absurd h.1 (by simp)
      · intro h
        rw [Bool.and_eq_true, decide_eq_true_eq, beq_iff_eq] at h
        exact .inl ⟨rfl, by simp only; omega, by simp only; omega⟩
    cases h3 : decide ((t.size : Int) ≤ 60)
    all_goals
      go_enter Try.func31, Try.ntmps31
      go_wp2_with fail
      refine (l01In_val _ _ _ _ _ h1).mono ?_
      rintro e w1 ⟨rfl, rfl⟩
      go_wp2_with fail
      refine (l01In_val _ _ _ _ _ h2).mono ?_
      rintro e w1 ⟨rfl, rfl⟩
      go_wp2
      go_ret
      rw [HR3.out, h3]
      exact ⟨rfl, MK.out⟩
  have hk1' : (k == 1) = false := by simpa using hk1
  have eN : (decide ((1 : Int) ≤ (ts.length : Int)) && decide ((ts.length : Int) ≤ 24)) = (decide (1 ≤ ts.length) && decide (ts.length ≤ 24)) := by
    congr 1
    · rw [decide_eq_decide]; omega
    · rw [decide_eq_decide]; omega
  by_cases h3 : t.size = 0
  case neg =>
    have h3' : (t.toList == []) = false := by simpa using full_of_size h3
    have hF : R = false := by
      cases R
      · rfl
      · rcases HR2.out.1 rfl with h | h | h | h
        · exact absurd h.1 hk1
        · exact absurd h.2.1 h3
        · exact absurd h.2.1 h3
        · exact absurd h.2.1 h3
    subst hF
    go_enter Try.func31, Try.ntmps31
    go_wp2_with fail
    refine (l01In_val _ _ _ _ _ h1).mono ?_
    rintro e w1 ⟨rfl, rfl⟩
    go_wp2_with fail
    refine (l01In_val _ _ _ _ _ h2).mono ?_
    rintro e w1 ⟨rfl, rfl⟩
    go_wp2
    go_ret
    exact ⟨rfl, MK.out⟩
  have h3' : (t.toList == []) = true := by simpa using empty_of_size h3
  cases h4 : (decide (1 ≤ ts.length) && decide (ts.length ≤ 24))
  · have hn : ¬ (1 ≤ ts.length ∧ ts.length ≤ 24) := by simpa using h4
    have hF : R = false := by
      cases R
      · rfl
      · rcases HR2.out.1 rfl with h | h | h | h
        · exact absurd h.1 hk1
        · exact absurd ⟨h.2.2.1, h.2.2.2.1⟩ hn
        · exact absurd ⟨h.2.2.1.1, h.2.2.1.2.1⟩ hn
        · exact absurd ⟨h.2.2.1.1, h.2.2.1.2.1⟩ hn
    subst hF
    go_enter Try.func31, Try.ntmps31
    go_wp2_with fail
    refine (l01In_val _ _ _ _ _ h1).mono ?_
    rintro e w1 ⟨rfl, rfl⟩
    go_wp2_with fail
    refine (l01In_val _ _ _ _ _ h2).mono ?_
    rintro e w1 ⟨rfl, rfl⟩
    go_wp2_with fail
    refine (l01In_val _ _ _ _ _ (eN.trans h4)).mono ?_
    rintro e w1 ⟨rfl, rfl⟩
    go_wp2
    go_ret
    exact ⟨rfl, MK.out⟩
  have hn : 1 ≤ ts.length ∧ ts.length ≤ 24 := by simpa using h4
  have HNN := hide hn
  clear hn
  have hk : k = 2 ∨ k = 3 ∨ k = 4 := by
    have : 1 ≤ k ∧ k ≤ 4 := by simpa using h1
    omega
  clear hk1 hk1'
  rcases hk with hk | hk | hk
  · subst hk
    have HRT : Hid (R = true → StepsR 2 ts ts.length) := by
      intro h0 j hj _
      rcases HR2.out.1 h0 with h | h | h | h
      · exact absurd h.1 (by simp)
      · exact ⟨h.2.2.2.2 _ (List.getElem_mem hj), fun e => absurd e (by simp), fun e => absurd e (by simp)⟩
      · exact absurd h.1 (by simp)
      · exact absurd h.1 (by simp)
    go_enter Try.func31, Try.ntmps31
    go_wp2_with fail
    refine (l01In_val _ _ _ _ _ h1).mono ?_
    rintro e w1 ⟨rfl, rfl⟩
    go_wp2_with fail
    refine (l01In_val _ _ _ _ _ h2).mono ?_
    rintro e w1 ⟨rfl, rfl⟩
    go_wp2_with fail
    refine (l01In_val _ _ _ _ _ (eN.trans h4)).mono ?_
    rintro e w1 ⟨rfl, rfl⟩
    go_wp2
    go_loopw [3] (fun ii wr => ∃ (k : Nat), ii = .int .i64 k ∧ k ≤ ts.length ∧ Hid (StepsR 2 ts k) ∧ Hid (Below (w.heap.size + 1) (w.alloc (.cells #[.int .i64 2, .int .i64 u, .string t, .slice ao ts.length cap] 40)) wr)) (fun ii _ => ts.length - (intOf ii).toNat)
    case atStart => exact ⟨0, rfl, Nat.zero_le _, stepsR_zero _ _, Below.refl _ _⟩
    case round =>
      obtain ⟨k, rfl, hk, HK, HB⟩ := hrel
      have HB0 : Hid (Below w.heap.size w wr) := MK.out.trans (HB.out.mono (by omega))
      have hp : wr.heap[w.heap.size]? = some (.cells #[.int .i64 2, .int .i64 u, .string t, .slice ao ts.length cap] 40 (0, 0)) := (HB.out.block w.heap.size (by omega)).trans (heap_alloc_new w _)
      have hx0 : wr.cell? ⟨w.heap.size, 0, none⟩ = some (.int .i64 2) := (cell_of_row wr _ 0 _ _ (0, 0) hp).trans rfl
      have hx3 : wr.cell? ⟨w.heap.size, 3, none⟩ = some (.slice ao ts.length cap) := (cell_of_row wr _ 3 _ _ (0, 0) hp).trans rfl
      clear hp
      by_cases hlt : k < ts.length
      · have hlt' : decide ((k : Int) < (ts.length : Int)) = true := by simp; omega
        obtain ⟨b, off, rfl, hbw, hc0⟩ := textsAt_keep HT.out HB0.out k hlt
        have hsA := HS.out ts[k] (List.getElem_mem hlt)
        unfold maxLen at hsA
        obtain ⟨F, HF⟩ : ∃ F, Hid (ts[k] = F) := ⟨_, hide rfl⟩
        rw [HF.out] at hc0 hsA
        have hi0 : (0 : Int) ≤ (k : Int) := by omega
        have hi1 : (k : Int) < (ts.length : Int) := by omega
        by_cases h6 : 60 < F.size
        · have h6' : decide ((60 : Int) < (F.size : Int)) = true := by simp; omega
          have h6n : decide (60 < F.size) = true := by simp; omega
          have hF : Hid (R = false) := by
            show _ = _
            cases R
            · rfl
            · have h7 := (HRT.out rfl k hlt hlt).1; rw [HF.out] at h7; omega
          go_wp2
          go_ret
          rw [hF.out]
          exact ⟨rfl, HB0.out⟩
        have h6' : decide ((60 : Int) < (F.size : Int)) = false := by simp; omega
        have h6n : decide (60 < F.size) = false := by simp; omega
        have h6s : F.size ≤ 60 := by omega
        have HK1 : Hid (StepsR 2 ts (k + 1)) := stepsR_next HK.out hlt (by rw [HF.out]; exact h6s) (fun e => absurd e (by simp)) (fun e => absurd e (by simp))
        go_wp2
        go_quiet (fail)
        go_wp2
        go_roundw
        case rel => exact ⟨k + 1, by go_num, by omega, HK1, below_drewN HB.out _⟩
        case measure => simp [intOf]; omega
      · have hlt' : decide ((k : Int) < (ts.length : Int)) = false := by simp; omega
        have hke : k = ts.length := by omega
        subst hke
        have hF : Hid (R = true) := by
          have HTR : TextsR ts := ⟨HNN.out.1, HNN.out.2, stepsR_small HK.out⟩
          exact HR2.out.2 (.inr (.inl ⟨rfl, h3, HTR⟩))
        go_wp2
        go_ret
        rw [hF.out]
        exact ⟨rfl, HB0.out⟩
  · subst hk
    by_cases hev : ts.length % 2 = 1
    · have hev' : ((ts.length : Int) % 2 == 1) = true := by rw [beq_iff_eq]; omega
      have hF : R = false := by
        cases R
        · rfl
        · rcases HR2.out.1 rfl with h | h | h | h
          · exact absurd h.1 (by simp)
          · exact absurd h.1 (by simp)
          · have h0 := h.2.2.2.1; simp only at h0; omega
          · exact absurd h.1 (by simp)
      subst hF
      go_enter Try.func31, Try.ntmps31
      go_wp2_with fail
      refine (l01In_val _ _ _ _ _ h1).mono ?_
      rintro e w1 ⟨rfl, rfl⟩
      go_wp2_with fail
      refine (l01In_val _ _ _ _ _ h2).mono ?_
      rintro e w1 ⟨rfl, rfl⟩
      go_wp2_with fail
      refine (l01In_val _ _ _ _ _ (eN.trans h4)).mono ?_
      rintro e w1 ⟨rfl, rfl⟩
      go_wp2
      go_ret
      exact ⟨rfl, MK.out⟩
    have hev' : ((ts.length : Int) % 2 == 1) = false := by rw [beq_eq_false_iff_ne]; omega
    have HEV := hide hev
    clear hev
    have HRT : Hid (R = true → StepsR 3 ts ts.length) := by
      intro h0 j hj _
      rcases HR2.out.1 h0 with h | h | h | h
      · exact absurd h.1 (by simp)
      · exact absurd h.1 (by simp)
      · refine ⟨h.2.2.1.2.2 _ (List.getElem_mem hj), fun e => absurd e (by simp), fun _ h1 h2 => ?_⟩
        have h5 := h.2.2.2.2 (j - 2) (by simp only; omega) (by omega)
        simp only [show j - 2 + 2 = j from by omega] at h5
        exact h5
      · exact absurd h.1 (by simp)
    go_enter Try.func31, Try.ntmps31
    go_wp2_with fail
    refine (l01In_val _ _ _ _ _ h1).mono ?_
    rintro e w1 ⟨rfl, rfl⟩
    go_wp2_with fail
    refine (l01In_val _ _ _ _ _ h2).mono ?_
    rintro e w1 ⟨rfl, rfl⟩
    go_wp2_with fail
    refine (l01In_val _ _ _ _ _ (eN.trans h4)).mono ?_
    rintro e w1 ⟨rfl, rfl⟩
    go_wp2
    go_loopw [3] (fun ii wr => ∃ (k : Nat), ii = .int .i64 k ∧ k ≤ ts.length ∧ Hid (StepsR 3 ts k) ∧ Hid (Below (w.heap.size + 1) (w.alloc (.cells #[.int .i64 3, .int .i64 u, .string t, .slice ao ts.length cap] 40)) wr)) (fun ii _ => ts.length - (intOf ii).toNat)
    case atStart => exact ⟨0, rfl, Nat.zero_le _, stepsR_zero _ _, Below.refl _ _⟩
    case round =>
      obtain ⟨k, rfl, hk, HK, HB⟩ := hrel
      have HB0 : Hid (Below w.heap.size w wr) := MK.out.trans (HB.out.mono (by omega))
      have hp : wr.heap[w.heap.size]? = some (.cells #[.int .i64 3, .int .i64 u, .string t, .slice ao ts.length cap] 40 (0, 0)) := (HB.out.block w.heap.size (by omega)).trans (heap_alloc_new w _)
      have hx0 : wr.cell? ⟨w.heap.size, 0, none⟩ = some (.int .i64 3) := (cell_of_row wr _ 0 _ _ (0, 0) hp).trans rfl
      have hx3 : wr.cell? ⟨w.heap.size, 3, none⟩ = some (.slice ao ts.length cap) := (cell_of_row wr _ 3 _ _ (0, 0) hp).trans rfl
      clear hp
      by_cases hlt : k < ts.length
      · have hlt' : decide ((k : Int) < (ts.length : Int)) = true := by simp; omega
        obtain ⟨b, off, rfl, hbw, hc0⟩ := textsAt_keep HT.out HB0.out k hlt
        have hsA := HS.out ts[k] (List.getElem_mem hlt)
        unfold maxLen at hsA
        obtain ⟨F, HF⟩ : ∃ F, Hid (ts[k] = F) := ⟨_, hide rfl⟩
        rw [HF.out] at hc0 hsA
        have hi0 : (0 : Int) ≤ (k : Int) := by omega
        have hi1 : (k : Int) < (ts.length : Int) := by omega
        by_cases h6 : 60 < F.size
        · have h6' : decide ((60 : Int) < (F.size : Int)) = true := by simp; omega
          have h6n : decide (60 < F.size) = true := by simp; omega
          have hF : Hid (R = false) := by
            show _ = _
            cases R
            · rfl
            · have h7 := (HRT.out rfl k hlt hlt).1; rw [HF.out] at h7; omega
          go_wp2
          go_ret
          rw [hF.out]
          exact ⟨rfl, HB0.out⟩
        have h6' : decide ((60 : Int) < (F.size : Int)) = false := by simp; omega
        have h6n : decide (60 < F.size) = false := by simp; omega
        have h6s : F.size ≤ 60 := by omega
        by_cases hp : 1 < k
        case neg =>
          have hp1 : decide ((1 : Int) < (k : Int)) = false := by simp; omega
          have hp2 : decide (1 < k) = false := by simp; omega
          have HK1 : Hid (StepsR 3 ts (k + 1)) := stepsR_next HK.out hlt (by rw [HF.out]; exact h6s) (fun e => absurd e (by simp)) (fun _ h _ => absurd h hp)
          go_wp2
          go_quiet (fail)
          go_wp2
          go_roundw
          case rel => exact ⟨k + 1, by go_num, by omega, HK1, below_drewN HB.out _⟩
          case measure => simp [intOf]; omega
        have hp1 : decide ((1 : Int) < (k : Int)) = true := by simp; omega
        have hp2 : decide (1 < k) = true := by simp; omega
        by_cases hm : k % 2 = 0
        case neg =>
          have hm1 : ((k : Int) % 2 == 0) = false := by rw [beq_eq_false_iff_ne]; omega
          have HK1 : Hid (StepsR 3 ts (k + 1)) := stepsR_next HK.out hlt (by rw [HF.out]; exact h6s) (fun e => absurd e (by simp)) (fun _ _ h => absurd h hm)
          go_wp2
          go_quiet (fail)
          go_wp2
          go_roundw
          case rel => exact ⟨k + 1, by go_num, by omega, HK1, below_drewN HB.out _⟩
          case measure => simp [intOf]; omega
        have hm1 : ((k : Int) % 2 == 0) = true := by rw [beq_iff_eq]; omega
        obtain ⟨b', off', hbe, hbw', hd0⟩ := textsAt_keep HT.out HB0.out (k - 2) (by omega)
        obtain ⟨rfl, rfl⟩ : b = b' ∧ off = off' := by simpa using hbe
        obtain ⟨G, HG⟩ : ∃ G, Hid (ts[k - 2] = G) := ⟨_, hide rfl⟩
        rw [HG.out] at hd0
        clear hbe
        have hw : IntKind.i64.wrap ((k : Int) - 2) = ((k - 2 : Nat) : Int) := by rw [IntKind.wrap_i64]; omega
        have hj0 : (0 : Int) ≤ ((k - 2 : Nat) : Int) := by omega
        have hj1 : ((k - 2 : Nat) : Int) < (ts.length : Int) := by omega
        cases hless : Op.bytesLess G.toList F.toList
        · have hno := hless
          have hF : Hid (R = false) := by
            show _ = _
            cases R
            · rfl
            · have h7 := (HRT.out rfl k hlt hlt).2.2 rfl hp hm; rw [HF.out, HG.out, hless] at h7; cases h7
          go_wp2
          go_quiet (fail)
          go_wp2
          go_ret
          rw [hF.out]
          exact ⟨rfl, below_drewN HB0.out _⟩
        · have hyes := hless
          have HK1 : Hid (StepsR 3 ts (k + 1)) := stepsR_next HK.out hlt (by rw [HF.out]; exact h6s) (fun e => absurd e (by simp)) (fun _ _ _ => by rw [HF.out, HG.out]; exact hless)
          go_wp2
          go_quiet (fail)
          go_wp2
          go_roundw
          case rel => exact ⟨k + 1, by go_num, by omega, HK1, below_drewN HB.out _⟩
          case measure => simp [intOf]; omega
      · have hlt' : decide ((k : Int) < (ts.length : Int)) = false := by simp; omega
        have hke : k = ts.length := by omega
        subst hke
        have hF : Hid (R = true) := by
          have HTR : TextsR ts := ⟨HNN.out.1, HNN.out.2, stepsR_small HK.out⟩
          exact HR2.out.2 (.inr (.inr (.inl ⟨rfl, h3, HTR, by have := HEV.out; simp only; omega, stepsR_ascF HK.out⟩)))
        go_wp2
        go_ret
        rw [hF.out]
        exact ⟨rfl, HB0.out⟩
  · subst hk
    have HRT : Hid (R = true → StepsR 4 ts ts.length) := by
      intro h0 j hj _
      rcases HR2.out.1 h0 with h | h | h | h
      · exact absurd h.1 (by simp)
      · exact absurd h.1 (by simp)
      · exact absurd h.1 (by simp)
      · refine ⟨h.2.2.1.2.2 _ (List.getElem_mem hj), fun _ h1 => ?_, fun e => absurd e (by simp)⟩
        have h5 := h.2.2.2 (j - 1) (by simp only; omega)
        simp only [show j - 1 + 1 = j from by omega] at h5
        exact h5
    go_enter Try.func31, Try.ntmps31
    go_wp2_with fail
    refine (l01In_val _ _ _ _ _ h1).mono ?_
    rintro e w1 ⟨rfl, rfl⟩
    go_wp2_with fail
    refine (l01In_val _ _ _ _ _ h2).mono ?_
    rintro e w1 ⟨rfl, rfl⟩
    go_wp2_with fail
    refine (l01In_val _ _ _ _ _ (eN.trans h4)).mono ?_
    rintro e w1 ⟨rfl, rfl⟩
    go_wp2
    go_loopw [3] (fun ii wr => ∃ (k : Nat), ii = .int .i64 k ∧ k ≤ ts.length ∧ Hid (StepsR 4 ts k) ∧ Hid (Below (w.heap.size + 1) (w.alloc (.cells #[.int .i64 4, .int .i64 u, .string t, .slice ao ts.length cap] 40)) wr)) (fun ii _ => ts.length - (intOf ii).toNat)
    case atStart => exact ⟨0, rfl, Nat.zero_le _, stepsR_zero _ _, Below.refl _ _⟩
    case round =>
      obtain ⟨k, rfl, hk, HK, HB⟩ := hrel
      have HB0 : Hid (Below w.heap.size w wr) := MK.out.trans (HB.out.mono (by omega))
      have hp : wr.heap[w.heap.size]? = some (.cells #[.int .i64 4, .int .i64 u, .string t, .slice ao ts.length cap] 40 (0, 0)) := (HB.out.block w.heap.size (by omega)).trans (heap_alloc_new w _)
      have hx0 : wr.cell? ⟨w.heap.size, 0, none⟩ = some (.int .i64 4) := (cell_of_row wr _ 0 _ _ (0, 0) hp).trans rfl
      have hx3 : wr.cell? ⟨w.heap.size, 3, none⟩ = some (.slice ao ts.length cap) := (cell_of_row wr _ 3 _ _ (0, 0) hp).trans rfl
      clear hp
      by_cases hlt : k < ts.length
      · have hlt' : decide ((k : Int) < (ts.length : Int)) = true := by simp; omega
        obtain ⟨b, off, rfl, hbw, hc0⟩ := textsAt_keep HT.out HB0.out k hlt
        have hsA := HS.out ts[k] (List.getElem_mem hlt)
        unfold maxLen at hsA
        obtain ⟨F, HF⟩ : ∃ F, Hid (ts[k] = F) := ⟨_, hide rfl⟩
        rw [HF.out] at hc0 hsA
        have hi0 : (0 : Int) ≤ (k : Int) := by omega
        have hi1 : (k : Int) < (ts.length : Int) := by omega
        by_cases h6 : 60 < F.size
        · have h6' : decide ((60 : Int) < (F.size : Int)) = true := by simp; omega
          have h6n : decide (60 < F.size) = true := by simp; omega
          have hF : Hid (R = false) := by
            show _ = _
            cases R
            · rfl
            · have h7 := (HRT.out rfl k hlt hlt).1; rw [HF.out] at h7; omega
          go_wp2
          go_ret
          rw [hF.out]
          exact ⟨rfl, HB0.out⟩
        have h6' : decide ((60 : Int) < (F.size : Int)) = false := by simp; omega
        have h6n : decide (60 < F.size) = false := by simp; omega
        have h6s : F.size ≤ 60 := by omega
        by_cases hp : 0 < k
        case neg =>
          have hp1 : decide ((0 : Int) < (k : Int)) = false := by simp; omega
          have hp2 : decide (0 < k) = false := by simp; omega
          have HK1 : Hid (StepsR 4 ts (k + 1)) := stepsR_next HK.out hlt (by rw [HF.out]; exact h6s) (fun _ h => absurd h hp) (fun e => absurd e (by simp))
          go_wp2
          go_quiet (fail)
          go_wp2
          go_roundw
          case rel => exact ⟨k + 1, by go_num, by omega, HK1, below_drewN HB.out _⟩
          case measure => simp [intOf]; omega
        have hp1 : decide ((0 : Int) < (k : Int)) = true := by simp; omega
        have hp2 : decide (0 < k) = true := by simp; omega
        obtain ⟨b', off', hbe, hbw', hd0⟩ := textsAt_keep HT.out HB0.out (k - 1) (by omega)
        obtain ⟨rfl, rfl⟩ : b = b' ∧ off = off' := by simpa using hbe
        obtain ⟨G, HG⟩ : ∃ G, Hid (ts[k - 1] = G) := ⟨_, hide rfl⟩
        rw [HG.out] at hd0
        clear hbe
        have hw : IntKind.i64.wrap ((k : Int) - 1) = ((k - 1 : Nat) : Int) := by rw [IntKind.wrap_i64]; omega
        have hj0 : (0 : Int) ≤ ((k - 1 : Nat) : Int) := by omega
        have hj1 : ((k - 1 : Nat) : Int) < (ts.length : Int) := by omega
        cases hless : Op.bytesLess G.toList F.toList
        · have hno := hless
          have hF : Hid (R = false) := by
            show _ = _
            cases R
            · rfl
            · have h7 := (HRT.out rfl k hlt hlt).2.1 rfl hp; rw [HF.out, HG.out, hless] at h7; cases h7
          go_wp2
          go_quiet (fail)
          go_wp2
          go_ret
          rw [hF.out]
          exact ⟨rfl, below_drewN HB0.out _⟩
        · have hyes := hless
          have HK1 : Hid (StepsR 4 ts (k + 1)) := stepsR_next HK.out hlt (by rw [HF.out]; exact h6s) (fun _ _ => by rw [HF.out, HG.out]; exact hless) (fun e => absurd e (by simp))
          go_wp2
          go_quiet (fail)
          go_wp2
          go_roundw
          case rel => exact ⟨k + 1, by go_num, by omega, HK1, below_drewN HB.out _⟩
          case measure => simp [intOf]; omega
      · have hlt' : decide ((k : Int) < (ts.length : Int)) = false := by simp; omega
        have hke : k = ts.length := by omega
        subst hke
        have hF : Hid (R = true) := by
          have HTR : TextsR ts := ⟨HNN.out.1, HNN.out.2, stepsR_small HK.out⟩
          exact HR2.out.2 (.inr (.inr (.inr ⟨rfl, h3, HTR, stepsR_asc HK.out⟩)))
        go_wp2
        go_ret
        rw [hF.out]
        exact ⟨rfl, HB0.out⟩
theorem quiet_run {P : Program} {C : World → Prop} {a : Act} {o : Oper} {K : Act → Prop} {v : Value} (hv : ∀ w, C w → (execOp a.eval o).run P w = .ok (.value v) w) (hk : K (a.put o.dst v)) : o.quiet P a C K :=
  ⟨v, fun w hw => by unfold Oper.quietAt; rw [hv w hw]; exact ⟨rfl, rfl⟩, hk⟩
theorem quiet_call {P : Program} {C : World → Prop} {a : Act} {o : Oper} {K : Act → Prop} {v : Value} {f : FuncId} {args : Array Value} (hv : ∀ w, C w → (execOp a.eval o).run P w = .ok (.enter f args) w) (hc : ∀ w, C w → Calls P f args w (fun e w'' => e = .returned v ∧ C w'')) (hk : K (a.put o.dst v)) : o.quiet P a C K :=
  ⟨v, fun w hw => by unfold Oper.quietAt; rw [hv w hw]; exact ⟨rfl, hc w hw⟩, hk⟩
structure WQ (P : Program) (ops : Array Oper) (C : World → Prop) (Q : Act → Prop) (l : List Oper) (a : Act) : Prop where
  out : wpQuiet P ops C Q l a
section
variable {P : Program} {ops : Array Oper} {C : World → Prop} {Q : Act → Prop} {rest : List Oper} {a : Act} {o : Oper} {v : Value}
theorem WQ.run (hw : Region.wanted o (yielded ops a.tmps) = true) (hv : ∀ w, C w → (execOp a.eval o).run P w = .ok (.value v) w) (h : WQ P ops C Q rest (a.put o.dst v)) : WQ P ops C Q (o :: rest) a :=
  ⟨BigFrame.wpQuiet_want hw (fun _ hK => quiet_run hv (hK _ h.out))⟩
theorem WQ.call {f : FuncId} {args : Array Value} (hw : Region.wanted o (yielded ops a.tmps) = true) (hv : ∀ w, C w → (execOp a.eval o).run P w = .ok (.enter f args) w) (hc : ∀ w, C w → Calls P f args w (fun e w'' => e = .returned v ∧ C w'')) (h : WQ P ops C Q rest (a.put o.dst v)) : WQ P ops C Q (o :: rest) a :=
  ⟨BigFrame.wpQuiet_want hw (fun _ hK => quiet_call hv hc (hK _ h.out))⟩
theorem WQ.skip (hw : Region.wanted o (yielded ops a.tmps) = false) (h : WQ P ops C Q rest (a.put o.dst undef)) : WQ P ops C Q (o :: rest) a :=
  ⟨BigFrame.wpQuiet_skip hw h.out⟩
theorem WQ.nil (h : Q a) : WQ P ops C Q [] a := ⟨wpQuiet_nil h⟩
end
end Go.Proofs.Ytfgammkmkhfbpaa
