/- A drawn batch, and drawn bytes that may be one. -/
import Derived.Test.YtcpbkllonamleabDrawAny
import Derived.Test.YtcpbkllonamleabBatchS2
namespace Go.Proofs.Ytcpbkllonamleab
open Go.RowKit

theorem cutHd (s : ByteArray) (n : Nat) (h : n ≤ s.size) : ∃ R : ByteArray, R.size ≤ s.size ∧ ∀ W : World, (Instr.slice 9 (.string s) none (some (.int .i64 (n : Int))) none).run Try.prog W = .ok (.string R) W :=
  ⟨s.extract 0 ((n : Int)).toNat, by rw [ByteArray.size_extract]; omega, fun W => by rw [run_slice_string_to_if W 9 s .i64 (n : Int) Try.underlying9, if_pos ⟨by omega, by omega⟩]⟩
theorem cutTl (s : ByteArray) (n : Nat) (h : n < s.size) : ∃ R : ByteArray, R.size ≤ s.size ∧ ∀ W : World, (Instr.slice 9 (.string s) (some (.int .i64 ((n : Int) + 1))) none none).run Try.prog W = .ok (.string R) W :=
  ⟨s.extract ((n : Int) + 1).toNat s.size, by rw [ByteArray.size_extract]; omega, fun W => by rw [run_slice_string_from_if W 9 s .i64 ((n : Int) + 1) Try.underlying9, if_pos ⟨by omega, by omega⟩]⟩

set_option maxRecDepth 100000 in
set_option maxHeartbeats 2000000 in
theorem spoilt_any (w0 w : World) (g : Nat) (ao : Option Addr) (len cap : Nat) (t : ByteArray) (hlen : len ≤ 1048576) (ht : t.size ≤ 9000) (hcode : Code w0 ao len) (hc : CurAt w0 w g ao len cap) :
    Calls Try.prog 24 #[.pointer (some ⟨g, 0, none⟩), .string t] w fun e w' => ∃ T : ByteArray, e = .returned (.string T) ∧ T.size ≤ 30000 ∧ CurAt w0 w' g ao len cap ∧ w.grownBy w' (some g) := by
  have HC := hide hcode
  have HU := hide hc
  clear hcode hc
  go_enter Try.func24, Try.ntmps24
  go_wp2_with fail
  refine (below_any w0 _ g ao len cap _ hlen (by omega) HC.out HU.out).mono ?_
  rintro e w1 ⟨x, rfl, _, _, hc1, g1⟩
  have U1 := hide hc1
  have G1 := hide g1
  clear hc1 g1
  by_cases h0 : x = 0
  · have hy0 : ((x : Int) == 0) = true := by rw [beq_iff_eq]; omega
    clear h0
    go_wp2_with fail
    refine (text_any w0 _ g ao len cap _ hlen (by omega) HC.out U1.out).mono ?_
    rintro e w2 ⟨l, rfl, hl, hc2, g2⟩
    have U2 := hide hc2
    have G2 := hide (grownBy_trans G1.out g2)
    obtain ⟨T, HT⟩ : ∃ T : ByteArray, Hid ((⟨l.toArray⟩ : ByteArray) = T) := ⟨_, hide rfl⟩
    have hTz : T.size ≤ 1 := by rw [← HT.out]; show l.length ≤ 1; omega
    rw [HT.out]
    clear hl hc2 g2
    have hk : ¬ (9223372036854775807 < t.size + T.size) := by omega
    go_wp2
    go_ret
    exact ⟨_, rfl, by rw [ByteArray.size_append]; omega, U2.out, G2.out⟩
  have hn0 : ((x : Int) == 0) = false := by rw [beq_eq_false_iff_ne]; omega
  by_cases h1 : x = 1
  · have hy1 : ((x : Int) == 1) = true := by rw [beq_iff_eq]; omega
    clear h0 h1
    go_wp2_with fail
    refine (below_any w0 _ g ao len cap _ hlen (by omega) HC.out U1.out).mono ?_
    rintro e w2 ⟨y, rfl, hy, _, hc2, g2⟩
    have hy' := hy (by omega)
    have U2 := hide hc2
    have G2 := hide (grownBy_trans G1.out g2)
    obtain ⟨R, hRz, hcut⟩ := cutHd t y (by omega)
    clear hy hc2 g2
    go_wp2
    go_ret
    exact ⟨_, rfl, by omega, U2.out, G2.out⟩
  have hn1 : ((x : Int) == 1) = false := by rw [beq_eq_false_iff_ne]; omega
  by_cases h23 : x = 2 ∨ x = 3
  · have hcase : ((x : Int) == 2) = true ∨ (((x : Int) == 2) = false ∧ ((x : Int) == 3) = true) := by
      rcases h23 with h | h
      · exact .inl (by rw [beq_iff_eq]; omega)
      · exact .inr ⟨by rw [beq_eq_false_iff_ne]; omega, by rw [beq_iff_eq]; omega⟩
    clear h0 h1 h23
    by_cases hz : 0 < t.size
    · have hz' : decide ((0 : Int) < (t.size : Int)) = true := by simp; omega
      rcases hcase with hy2 | ⟨hn2, hy3⟩
      all_goals
        go_wp2_with fail
        refine (below_any w0 _ g ao len cap _ hlen (by omega) HC.out U1.out).mono ?_
        rintro e w2 ⟨y, rfl, hy, _, hc2, g2⟩
        have hy' := hy (by omega)
        have U2 := hide hc2
        have U2d := hide (cur_keep hc2 (Below.refl _ _).drew (cur_lt hc2))
        have G2 := hide (grownBy_trans G1.out g2)
        obtain ⟨R1, hR1, hcut1⟩ := cutHd t y (by omega)
        obtain ⟨R2, hR2, hcut2⟩ := cutTl t y (by omega)
        have hwr : IntKind.i64.wrap ((y : Int) + 1) = (y : Int) + 1 := by rw [IntKind.wrap_i64]; omega
        clear hy hc2 g2
        go_wp2_with fail
        go_region_law ((first | (go_simp; go_at_call 39; refine (text_any w0 _ g ao len cap _ hlen (by omega) HC.out U2d.out).mono ?_; rintro e w3 ⟨l, rfl, hl, hc3, g3⟩; obtain ⟨T, HT⟩ : ∃ T : ByteArray, Hid ((⟨l.toArray⟩ : ByteArray) = T) := ⟨_, hide rfl⟩; have hTz : T.size ≤ 1 := (by rw [← HT.out]; show l.length ≤ 1; omega); rw [HT.out]; have U3 := hide hc3; have G3 : Hid (w.grownBy w3 (some g)) := grownBy_trans G2.out (grownBy_trans (grownBy_below _ (Below.refl _ _).drew) g3); have hk1 : ¬ (9223372036854775807 < R1.size + T.size) := (by omega); have hk2 : ¬ (9223372036854775807 < R1.size + T.size + R2.size) := (by omega); clear hl hc3 g3) | fail))
        all_goals
          go_wp2
          go_ret
          exact ⟨_, rfl, by rw [ByteArray.size_append, ByteArray.size_append]; omega, U3.out, G3.out⟩
    · have hz' : decide ((0 : Int) < (t.size : Int)) = false := by rw [decide_eq_false_iff_not]; omega
      rcases hcase with hy2 | ⟨hn2, hy3⟩
      all_goals
        go_wp2
        go_ret
        exact ⟨_, rfl, by omega, U1.out, G1.out⟩
  · have hn2 : ((x : Int) == 2) = false := by rw [beq_eq_false_iff_ne]; omega
    have hn3 : ((x : Int) == 3) = false := by rw [beq_eq_false_iff_ne]; omega
    clear h0 h1 h23
    go_wp2
    go_ret
    exact ⟨_, rfl, by omega, U1.out, G1.out⟩

set_option maxRecDepth 100000 in
set_option maxHeartbeats 1000000 in
theorem drawBatchText_any (w : World) (ao : Option Addr) (len cap : Nat) (hlen : len ≤ 1048576) (hcode : Code w ao len) :
    Calls Try.prog 5 #[.slice ao len cap] w fun e w' => ∃ (q : Int) (a : Option Addr) (c : Nat) (fs : List ChangeD), e = .returned (.agg #[.int .i64 q, .slice a fs.length c]) ∧ RowChange w' w.heap.size (.slice a fs.length c) fs ∧ fs.length ≤ 42 ∧ (∀ A ∈ fs, A.key.size ≤ 100 ∧ A.value.size ≤ 3000) ∧ Below w.heap.size w w' := by
  obtain ⟨wA, hwA⟩ : ∃ wA, wA = w.alloc (.cells #[.int .i64 0, .slice none 0 0] 26) := ⟨_, rfl⟩
  have hsA : wA.heap.size = w.heap.size + 1 := by rw [hwA]; simp
  have BA : Hid (Below w.heap.size w wA) := by rw [hwA]; exact (Below.refl _ w).alloc (Nat.le_refl _) _
  have XA : Hid (wA.heap[w.heap.size]? = some (.cells #[.int .i64 0, .slice none 0 0] 26 (0, 0))) := by rw [hwA]; exact heap_alloc_new _ _
  have HC := hide (code_keep hcode BA.out)
  have HSA := hide hsA
  clear hcode hsA
  go_enter Try.func5, Try.ntmps5
  go_wp2_with fail
  rw [← hwA]
  clear hwA
  refine (new_any _ ao len cap hlen HC.out).mono ?_
  rintro e w1 ⟨g, rfl, hc1⟩
  have U1 := hide hc1
  have hg1 : wA.heap.size ≤ g ∧ g < w1.heap.size := ⟨hc1.2.1, cur_lt hc1⟩
  clear hc1
  go_wp2_with fail
  refine (any_any wA _ g ao len cap hlen HC.out U1.out).mono ?_
  rintro e w2 ⟨q, a, c, fs, rfl, hrow, hl, hb, hc2, g2⟩
  have x2 := (hc2.1.block w.heap.size (by have := HSA.out; omega)).trans XA.out
  have hr0 : w2.cell? ⟨w.heap.size, 0, none⟩ = some (.int .i64 0) := (cell_of_row w2 _ 0 _ _ (0, 0) x2).trans rfl
  have hr1 : w2.cell? ⟨w.heap.size, 1, none⟩ = some (.slice none 0 0) := (cell_of_row w2 _ 1 _ _ (0, 0) x2).trans rfl
  have hf0 := frozen_of_row w2 w.heap.size 0 _ _ x2
  have hf1 := frozen_of_row w2 w.heap.size 1 _ _ x2
  have B2 : Hid (Below w.heap.size w w2) := BA.out.trans (hc2.1.mono (by have := HSA.out; omega))
  have HROW := hide hrow
  have HB := hide hb
  have hs1 : w.heap.size < w1.heap.size := by have := HSA.out; omega
  clear x2 hc2 g2 hrow hb
  go_wp2_with fail
  refine bodyPost_ret (v := .agg #[.int .i64 q, .slice a fs.length c]) (by simp [results, Try.results5, go_sem, hr0, hr1]) rfl ⟨q, a, c, fs, rfl, ?_, hl, HB.out, (B2.out.setCell (p := ⟨w.heap.size, 0, none⟩) (Nat.le_refl _) _).setCell (p := ⟨w.heap.size, 1, none⟩) (Nat.le_refl _) _⟩
  refine rowChange_le (rowChange_keep HROW.out (fun b hb => ?_)) (Nat.le_of_lt hs1)
  have := (rowChange_lt HROW.out b hb).1
  exact (Below.heap_setCell _ _ _ _ (by intro e; simp only at e; omega)).trans (Below.heap_setCell _ _ _ _ (by intro e; simp only at e; omega))

theorem textD_size (q : Int) (fs : List ChangeD) : (textD q fs).size ≤ 9000 := by
  unfold textD
  cases h : textOkD q fs
  · simp only [Bool.false_eq_true, if_false]
    exact Nat.zero_le _
  · unfold textOkD at h
    simp only [Bool.and_eq_true, decide_eq_true_eq] at h
    exact h.2

set_option maxRecDepth 100000 in
set_option maxHeartbeats 1000000 in
theorem drawReadBatch_any (w : World) (ao : Option Addr) (len cap : Nat) (hlen : len ≤ 1048576) (hcode : Code w ao len) :
    Calls Try.prog 12 #[.slice ao len cap] w fun e w' => ∃ T : ByteArray, e = .returned (.string T) ∧ T.size ≤ 30000 ∧ Below w.heap.size w w' := by
  have HC := hide hcode
  clear hcode
  go_enter Try.func12, Try.ntmps12
  go_wp2_with fail
  refine (new_any _ ao len cap hlen HC.out).mono ?_
  rintro e w1 ⟨g, rfl, hc1⟩
  have U1 := hide hc1
  clear hc1
  go_wp2_with fail
  refine (any_any w _ g ao len cap hlen HC.out U1.out).mono ?_
  rintro e w2 ⟨q, a, c, fs, rfl, hrow, hl, hb, hc2, g2⟩
  have U2 := hide hc2
  have HROW := hide hrow
  have HB := hide hb
  clear hc2 g2 hrow hb
  have CT : Hid (Calls Try.prog 8 #[.agg #[.int .i64 q, .slice a fs.length c]] w2 fun e w' => e = .returned (.tuple #[.string (textD q fs), .bool (textOkD q fs)]) ∧ Below w2.heap.size w2 w') := specBatchText_any q fs a c w2 (by omega) (rowChange_rows HROW.out) (fun A hA => by have := HB.out A hA; omega)
  have hz := textD_size q fs
  generalize textD q fs = X at CT hz
  generalize textOkD q fs = ok at CT
  go_wp2_with fail
  refine CT.out.mono ?_
  rintro e w3 ⟨rfl, b3⟩
  have U3 := hide (cur_keep U2.out b3 (cur_lt U2.out))
  clear b3
  go_wp2_with fail
  refine (spoilt_any w _ g ao len cap X hlen hz HC.out U3.out).mono ?_
  rintro e w4 ⟨T, rfl, hT, hc4, g4⟩
  have B4 := hide hc4.1
  clear hc4 g4
  go_wp2
  go_ret
  exact ⟨T, rfl, hT, B4.out⟩
end Go.Proofs.Ytcpbkllonamleab
