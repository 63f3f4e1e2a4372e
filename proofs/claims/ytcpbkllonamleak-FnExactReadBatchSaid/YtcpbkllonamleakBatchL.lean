/- Batches as the laws hold them. -/
import Derived.Test.YtcpbkllonamleakChangeL
namespace Go.Proofs.Ytcpbkllonamleak
open Go.RowKit

theorem szBatch_any (q : Int) (fs : List ChangeD) (ao : Option Addr) (cap : Nat) (n : Int) (w : World) (h0 : 0 ≤ n) (h1 : n ≤ 1048576) (hl : fs.length ≤ maxLen) (hfs : ChangesAt w ao fs) (hsz : ∀ A ∈ fs, A.key.size ≤ maxLen ∧ A.value.size ≤ maxLen) :
    Calls Try.prog 7 #[.agg #[.int .i64 q, .slice ao fs.length cap], .int .i64 n] w fun e w' => (∃ r : Int, e = .returned (.int .i64 r) ∧ (0 ≤ r → r = szChangeDs fs (n - fs.length) ∧ (fs.length : Int) ≤ n)) ∧ Below w.heap.size w w' := by
  have HF := hide hfs
  have HS := hide hsz
  clear hfs hsz
  go_enter Try.func7, Try.ntmps7
  go_wp2_with fail
  refine (szChangeS_any fs ao cap n _ h0 h1 hl (changesAt_keep HF.out ((Below.refl _ w).alloc (Nat.le_refl _) _)) HS.out).mono ?_
  rintro e w1 ⟨rfl, b1⟩
  obtain ⟨R, HR⟩ : ∃ R : Int, Hid ((if n < fs.length then -1 else szChangeDs fs (n - fs.length)) = R) := ⟨_, rfl⟩
  rw [HR.out]
  have B1 : Hid (Below w.heap.size w w1) := ((Below.refl _ w).alloc (Nat.le_refl _) _).trans (b1.mono (by simp))
  clear b1
  by_cases hneg : R < 0
  · have hneg' : decide (R < 0) = true := by simp; omega
    go_wp2
    go_ret
    exact ⟨⟨-1, rfl, fun h => absurd h (by decide)⟩, B1.out⟩
  · have hneg' : decide (R < 0) = false := by simp; omega
    go_wp2
    go_ret
    refine ⟨⟨R, rfl, fun _ => ?_⟩, B1.out⟩
    have := HR.out
    split at this
    · omega
    · exact ⟨this.symm, by omega⟩

set_option maxRecDepth 100000 in
set_option maxHeartbeats 800000 in
theorem toBatch_any (q : Int) (fs : List ChangeD) (ao : Option Addr) (cap : Nat) (w : World) (hl : fs.length ≤ 1048576) (hfs : ChangesAt w ao fs) :
    Calls Try.prog 9 #[.agg #[.int .i64 q, .slice ao fs.length cap]] w fun e w' => (∃ (g : Nat) (C : Array Value), e = .returned (.agg #[.int .i64 q, .slice (some ⟨g, 0, none⟩) fs.length fs.length]) ∧ w.heap.size ≤ g ∧ w'.heap[g]? = some (.cells C 48 (0, 0)) ∧ C.size = fs.length * 3 ∧ ChangesIn C fs fs.length) ∧ Below w.heap.size w w' := by
  have HF := hide hfs
  clear hfs
  go_enter Try.func9, Try.ntmps9
  go_wp2_with fail
  refine (toChangeS_any fs ao cap _ hl (changesAt_keep HF.out ((((Below.refl _ w).alloc (Nat.le_refl _) _).alloc (by simp) _).alloc (by simp; omega) _))).mono ?_
  rintro e w1 ⟨⟨C, rfl, hC, hCs, hI⟩, b1⟩
  have hsz : w.heap.size + 1 + 1 + 1 ≤ w1.heap.size := by have := b1.size; simpa using this
  have hq : w1.heap[w.heap.size + 1 + 1]? = some (.cells #[.int .i64 q, .slice none 0 0] 29 (0, 0)) := (b1.block _ (by simp)).trans (by rw [show w.heap.size + 1 + 1 = ((w.alloc (.cells #[.int .i64 q, .slice ao fs.length cap] 24)).alloc (.cells #[.int .i64 0, .slice none 0 0] 29)).heap.size from by simp]; exact heap_alloc_new _ _)
  have hr : w1.heap[w.heap.size + 1]? = some (.cells #[.int .i64 0, .slice none 0 0] 29 (0, 0)) := (b1.block _ (by simp)).trans (by rw [World.alloc, Array.getElem?_push_lt (by simp), ← Array.getElem?_eq_getElem, show w.heap.size + 1 = (w.alloc (.cells #[.int .i64 q, .slice ao fs.length cap] 24)).heap.size from by simp]; exact heap_alloc_new _ _)
  obtain ⟨G, hG⟩ : ∃ G, G = (((w.alloc (.cells #[.int .i64 q, .slice ao fs.length cap] 24)).alloc (.cells #[.int .i64 0, .slice none 0 0] 29)).alloc (.cells #[.int .i64 q, .slice none 0 0] 29)).heap.size := ⟨_, rfl⟩
  have hGn : G = w.heap.size + 1 + 1 + 1 := by rw [hG]; simp
  rw [← hG] at hC b1 ⊢
  have HB : Hid (Below w.heap.size w w1) := (((((Below.refl _ w).alloc (Nat.le_refl _) _).alloc (by simp) _).alloc (by simp; omega) _)).trans (b1.mono (by omega))
  clear b1 hG
  have hq0 := cell_of_row w1 (w.heap.size + 1 + 1) 0 _ _ (0, 0) hq
  have hq1 := cell_of_row w1 (w.heap.size + 1 + 1) 1 _ _ (0, 0) hq
  have hqf := frozen_of_row w1 (w.heap.size + 1 + 1) 1 _ _ hq
  have hr0 := cell_of_row w1 (w.heap.size + 1) 0 _ _ (0, 0) hr
  have hr1 := cell_of_row w1 (w.heap.size + 1) 1 _ _ (0, 0) hr
  have hrf0 := frozen_of_row w1 (w.heap.size + 1) 0 _ _ hr
  have hrf1 := frozen_of_row w1 (w.heap.size + 1) 1 _ _ hr
  have HC := hide hC
  have HI := hide hI
  have HGn := hide hGn
  clear hC hI hGn hq hr
  go_wp2_with fail
  have hne : (w.heap.size + 1 + 1) ≠ (w.heap.size + 1) := by omega
  refine bodyPost_ret (v := .agg #[.int .i64 q, .slice (some ⟨G, 0, none⟩) fs.length fs.length]) (by simp [results, Try.results9, go_sem, hr0, hr1]) rfl ⟨⟨G, C, rfl, by have := HGn.out; omega, ?_, hCs, HI.out⟩, ?_⟩
  · rw [Below.heap_setCell _ _ _ _ (by have := HGn.out; simp; omega), Below.heap_setCell _ _ _ _ (by have := HGn.out; simp; omega), Below.heap_setCell _ _ _ _ (by have := HGn.out; simp; omega)]; exact HC.out
  · exact ((HB.out.setCell (p := ⟨w.heap.size + 1 + 1, 1, none⟩) (by simp; omega) _).setCell (p := ⟨w.heap.size + 1, 0, none⟩) (by simp) _).setCell (p := ⟨w.heap.size + 1, 1, none⟩) (by simp) _

set_option maxRecDepth 100000 in
theorem eqBatch_same (q : Int) (fs : List ChangeD) (ao ao2 : Option Addr) (cap cap2 : Nat) (w : World) (hl : fs.length ≤ maxLen) (h1 : ChangesAt w ao fs) (h2 : ChangesAt w ao2 fs) :
    Calls Try.prog 11 #[.agg #[.int .i64 q, .slice ao fs.length cap], .agg #[.int .i64 q, .slice ao2 fs.length cap2]] w fun e w' => e = .returned (.bool true) ∧ Below w.heap.size w w' := by
  have H1 := hide h1
  have H2 := hide h2
  clear h1 h2
  have hqq : (!(q == q)) = false := by simp
  go_enter Try.func11, Try.ntmps11
  go_wp2_with fail
  have b0 := ((Below.refl _ w).alloc (Nat.le_refl _) (.cells #[.int .i64 q, .slice ao fs.length cap] 29)).alloc (by simp) (.cells #[.int .i64 q, .slice ao2 fs.length cap2] 29)
  refine (eqChangeS_same fs ao ao2 cap cap2 _ hl (changesAt_keep H1.out b0) (changesAt_keep H2.out b0)).mono ?_
  rintro e w1 ⟨rfl, b1⟩
  have HB := hide (b0.trans (b1.mono b0.size))
  clear b0 b1
  go_wp2
  go_ret
  exact ⟨rfl, HB.out⟩

set_option maxRecDepth 100000 in
theorem markChangeS_nil (k : Int) (w : World) :
    Calls Try.prog 37 #[.slice none 0 0, .int .i64 k] w fun e w' => e = .returned (.int .i64 k) ∧ w' = w := by
  go_enter Try.func37, Try.ntmps37
  go_wp2
  go_loop [1, 5] (fun kk ii => kk = .int .i64 k ∧ ii = .int .i64 0) (fun _ _ => 0)
  case atStart => exact ⟨rfl, rfl⟩
  case round =>
    obtain ⟨rfl, rfl⟩ := hrel
    go_wp2
    go_ret
    exact ⟨rfl, rfl⟩

set_option maxRecDepth 100000 in
theorem markBatch_row (q : Int) (v : Value) (fs : List ChangeD) (B k : Nat) (w : World) (hn : fs.length ≤ 1048576) (hk0 : 0 < k) (hk : k ≤ 10000000) (h : RowChange w B v fs) :
    Calls Try.prog 16 #[.agg #[.int .i64 q, v], .int .i64 (k : Int)] w fun e w' => e = .returned (.int .i64 ((k + 3 * fs.length : Nat) : Int)) ∧ RowChange w' B v (markChangeDs k fs.length) ∧ w.grownBy w' v.ownBlock := by
  rcases h with ⟨rfl, rfl⟩ | ⟨g, cap, C, rfl, hB, hC, hs, hI⟩
  · go_enter Try.func16, Try.ntmps16
    go_wp2_with fail
    refine (markChangeS_nil _ _).mono ?_
    rintro e w1 ⟨rfl, rfl⟩
    go_wp2
    go_ret
    exact ⟨rfl, .inl ⟨rfl, rfl⟩, grownBy_below _ ((Below.refl _ w).alloc (Nat.le_refl _) _)⟩
  · have hgw : g < w.heap.size := (Array.getElem?_eq_some_iff.1 hC).1
    have HC := hide hC
    clear hC hI
    obtain ⟨n, hN⟩ : ∃ n, n = fs.length := ⟨_, rfl⟩
    rw [← hN] at hn hs ⊢
    clear hN
    have b0 : Below w.heap.size w (w.alloc (.cells #[.int .i64 q, .slice (some ⟨g, 0, none⟩) n cap] 29)) := (Below.refl _ w).alloc (Nat.le_refl _) _
    have HB0 := hide b0
    clear b0
    go_enter Try.func16, Try.ntmps16
    go_wp2_with fail
    refine (markChangeS_row g cap n C k _ hn hk0 hk ((HB0.out.block g hgw).trans HC.out) hs).mono ?_
    rintro e w1 ⟨rfl, ⟨C1, hC1, hCs, hI1⟩, hg1⟩
    have H1 := hide hC1
    have H2 := hide hI1
    have H3 := hide hg1
    clear hC1 hI1 hg1
    go_wp2
    go_ret
    have hl := markChangeDs_length k n
    refine ⟨rfl, .inr ⟨g, cap, C1, by rw [hl], hB, H1.out, by omega, by rw [hl]; exact H2.out⟩, grownBy_trans (grownBy_below _ HB0.out) H3.out⟩

set_option maxRecDepth 100000 in
theorem heldBatch_row (q : Int) (v : Value) (n B k : Nat) (w : World) (hn : n ≤ 1048576) (hk0 : 0 < k) (hk : k ≤ 10000000) (h : RowChange w B v (markChangeDs k n)) :
    Calls Try.prog 17 #[.agg #[.int .i64 q, v], .int .i64 (k : Int)] w fun e w' => e = .returned (.int .i64 ((k + 3 * n : Nat) : Int)) ∧ Below w.heap.size w w' := by
  obtain ⟨ao, cap, rfl, h1⟩ := rowChange_at h
  clear h
  rw [markChangeDs_length]
  have H1 := hide h1
  clear h1
  have HB0 : Hid (Below w.heap.size w (w.alloc (.cells #[.int .i64 q, .slice ao n cap] 29))) := (Below.refl _ w).alloc (Nat.le_refl _) _
  obtain ⟨R, HR⟩ : ∃ R : Int, Hid (((k + 3 * n : Nat) : Int) = R) := ⟨_, hide rfl⟩
  have hneg : decide (R < 0) = false := by have := HR.out; simp; omega
  rw [HR.out]
  go_enter Try.func17, Try.ntmps17
  go_wp2_with fail
  refine (heldChangeS_any ao cap n k _ hn hk0 hk (changesAt_keep H1.out HB0.out)).mono ?_
  rintro e w1 ⟨rfl, b1⟩
  rw [HR.out]
  have HB1 := hide (HB0.out.trans (b1.mono HB0.out.size))
  clear b1
  go_wp2
  go_ret
  exact ⟨rfl, HB1.out⟩
end Go.Proofs.Ytcpbkllonamleak
